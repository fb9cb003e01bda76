package grow

import (
	"cmp"
	"math"
	"math/rand"
	"slices"
	"testing"

	"tidehall/api"
)

// at is a box.
func at(x, y, z, a, b, c int) api.Box {
	return api.Box{Base: [3]int{x, y, z}, Size: [3]int{a, b, c}}
}

// many is how many midplanes there are.
func many(d api.Dims) int {
	return d[0] * d[1] * d[2]
}

// bits is a set below n, by its numbers.
func bits(n int, l ...int) api.Set {
	s := make(api.Set, (n+63)/64)
	for _, k := range l {
		s[k/64] |= 1 << (k % 64)
	}
	return s
}

// but is the set of all numbers below n, but for some.
func but(n int, l ...int) api.Set {
	s := bits(n)
	for k := range n {
		if !slices.Contains(l, k) {
			s[k/64] |= 1 << (k % 64)
		}
	}
	return s
}

// some is a set below n, of which each number is in it once in so many.
func some(r *rand.Rand, n, once int) api.Set {
	s := bits(n)
	for k := range n {
		if r.Intn(once) == 0 {
			s[k/64] |= 1 << (k % 64)
		}
	}
	return s
}

// in tells whether a number is in a set.
func in(s api.Set, k int) bool {
	return s[k/64]>>(k%64)&1 == 1
}

// nodes are a box's midplanes, by the words: Base and so many more along each axis, round and round.
func nodes(d api.Dims, b api.Box) []int {
	var l []int
	for z := range b.Size[2] {
		for y := range b.Size[1] {
			for x := range b.Size[0] {
				l = append(l, (b.Base[0]+x)%d[0]+d[0]*((b.Base[1]+y)%d[1]+d[1]*((b.Base[2]+z)%d[2])))
			}
		}
	}
	return l
}

// isFreeByWords tells whether a box has none of a set.
func isFreeByWords(d api.Dims, b api.Box, mids api.Set) bool {
	return !slices.ContainsFunc(nodes(d, b), func(m int) bool { return in(mids, m) })
}

// canonByWords is a box, with Base 0 along each axis that it is as long as.
func canonByWords(d api.Dims, b api.Box) api.Box {
	for axis := range 3 {
		if b.Size[axis] == d[axis] {
			b.Base[axis] = 0
		}
	}
	return b
}

// everyBox are all boxes that may be, canonical or not.
func everyBox(d api.Dims) []api.Box {
	l := []api.Box{{}}
	for axis, n := range d {
		var longer []api.Box
		for _, b := range l {
			for base := range n {
				for size := 1; size <= n; size++ {
					b.Base[axis], b.Size[axis] = base, size
					longer = append(longer, b)
				}
			}
		}
		l = longer
	}
	return l
}

// canonical are all canonical boxes, in order: by the midplane at Base, then by Size.
func canonical(d api.Dims) []api.Box {
	l := slices.DeleteFunc(everyBox(d), func(b api.Box) bool { return b != canonByWords(d, b) })
	base := func(b api.Box) int { return b.Base[0] + d[0]*(b.Base[1]+d[1]*b.Base[2]) }
	slices.SortFunc(l, func(a, b api.Box) int {
		return cmp.Or(cmp.Compare(base(a), base(b)), cmp.Compare(a.Size[0], b.Size[0]), cmp.Compare(a.Size[1], b.Size[1]), cmp.Compare(a.Size[2], b.Size[2]))
	})
	return l
}

// freeByWords are those of the canonical boxes that are free.
func freeByWords(d api.Dims, every []api.Box, mids api.Set) []api.Box {
	return slices.DeleteFunc(slices.Clone(every), func(b api.Box) bool { return !isFreeByWords(d, b, mids) })
}

// word has the bit of each midplane of a box, of a machine of at most 64.
func word(d api.Dims, b api.Box) uint64 {
	var w uint64
	for _, m := range nodes(d, b) {
		w |= 1 << m
	}
	return w
}

// mostByWords are those of some free boxes that no other one has all midplanes of.
func mostByWords(d api.Dims, free []api.Box) []api.Box {
	words := make([]uint64, len(free))
	for i, b := range free {
		words[i] = word(d, b)
	}
	var l []api.Box
	for i, b := range free {
		inOther := false
		for j := range free {
			inOther = inOther || j != i && words[i]&^words[j] == 0
		}
		if !inOther {
			l = append(l, b)
		}
	}
	return l
}

// largestByWords is how many midplanes the largest one of some boxes has.
func largestByWords(l []api.Box) int {
	n := 0
	for _, b := range l {
		n = max(n, b.Size[0]*b.Size[1]*b.Size[2])
	}
	return n
}

// grownByWords is a free box, grown as far as it goes.
func grownByWords(d api.Dims, b api.Box, mids api.Set) api.Box {
	b = canonByWords(d, b)
	for k := 0; k < 6; k++ {
		axis, next := k/2, b
		if next.Size[axis]++; next.Size[axis] > d[axis] {
			continue
		}
		if k%2 == 1 {
			if next.Base[axis]--; next.Base[axis] < 0 {
				next.Base[axis] = d[axis] - 1
			}
		}
		next = canonByWords(d, next)
		if isFreeByWords(d, next, mids) {
			b, k = next, -1
		}
	}
	return b
}

// listsAre asks Free, Most and Largest of a machine, for what they have to answer.
func listsAre(t *testing.T, d api.Dims, mids api.Set, free, most []api.Box, largest int) {
	t.Helper()
	if l, e := Free(d, mids); e != api.OK || !slices.Equal(l, free) {
		t.Error("Free", d, mids, l, e, "not", free)
	}
	if l, e := Most(d, mids); e != api.OK || !slices.Equal(l, most) {
		t.Error("Most", d, mids, l, e, "not", most)
	}
	if n, e := Largest(d, mids); e != api.OK || n != largest {
		t.Error("Largest", d, mids, n, e, "not", largest)
	}
}

// listsAreByWords asks the same, by the words; every are the machine's canonical boxes.
func listsAreByWords(t *testing.T, d api.Dims, every []api.Box, mids api.Set) {
	t.Helper()
	free := freeByWords(d, every, mids)
	listsAre(t, d, mids, free, mostByWords(d, free), largestByWords(free))
}

// grownIs asks Grown for a box.
func grownIs(t *testing.T, d api.Dims, b api.Box, mids api.Set, want api.Box) {
	t.Helper()
	if g, e := Grown(d, b, mids); e != api.OK || g != want {
		t.Error("Grown", d, b, mids, g, e, "not", want)
	}
}

// grownIsByWords asks Grown of a box that may be, free or not.
func grownIsByWords(t *testing.T, d api.Dims, b api.Box, mids api.Set) {
	t.Helper()
	if isFreeByWords(d, b, mids) {
		grownIs(t, d, b, mids, grownByWords(d, b, mids))
	} else {
		refusedGrown(t, d, b, mids, api.ErrTaken)
	}
}

// refusedLists asks Free, Most and Largest for an error and nothing beside it.
func refusedLists(t *testing.T, d api.Dims, mids api.Set, want api.Errno) {
	t.Helper()
	if l, e := Free(d, mids); e != want || len(l) != 0 {
		t.Error("Free", d, mids, l, e, "not", want)
	}
	if l, e := Most(d, mids); e != want || len(l) != 0 {
		t.Error("Most", d, mids, l, e, "not", want)
	}
	if n, e := Largest(d, mids); e != want || n != 0 {
		t.Error("Largest", d, mids, n, e, "not", want)
	}
}

// refusedGrown asks Grown for an error and nothing beside it.
func refusedGrown(t *testing.T, d api.Dims, b api.Box, mids api.Set, want api.Errno) {
	t.Helper()
	if g, e := Grown(d, b, mids); e != want || g != (api.Box{}) {
		t.Error("Grown", d, b, mids, g, e, "not", want)
	}
}

// tinyDims are dimensions of machines of which all sets can be gone through, with axes of 1, of 2, and of more.
func tinyDims() []api.Dims {
	return []api.Dims{{1, 1, 1}, {2, 1, 1}, {1, 2, 1}, {1, 1, 2}, {3, 1, 1}, {1, 4, 1}, {1, 1, 5}, {7, 1, 1}, {2, 2, 1}, {3, 2, 1}, {1, 3, 2}, {2, 1, 4}, {2, 2, 2}}
}

// smallDims are dimensions of machines of at most 64 midplanes.
func smallDims() []api.Dims {
	return []api.Dims{{3, 3, 1}, {1, 4, 4}, {4, 3, 2}, {2, 3, 4}, {3, 3, 3}, {5, 1, 4}, {16, 1, 2}, {2, 7, 3}, {6, 6, 1}}
}

// fullDims are dimensions of machines of just 64 midplanes.
func fullDims() []api.Dims {
	return []api.Dims{{4, 4, 4}, {8, 8, 1}, {1, 8, 8}, {8, 1, 8}, {2, 4, 8}, {16, 4, 1}, {1, 4, 16}, {2, 16, 2}}
}

// greatDims are dimensions of machines of more than 64 midplanes.
func greatDims() []api.Dims {
	return []api.Dims{{5, 13, 1}, {13, 1, 5}, {1, 5, 13}, {11, 3, 2}, {2, 3, 11}, {16, 5, 1}, {8, 8, 2}, {16, 16, 1}, {16, 1, 16}, {16, 16, 16}}
}

// badDims are dimensions that may not be.
func badDims() []api.Dims {
	l := []api.Dims{{}, {-1, -1, 1}, {-1, -1, -1}, {-4, -4, -4}, {17, 17, 17}, {64, 1, 1}, {1, 32, 2}, {math.MaxInt, math.MaxInt, math.MaxInt}, {math.MinInt, math.MinInt, math.MinInt}, {1 << 32, 1 << 32, 1}, {math.MinInt, 2, 1}}
	for axis := range 3 {
		for _, long := range []int{math.MinInt, -1, 0, 17, math.MaxInt} {
			d := api.Dims{1, 1, 1}
			d[axis] = long
			l = append(l, d)
		}
	}
	return l
}

// badSets are sets below n that may not be: without a word, with too few or too many, and with a bit at n or beyond.
func badSets(n int) []api.Set {
	long := len(bits(n))
	l := []api.Set{nil, {}, make(api.Set, long+1), make(api.Set, long+100), append(bits(n, 0), 0), append(but(n), 1)}
	if long > 1 {
		l = append(l, make(api.Set, long-1), but(n)[:long-1])
	}
	for beyond := n; beyond < 64*long; beyond++ {
		l = append(l, bits(64*long, beyond), bits(64*long, 0, beyond))
	}
	return l
}

// badBoxes are boxes that may not be: by each number of Base and Size, by both along one axis, and by all.
func badBoxes(d api.Dims) []api.Box {
	l := []api.Box{{}, {Base: d, Size: d}, at(-1, -1, -1, -1, -1, -1), at(0, 0, 0, 17, 17, 17), {Size: [3]int{d[0] + 1, d[1] + 1, d[2] + 1}}}
	for axis, n := range d {
		for _, good := range []api.Box{at(0, 0, 0, 1, 1, 1), {Size: d}} {
			for _, k := range []int{math.MinInt, -1, n, n + 1, math.MaxInt} {
				b := good
				b.Base[axis] = k
				l = append(l, b)
			}
			for _, k := range []int{math.MinInt, -1, 0, n + 1, 2 * n, math.MaxInt} {
				b := good
				b.Size[axis] = k
				l = append(l, b)
				// The sum of both is one that would do.
				b.Base[axis] = n - k
				l = append(l, b)
			}
		}
	}
	return slices.DeleteFunc(l, func(b api.Box) bool {
		for axis, n := range d {
			if b.Base[axis] < 0 || b.Base[axis] >= n || b.Size[axis] < 1 || b.Size[axis] > n {
				return false
			}
		}
		return true
	})
}

// P13.1, P13.2: the chapter's examples.
func TestExamples(t *testing.T) {
	d := api.Dims{3, 1, 1}
	two := at(2, 0, 0, 2, 1, 1)
	listsAre(t, d, api.Set{2}, []api.Box{at(0, 0, 0, 1, 1, 1), at(2, 0, 0, 1, 1, 1), two}, []api.Box{two}, 2)
	grownIs(t, d, at(0, 0, 0, 1, 1, 1), api.Set{2}, two)
	refusedGrown(t, d, at(1, 0, 0, 1, 1, 1), api.Set{2}, api.ErrTaken)
}

// P13.1: nothing taken, one midplane, some, all; boxes that run on past the last midplane, and such as are as long as an axis, of one Base alone; by the midplane at Base, then by Size, the first axis first.
func TestLists(t *testing.T) {
	one := at(0, 0, 0, 1, 1, 1)
	listsAre(t, api.Dims{1, 1, 1}, api.Set{0}, []api.Box{one}, []api.Box{one}, 1)
	listsAre(t, api.Dims{1, 1, 1}, api.Set{1}, nil, nil, 0)
	listsAre(t, api.Dims{2, 1, 1}, api.Set{0}, []api.Box{one, at(0, 0, 0, 2, 1, 1), at(1, 0, 0, 1, 1, 1)}, []api.Box{at(0, 0, 0, 2, 1, 1)}, 2)
	listsAre(t, api.Dims{2, 1, 1}, api.Set{1}, []api.Box{at(1, 0, 0, 1, 1, 1)}, []api.Box{at(1, 0, 0, 1, 1, 1)}, 1)
	listsAre(t, api.Dims{1, 1, 4}, api.Set{0b0100}, []api.Box{one, at(0, 0, 0, 1, 1, 2), at(0, 0, 1, 1, 1, 1), at(0, 0, 3, 1, 1, 1), at(0, 0, 3, 1, 1, 2), at(0, 0, 3, 1, 1, 3)}, []api.Box{at(0, 0, 3, 1, 1, 3)}, 3)

	d := api.Dims{2, 2, 1}
	all := []api.Box{one, at(0, 0, 0, 1, 2, 1), at(0, 0, 0, 2, 1, 1), at(0, 0, 0, 2, 2, 1), at(1, 0, 0, 1, 1, 1), at(1, 0, 0, 1, 2, 1), at(0, 1, 0, 1, 1, 1), at(0, 1, 0, 2, 1, 1), at(1, 1, 0, 1, 1, 1)}
	listsAre(t, d, api.Set{0}, all, []api.Box{at(0, 0, 0, 2, 2, 1)}, 4)
	listsAre(t, d, api.Set{0b0110}, []api.Box{one, at(1, 1, 0, 1, 1, 1)}, []api.Box{one, at(1, 1, 0, 1, 1, 1)}, 1)
	listsAre(t, d, api.Set{0b1000}, []api.Box{one, at(0, 0, 0, 1, 2, 1), at(0, 0, 0, 2, 1, 1), at(1, 0, 0, 1, 1, 1), at(0, 1, 0, 1, 1, 1)}, []api.Box{at(0, 0, 0, 1, 2, 1), at(0, 0, 0, 2, 1, 1)}, 2)
	listsAre(t, d, api.Set{15}, nil, nil, 0)

	// A cross of two lines that are as long as their axes: neither lies in the other one.
	listsAre(t, api.Dims{3, 3, 1}, but(9, 1, 3, 4, 5, 7), []api.Box{
		at(1, 0, 0, 1, 1, 1), at(1, 0, 0, 1, 2, 1), at(1, 0, 0, 1, 3, 1),
		at(0, 1, 0, 1, 1, 1), at(0, 1, 0, 2, 1, 1), at(0, 1, 0, 3, 1, 1),
		at(1, 1, 0, 1, 1, 1), at(1, 1, 0, 1, 2, 1), at(1, 1, 0, 2, 1, 1),
		at(2, 1, 0, 1, 1, 1), at(2, 1, 0, 2, 1, 1),
		at(1, 2, 0, 1, 1, 1), at(1, 2, 0, 1, 2, 1),
	}, []api.Box{at(1, 0, 0, 1, 3, 1), at(0, 1, 0, 3, 1, 1)}, 3)

	// One that runs past the last midplane along two axes: the four corners, and nothing else.
	corners := []int{0, 3, 12, 15}
	listsAre(t, api.Dims{4, 4, 1}, but(16, corners...), []api.Box{
		one, at(3, 0, 0, 1, 1, 1), at(3, 0, 0, 2, 1, 1),
		at(0, 3, 0, 1, 1, 1), at(0, 3, 0, 1, 2, 1),
		at(3, 3, 0, 1, 1, 1), at(3, 3, 0, 1, 2, 1), at(3, 3, 0, 2, 1, 1), at(3, 3, 0, 2, 2, 1),
	}, []api.Box{at(3, 3, 0, 2, 2, 1)}, 4)
}

// P13.1: on the tiniest machines, whatever is taken.
func TestListsOfEachSet(t *testing.T) {
	for _, d := range tinyDims() {
		every := canonical(d)
		for w := range uint64(1) << many(d) {
			listsAreByWords(t, d, every, api.Set{w})
		}
	}
}

// P13.1: on greater ones, up to 64 midplanes: nothing taken, each midplane alone, all but each one, any, all.
func TestListsByWords(t *testing.T) {
	r := rand.New(rand.NewSource(13))
	for _, d := range append(smallDims(), fullDims()...) {
		n := many(d)
		every := canonical(d)
		listsAreByWords(t, d, every, bits(n))
		listsAreByWords(t, d, every, but(n))
		for _, m := range []int{0, n / 3, n / 2, n - 2, n - 1} {
			listsAreByWords(t, d, every, bits(n, m))
			listsAreByWords(t, d, every, but(n, m))
		}
		for _, once := range []int{1, 2, 2, 3, 4, 6, 10, 20} {
			listsAreByWords(t, d, every, some(r, n, once))
		}
	}
}

// P13.1: on machines of just 64 midplanes with nothing taken, along each axis of n there are n times n - 1 boxes, and the whole one.
func TestHowManyAreFree(t *testing.T) {
	for _, d := range fullDims() {
		want := 1
		for _, n := range d {
			want *= n*(n-1) + 1
		}
		if l, e := Free(d, bits(64)); e != api.OK || len(l) != want {
			t.Error(d, len(l), e, "not", want)
		}
		if l, e := Most(d, bits(64)); e != api.OK || !slices.Equal(l, []api.Box{{Size: d}}) {
			t.Error(d, l, e)
		}
		if n, e := Largest(d, bits(64)); e != api.OK || n != 64 {
			t.Error(d, n, e)
		}
	}
}

// P13.1: more than 64 midplanes are too many, whatever is taken.
func TestTooMany(t *testing.T) {
	for _, d := range greatDims() {
		n := many(d)
		for _, s := range []api.Set{bits(n), bits(n, 0), but(n), but(n, n-1)} {
			refusedLists(t, d, s, api.ErrMany)
		}
	}
}

// P13.2: along no axis, along one, along all; at the end ahead of the beginning, axis 0 ahead of 1 ahead of 2, tried anew behind each step; past the last midplane, up to a whole axis; boxes that are not canonical.
func TestGrown(t *testing.T) {
	one := at(0, 0, 0, 1, 1, 1)
	for _, x := range []struct {
		d       api.Dims
		b       api.Box
		taken   api.Set
		want    api.Box
		because string
	}{
		{api.Dims{1, 1, 1}, one, bits(1), one, "all of it"},
		{api.Dims{4, 3, 2}, at(0, 0, 0, 4, 3, 2), bits(24), at(0, 0, 0, 4, 3, 2), "all of it"},
		{api.Dims{4, 3, 2}, at(3, 2, 1, 4, 3, 2), bits(24), at(0, 0, 0, 4, 3, 2), "all of it, canonical then"},
		{api.Dims{3, 3, 3}, at(1, 1, 1, 1, 1, 1), but(27, 13), at(1, 1, 1, 1, 1, 1), "nothing else is free"},
		{api.Dims{3, 3, 3}, at(1, 1, 1, 1, 1, 1), bits(27, 4, 10, 12, 14, 16, 22), at(1, 1, 1, 1, 1, 1), "nothing beside it is free"},
		{api.Dims{4, 4, 1}, at(2, 1, 0, 4, 1, 1), bits(16, 3, 9), at(0, 1, 0, 4, 1, 1), "no way, canonical then"},

		{api.Dims{5, 1, 1}, at(2, 0, 0, 1, 1, 1), bits(5, 4), at(0, 0, 0, 4, 1, 1), "to the end, then to the beginning"},
		{api.Dims{5, 1, 1}, at(3, 0, 0, 1, 1, 1), bits(5, 1), at(2, 0, 0, 4, 1, 1), "past the last midplane, then to the beginning"},
		{api.Dims{5, 1, 1}, at(0, 0, 0, 1, 1, 1), bits(5, 1), at(2, 0, 0, 4, 1, 1), "to the beginning, back past the first midplane"},
		{api.Dims{5, 1, 1}, at(3, 0, 0, 1, 1, 1), bits(5), at(0, 0, 0, 5, 1, 1), "up to a whole axis"},
		{api.Dims{1, 1, 2}, at(0, 0, 1, 1, 1, 1), bits(2), at(0, 0, 0, 1, 1, 2), "up to a whole axis"},
		{api.Dims{1, 2, 1}, at(0, 1, 0, 1, 1, 1), bits(2, 0), at(0, 1, 0, 1, 1, 1), "no way"},
		{api.Dims{1, 16, 1}, at(0, 9, 0, 1, 3, 1), bits(16, 8), at(0, 9, 0, 1, 15, 1), "to the end, but for the last step"},
		{api.Dims{1, 1, 16}, at(0, 0, 9, 1, 1, 3), bits(16, 12), at(0, 0, 13, 1, 1, 15), "to the beginning, but for the last step"},

		{api.Dims{3, 3, 1}, at(1, 1, 0, 1, 1, 1), bits(9, 2, 3), at(1, 1, 0, 2, 2, 1), "to both ends"},
		{api.Dims{3, 3, 1}, at(1, 1, 0, 1, 1, 1), bits(9, 5, 7), at(0, 0, 0, 2, 2, 1), "to both beginnings"},
		{api.Dims{2, 2, 1}, at(0, 0, 0, 1, 1, 1), bits(4, 3), at(0, 0, 0, 2, 1, 1), "axis 0 ahead of 1"},
		{api.Dims{2, 1, 2}, at(0, 0, 0, 1, 1, 1), bits(4, 3), at(0, 0, 0, 2, 1, 1), "axis 0 ahead of 2"},
		{api.Dims{1, 2, 2}, at(0, 0, 0, 1, 1, 1), bits(4, 3), at(0, 0, 0, 1, 2, 1), "axis 1 ahead of 2"},
		{api.Dims{3, 3, 1}, at(1, 1, 0, 1, 1, 1), bits(9, 5, 6), at(0, 0, 0, 2, 2, 1), "axis 0 at the beginning ahead of axis 1 at the end"},
		{api.Dims{1, 3, 3}, at(0, 1, 1, 1, 1, 1), bits(9, 5, 6), at(0, 0, 0, 1, 2, 2), "axis 1 at the beginning ahead of axis 2 at the end"},
		{api.Dims{4, 4, 1}, at(1, 1, 0, 1, 1, 1), bits(16, 11), at(0, 3, 0, 4, 3, 1), "axis 0 to its end ahead of axis 1"},
		{api.Dims{4, 4, 1}, at(1, 1, 0, 1, 1, 1), bits(16, 7, 8), at(0, 3, 0, 3, 3, 1), "axis 0 both ways, then axis 1 to the beginning"},
		{api.Dims{1, 4, 4}, at(0, 1, 1, 1, 1, 1), bits(16, 11), at(0, 0, 3, 1, 4, 3), "axis 1 to its end ahead of axis 2"},
		{api.Dims{3, 3, 3}, at(2, 2, 2, 1, 1, 1), bits(27, 13), at(0, 0, 2, 3, 3, 2), "past the last midplane along all"},
		{api.Dims{3, 3, 3}, at(1, 2, 0, 3, 2, 1), bits(27), at(0, 0, 0, 3, 3, 3), "not canonical, along all others"},
		{api.Dims{4, 3, 1}, at(3, 1, 0, 4, 1, 1), bits(12, 0), at(0, 1, 0, 4, 2, 1), "not canonical, along one other"},
	} {
		if g, e := Grown(x.d, x.b, x.taken); e != api.OK || g != x.want {
			t.Error(x.because, x.d, x.b, x.taken, g, e, "not", x.want)
		}
	}
}

// P13.2: the boxes that are tried, in order, which the answer does not tell: along each axis at the end ahead of the beginning, anew behind a step, and none that is longer than an axis.
func TestTried(t *testing.T) {
	d := api.Dims{5, 4, 3}
	b := at(0, 3, 0, 1, 1, 1)
	for _, x := range []struct {
		free, tried []api.Box
	}{
		{nil, []api.Box{at(0, 3, 0, 2, 1, 1), at(4, 3, 0, 2, 1, 1), at(0, 3, 0, 1, 2, 1), at(0, 2, 0, 1, 2, 1), at(0, 3, 0, 1, 1, 2), at(0, 3, 2, 1, 1, 2)}},
		{[]api.Box{at(4, 3, 0, 2, 1, 1), at(4, 2, 0, 2, 2, 1), at(4, 2, 2, 2, 2, 2), at(4, 2, 0, 2, 2, 3)}, []api.Box{
			at(0, 3, 0, 2, 1, 1), at(4, 3, 0, 2, 1, 1),
			at(4, 3, 0, 3, 1, 1), at(3, 3, 0, 3, 1, 1), at(4, 3, 0, 2, 2, 1), at(4, 2, 0, 2, 2, 1),
			at(4, 2, 0, 3, 2, 1), at(3, 2, 0, 3, 2, 1), at(4, 2, 0, 2, 3, 1), at(4, 1, 0, 2, 3, 1), at(4, 2, 0, 2, 2, 2), at(4, 2, 2, 2, 2, 2),
			at(4, 2, 2, 3, 2, 2), at(3, 2, 2, 3, 2, 2), at(4, 2, 2, 2, 3, 2), at(4, 1, 2, 2, 3, 2), at(4, 2, 0, 2, 2, 3),
			at(4, 2, 0, 3, 2, 3), at(3, 2, 0, 3, 2, 3), at(4, 2, 0, 2, 3, 3), at(4, 1, 0, 2, 3, 3),
		}},
	} {
		var tried []api.Box
		want := b
		if n := len(x.free); n > 0 {
			want = x.free[n-1]
		}
		g := grown(d, b, func(b api.Box) bool {
			tried = append(tried, b)
			return slices.Contains(x.free, b)
		})
		if g != want || !slices.Equal(tried, x.tried) {
			t.Error(x.free, g, tried, "not", x.tried)
		}
	}
}

// P13.2: on the tiniest machines, each box that may be, whatever is taken.
func TestGrownOfEachSet(t *testing.T) {
	for _, d := range tinyDims() {
		every := everyBox(d)
		for w := range uint64(1) << many(d) {
			for _, b := range every {
				grownIsByWords(t, d, b, api.Set{w})
			}
		}
	}
}

// P13.2: on greater ones, of more than 64 midplanes too.
func TestGrownByWords(t *testing.T) {
	r := rand.New(rand.NewSource(132))
	short := func(n int) int { return 1 + r.Intn(min(n, 3)) }
	for _, d := range append(append(smallDims(), fullDims()...), greatDims()...) {
		n := many(d)
		for range 60 {
			mids := some(r, n, 2+r.Intn(n))
			b := at(r.Intn(d[0]), r.Intn(d[1]), r.Intn(d[2]), short(d[0]), short(d[1]), short(d[2]))
			b.Size[r.Intn(3)] = 1
			grownIsByWords(t, d, b, mids)
			axis := r.Intn(3)
			b.Size[axis] = d[axis]
			grownIsByWords(t, d, b, mids)
			for _, m := range nodes(d, b) {
				mids[m/64] &^= 1 << (m % 64)
			}
			grownIsByWords(t, d, b, mids)
		}
	}
}

// P13.2: on the greatest machine: from anywhere to all of it, up to one midplane that is taken, and none beside the box free.
func TestGrownOnTheGreatest(t *testing.T) {
	d := api.Dims{16, 16, 16}
	whole := at(0, 0, 0, 16, 16, 16)
	grownIs(t, d, at(3, 4, 5, 1, 1, 1), bits(4096), whole)
	grownIs(t, d, at(15, 15, 15, 2, 2, 2), bits(4096), whole)
	grownIs(t, d, at(7, 8, 9, 16, 16, 16), bits(4096), whole)
	grownIs(t, d, at(3, 4, 5, 1, 1, 1), bits(4096, 0), at(0, 0, 1, 16, 16, 15))
	grownIs(t, d, at(3, 4, 0, 1, 1, 1), bits(4096, 0), at(0, 1, 0, 16, 15, 16))
	grownIs(t, d, at(3, 0, 0, 1, 1, 1), bits(4096, 0), at(1, 0, 0, 15, 16, 16))
	grownIs(t, d, at(3, 4, 5, 1, 1, 1), but(4096, 3+16*(4+16*5)), at(3, 4, 5, 1, 1, 1))
	refusedGrown(t, d, whole, bits(4096, 4095), api.ErrTaken)
	refusedGrown(t, d, at(15, 15, 15, 1, 1, 1), but(4096), api.ErrTaken)
}

// P13.2: a box that has but one midplane that is taken, whichever it is, is not free.
func TestTaken(t *testing.T) {
	for _, d := range []api.Dims{{4, 3, 2}, {5, 13, 1}} {
		n := many(d)
		for _, b := range []api.Box{at(0, 0, 0, 1, 1, 1), at(3, 2, 0, 2, 2, 1), at(1, 1, 0, d[0], 2, 1), {Size: d}} {
			own := nodes(d, b)
			for m := range n {
				if slices.Contains(own, m) {
					refusedGrown(t, d, b, bits(n, m), api.ErrTaken)
				}
			}
			refusedGrown(t, d, b, but(n), api.ErrTaken)
			grownIs(t, d, b, but(n, own...), canonByWords(d, b))
		}
	}
}

// All: dimensions that may not be, ahead of all else that may not be.
func TestBadDims(t *testing.T) {
	for _, d := range badDims() {
		for _, s := range []api.Set{{0}, {1}, nil, make(api.Set, 2), make(api.Set, 64), {math.MaxUint64}} {
			refusedLists(t, d, s, api.ErrBad)
			for _, b := range []api.Box{at(0, 0, 0, 1, 1, 1), {}, {Size: d}, {Base: d, Size: d}, at(-1, 0, 0, 1, 1, 1), at(0, 0, 0, 17, 1, 1)} {
				refusedGrown(t, d, b, s, api.ErrBad)
			}
		}
	}
}

// All: sets that may not be, ahead of too many midplanes, and of boxes that may not be.
func TestBadSets(t *testing.T) {
	for _, d := range append(append(tinyDims(), fullDims()...), greatDims()...) {
		for _, s := range badSets(many(d)) {
			refusedLists(t, d, s, api.ErrBad)
			for _, b := range []api.Box{at(0, 0, 0, 1, 1, 1), {Size: d}, {}, at(-1, 0, 0, 1, 1, 1), at(0, 0, 0, 1, 1, 17)} {
				refusedGrown(t, d, b, s, api.ErrBad)
			}
		}
	}
}

// P13.2: boxes that may not be, ahead of what is taken.
func TestBadBoxes(t *testing.T) {
	for _, d := range append(append(tinyDims(), smallDims()...), greatDims()...) {
		n := many(d)
		for _, b := range badBoxes(d) {
			for _, s := range []api.Set{bits(n), bits(n, 0), but(n)} {
				refusedGrown(t, d, b, s, api.ErrArg)
			}
		}
	}
}

// P13.3: a set that is handed in stays as it is, with its spare room, and is not kept; each answer is new memory.
func TestMemory(t *testing.T) {
	d := api.Dims{4, 4, 3}
	n := many(d)
	room := append(bits(n, 0, 21, 47), 7, 8, 9)
	mids, was := room[:1], slices.Clone(room)
	b := at(1, 0, 0, 1, 1, 1)
	for name, call := range map[string]func() ([]api.Box, api.Errno){
		"Free": func() ([]api.Box, api.Errno) { return Free(d, mids) },
		"Most": func() ([]api.Box, api.Errno) { return Most(d, mids) },
	} {
		first, e := call()
		if e != api.OK || len(first) == 0 {
			t.Fatal(name, first, e)
		}
		want := slices.Clone(first)
		second, _ := call()
		clear(second[:cap(second)])
		if third, e := call(); e != api.OK || !slices.Equal(first, want) || !slices.Equal(third, want) {
			t.Error(name, "shared", first, third, e)
		}
	}
	free, _ := Free(d, mids)
	most, _ := Most(d, mids)
	wasFree, wasMost := slices.Clone(free), slices.Clone(most)
	large, _ := Largest(d, mids)
	grown, e := Grown(d, b, mids)
	if !slices.Equal(room, was) || e != api.OK {
		t.Error("turned", room, was, e)
	}
	mids[0] = 0
	if !slices.Equal(free, wasFree) || !slices.Equal(most, wasMost) {
		t.Error("kept", free, most)
	}
	whole := at(0, 0, 0, 4, 4, 3)
	listsAreByWords(t, d, canonical(d), mids)
	grownIs(t, d, b, mids, whole)
	if grown == whole || large == n {
		t.Error(grown, large)
	}
}

// P13.4: each free box lies in one of Most, what is grown is one of Most that the box lies in, and each free midplane is in one of Most.
func TestFollows(t *testing.T) {
	r := rand.New(rand.NewSource(134))
	for _, d := range append(append(tinyDims(), smallDims()...), fullDims()...) {
		n := many(d)
		every := everyBox(d)
		for _, mids := range []api.Set{bits(n), bits(n, n-1), but(n, 0), some(r, n, 2), some(r, n, 3), some(r, n, 8)} {
			most, e := Most(d, mids)
			if e != api.OK {
				t.Fatal(d, mids, e)
			}
			words := map[api.Box]uint64{}
			var all uint64
			for _, b := range most {
				words[b] = word(d, b)
				all |= words[b]
			}
			if want := but(n)[0] &^ mids[0]; all != want {
				t.Error("midplanes", d, mids, most, all, want)
			}
			for _, b := range every {
				own := word(d, b)
				if own&mids[0] != 0 {
					continue
				}
				if !slices.ContainsFunc(most, func(m api.Box) bool { return own&^words[m] == 0 }) {
					t.Error("in none", d, mids, b, most)
				}
				if g, e := Grown(d, b, mids); e != api.OK || words[g] == 0 || own&^words[g] != 0 {
					t.Error("grown", d, mids, b, g, e, most)
				}
			}
		}
	}
}
