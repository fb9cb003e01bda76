package spots

import (
	"cmp"
	"math"
	"math/rand"
	"slices"
	"testing"

	"tidehall/api"
	"tidehall/free"
	"tidehall/turn"
)

// many is how many midplanes there are.
func many(d api.Dims) int {
	return d[0] * d[1] * d[2]
}

// bits is a set below n, by its numbers.
func bits(n int, l ...int) api.Set {
	s := make(api.Set, (n+63)/64)
	for _, k := range l {
		s[k/64] |= 1 << (k % 64)
	}
	return s
}

// full is the set of all numbers below n.
func full(n int) api.Set {
	s := bits(n)
	for k := range n {
		s[k/64] |= 1 << (k % 64)
	}
	return s
}

// some is a set below n, of which each number is in it once in so many.
func some(r *rand.Rand, n, once int) api.Set {
	s := bits(n)
	for k := range n {
		if r.Intn(once) == 0 {
			s[k/64] |= 1 << (k % 64)
		}
	}
	return s
}

// in tells whether a number is in a set.
func in(s api.Set, k int) bool {
	return s[k/64]>>(k%64)&1 == 1
}

// tori are those by letters.
func tori(letters string) (t [3]bool) {
	for axis := range 3 {
		t[axis] = letters[axis] == 't'
	}
	return t
}

// of is a place: base, size, tori by letters.
func of(base, size [3]int, torus string) api.Place {
	return api.Place{Box: api.Box{Base: base, Size: size}, Torus: tori(torus)}
}

// wants is what is asked for: shape, tori by letters, turned or not.
func wants(shape [3]int, torus string, turned bool) api.Wants {
	return api.Wants{Shape: shape, Torus: tori(torus), Turn: turned}
}

// everyPlace are all places that may be.
func everyPlace(d api.Dims) []api.Place {
	list := []api.Place{{}}
	for axis, n := range d {
		var longer []api.Place
		for _, p := range list {
			for size := 1; size <= n; size++ {
				for base := range n {
					if size == n && base > 0 {
						continue
					}
					p.Box.Base[axis], p.Box.Size[axis], p.Torus[axis] = base, size, false
					longer = append(longer, p)
					if size > 1 {
						p.Torus[axis] = true
						longer = append(longer, p)
					}
				}
			}
		}
		list = longer
	}
	return list
}

// everyWants is all that can be asked for with lengths up to one, turned and not.
func everyWants(most int) []api.Wants {
	var l []api.Wants
	for k := range most * most * most {
		for t := range 8 {
			w := api.Wants{Shape: [3]int{k%most + 1, k/most%most + 1, k/most/most + 1}, Torus: [3]bool{t&1 > 0, t&2 > 0, t&4 > 0}}
			l = append(l, w)
			w.Turn = true
			l = append(l, w)
		}
	}
	return l
}

// isByWords tells whether a place that may be is one of what is asked for: by some order of the axes, that which they have if it may not be turned.
func isByWords(w api.Wants, p api.Place) bool {
	for a := range 3 {
		for b := range 3 {
			c := 3 - a - b
			if a == b || !w.Turn && (a != 0 || b != 1) {
				continue
			}
			well := true
			for axis, from := range [3]int{a, b, c} {
				size := w.Shape[from]
				well = well && p.Box.Size[axis] == size && p.Torus[axis] == (w.Torus[from] && size > 1)
			}
			if well {
				return true
			}
		}
	}
	return false
}

// freeByWords tells whether a place takes nothing of the sets: its midplanes are those less than Size on from Base along each axis, and of the cables along an axis those from such midplanes, but for the last one of a mesh, and all of the lines of a torus.
func freeByWords(d api.Dims, p api.Place, mids, links api.Set) bool {
	n := many(d)
	for m := range n {
		at := [3]int{m % d[0], m / d[0] % d[1], m / d[0] / d[1]}
		var inside, between [3]bool
		for axis := range 3 {
			on := (at[axis] - p.Box.Base[axis] + d[axis]) % d[axis]
			inside[axis] = on < p.Box.Size[axis]
			between[axis] = on+1 < p.Box.Size[axis] || p.Torus[axis]
		}
		if inside[0] && inside[1] && inside[2] && in(mids, m) {
			return false
		}
		for axis := range 3 {
			if between[axis] && inside[(axis+1)%3] && inside[(axis+2)%3] && in(links, axis*n+m) {
				return false
			}
		}
	}
	return true
}

// order tells which of two places comes first: by the midplane at Base, then by Size, then by Torus.
func order(d api.Dims, a, b api.Place) int {
	at := func(p api.Place) int {
		return p.Box.Base[0] + d[0]*(p.Box.Base[1]+d[1]*p.Box.Base[2])
	}
	ring := func(p api.Place) []int {
		l := make([]int, 3)
		for axis, torus := range p.Torus {
			if torus {
				l[axis] = 1
			}
		}
		return l
	}
	return cmp.Or(cmp.Compare(at(a), at(b)), slices.Compare(a.Box.Size[:], b.Box.Size[:]), slices.Compare(ring(a), ring(b)))
}

// allByWords are those of all places that may be that are asked for and free, in order.
func allByWords(d api.Dims, every []api.Place, w api.Wants, mids, links api.Set) []api.Place {
	var l []api.Place
	for _, p := range every {
		if isByWords(w, p) && freeByWords(d, p, mids, links) {
			l = append(l, p)
		}
	}
	slices.SortFunc(l, func(a, b api.Place) int { return order(d, a, b) })
	return l
}

// smallDims are dimensions of machines of which all places can be gone through, with axes of 1 and of more.
func smallDims() []api.Dims {
	return []api.Dims{{1, 1, 1}, {2, 1, 1}, {1, 3, 1}, {1, 1, 4}, {3, 2, 1}, {1, 2, 3}, {2, 2, 2}, {3, 2, 2}, {3, 3, 3}}
}

// badDims are dimensions that may not be.
func badDims() []api.Dims {
	l := []api.Dims{{}, {-1, -1, 1}, {-1, -1, -1}, {17, 17, 17}, {math.MaxInt, math.MaxInt, math.MaxInt}, {1 << 32, 1 << 32, 1}, {math.MinInt, 2, 1}}
	for axis := range 3 {
		for _, long := range []int{math.MinInt, -1, 0, 17, math.MaxInt} {
			d := api.Dims{1, 1, 1}
			d[axis] = long
			l = append(l, d)
		}
	}
	return l
}

// badWants is what may not be asked for: by each number of the shape, and by all, with tori and without, turned and not.
func badWants() []api.Wants {
	shapes := [][3]int{{}, {17, 17, 17}, {-1, -1, -1}, {-1, -1, 1}, {math.MaxInt, math.MaxInt, math.MaxInt}, {math.MinInt, math.MinInt, math.MinInt}}
	for axis := range 3 {
		for _, long := range []int{math.MinInt, -1, 0, 17, math.MaxInt} {
			s := [3]int{1, 2, 1}
			s[axis] = long
			shapes = append(shapes, s)
		}
	}
	var l []api.Wants
	for _, s := range shapes {
		for _, torus := range []string{"---", "t--", "ttt"} {
			l = append(l, wants(s, torus, false), wants(s, torus, true))
		}
	}
	return l
}

// badSets are sets below n that may not be: without a word, with one too few or too many, and with a bit beyond.
func badSets(n int) []api.Set {
	long := len(bits(n))
	l := []api.Set{nil, {}, make(api.Set, long+1), make(api.Set, long+100)}
	if long > 1 {
		l = append(l, make(api.Set, long-1))
	}
	for beyond := n; beyond < 64*long; beyond++ {
		l = append(l, bits(64*long, beyond), bits(64*long, 0, beyond))
	}
	return append(l, append(bits(n, 0), 0))
}

// badPlaces are places that may not be, of dimensions 2 3 1: by their base, their size, a base that is not canonical, and a torus along an axis of size 1.
func badPlaces() []api.Place {
	l := []api.Place{
		{}, of([3]int{1, 0, 0}, [3]int{2, 1, 1}, "---"), of([3]int{0, 2, 0}, [3]int{1, 3, 1}, "---"), of([3]int{0, 0, 0}, [3]int{3, 1, 1}, "---"), of([3]int{0, 0, 0}, [3]int{1, 4, 1}, "---"),
		of([3]int{0, 0, 0}, [3]int{1, 1, 1}, "t--"), of([3]int{0, 0, 0}, [3]int{2, 1, 1}, "-t-"), of([3]int{0, 0, 0}, [3]int{2, 3, 1}, "ttt"),
	}
	for axis, n := range [3]int{2, 3, 1} {
		for _, k := range []int{math.MinInt, -1, n, n + 1, math.MaxInt} {
			p := of([3]int{}, [3]int{1, 1, 1}, "---")
			p.Box.Base[axis] = k
			l = append(l, p)
		}
		for _, k := range []int{math.MinInt, -1, 0, n + 1, math.MaxInt} {
			p := of([3]int{}, [3]int{1, 1, 1}, "---")
			p.Box.Size[axis] = k
			l = append(l, p)
		}
	}
	return l
}

// allIs asks All for some places, in order.
func allIs(t *testing.T, d api.Dims, w api.Wants, mids, links api.Set, want []api.Place) {
	t.Helper()
	if l, e := All(d, w, mids, links); e != api.OK || !slices.Equal(l, want) {
		t.Error("All", d, w, mids, links, l, e, "not", want)
	}
}

// manyIs asks Many for a number, and All, with nothing to be avoided, for as many places.
func manyIs(t *testing.T, d api.Dims, w api.Wants, want int) {
	t.Helper()
	if n, e := Many(d, w); e != api.OK || n != want {
		t.Error("Many", d, w, n, e, "not", want)
	}
	n := many(d)
	if l, e := All(d, w, bits(n), bits(3*n)); e != api.OK || len(l) != want {
		t.Error("All", d, w, len(l), e, "not", want)
	}
}

// isIs asks Is of a place that may be.
func isIs(t *testing.T, d api.Dims, w api.Wants, p api.Place, want bool) {
	t.Helper()
	if is, e := Is(d, w, p); e != api.OK || is != want {
		t.Error("Is", d, w, p, is, e, "not", want)
	}
}

// refusedAll asks All for an error and nothing beside it.
func refusedAll(t *testing.T, d api.Dims, w api.Wants, mids, links api.Set, want api.Errno) {
	t.Helper()
	if l, e := All(d, w, mids, links); e != want || len(l) != 0 {
		t.Error("All", d, w, mids, links, l, e, "not", want)
	}
}

// refusedIs asks Is for an error and nothing beside it.
func refusedIs(t *testing.T, d api.Dims, w api.Wants, p api.Place, want api.Errno) {
	t.Helper()
	if is, e := Is(d, w, p); e != want || is {
		t.Error("Is", d, w, p, is, e, "not", want)
	}
}

// refusedMany asks Many for an error and nothing beside it.
func refusedMany(t *testing.T, d api.Dims, w api.Wants, want api.Errno) {
	t.Helper()
	if n, e := Many(d, w); e != want || n != 0 {
		t.Error("Many", d, w, n, e, "not", want)
	}
}

// P12.1: the chapter's examples.
func TestExamples(t *testing.T) {
	d := api.Dims{3, 2, 1}
	manyIs(t, d, wants([3]int{1, 1, 1}, "---", false), 6)
	manyIs(t, d, wants([3]int{3, 1, 1}, "---", false), 2)
	manyIs(t, d, wants([3]int{2, 1, 1}, "---", false), 6)
	manyIs(t, d, wants([3]int{2, 1, 1}, "---", true), 9)
	allIs(t, d, wants([3]int{2, 1, 1}, "---", false), bits(6, 0, 4), bits(18), []api.Place{of([3]int{1, 0, 0}, [3]int{2, 1, 1}, "---"), of([3]int{2, 1, 0}, [3]int{2, 1, 1}, "---")})
}

// P12.1: shapes that fit no way, one way and every way, as long as an axis, of one Size by several rotations, and with tori along axes of Size 1.
func TestMany(t *testing.T) {
	for _, x := range []struct {
		d         api.Dims
		shape     [3]int
		torus     string
		not, turn int
	}{
		{api.Dims{3, 2, 1}, [3]int{4, 1, 1}, "---", 0, 0}, {api.Dims{3, 2, 1}, [3]int{1, 1, 2}, "---", 0, 9}, {api.Dims{3, 2, 1}, [3]int{1, 2, 3}, "---", 0, 1}, {api.Dims{3, 2, 1}, [3]int{2, 2, 2}, "---", 0, 0}, {api.Dims{3, 2, 1}, [3]int{16, 16, 16}, "ttt", 0, 0},
		{api.Dims{3, 2, 1}, [3]int{3, 2, 1}, "tt-", 1, 1}, {api.Dims{3, 2, 1}, [3]int{3, 2, 1}, "ttt", 1, 1}, {api.Dims{3, 2, 1}, [3]int{1, 1, 1}, "ttt", 6, 6}, {api.Dims{3, 2, 1}, [3]int{2, 2, 1}, "t--", 3, 6}, {api.Dims{3, 2, 1}, [3]int{2, 2, 1}, "tt-", 3, 3}, {api.Dims{3, 2, 1}, [3]int{2, 1, 1}, "-tt", 6, 9}, {api.Dims{3, 2, 1}, [3]int{2, 1, 1}, "-t-", 6, 9}, {api.Dims{3, 2, 1}, [3]int{1, 2, 1}, "---", 3, 9},
		{api.Dims{4, 4, 4}, [3]int{1, 2, 3}, "---", 64, 384}, {api.Dims{4, 4, 4}, [3]int{1, 2, 3}, "ttt", 64, 384}, {api.Dims{4, 4, 4}, [3]int{1, 1, 2}, "---", 64, 192}, {api.Dims{4, 4, 4}, [3]int{1, 1, 2}, "t--", 64, 192}, {api.Dims{4, 4, 4}, [3]int{2, 2, 2}, "---", 64, 64}, {api.Dims{4, 4, 4}, [3]int{2, 2, 2}, "t--", 64, 192}, {api.Dims{4, 4, 4}, [3]int{2, 2, 2}, "tt-", 64, 192}, {api.Dims{4, 4, 4}, [3]int{2, 2, 2}, "ttt", 64, 64}, {api.Dims{4, 4, 4}, [3]int{2, 2, 3}, "t--", 64, 384}, {api.Dims{4, 4, 4}, [3]int{4, 4, 4}, "t--", 1, 3}, {api.Dims{4, 4, 4}, [3]int{4, 4, 1}, "---", 4, 12}, {api.Dims{4, 4, 4}, [3]int{4, 1, 1}, "ttt", 16, 48}, {api.Dims{4, 4, 4}, [3]int{5, 1, 1}, "---", 0, 0},
		{api.Dims{1, 1, 1}, [3]int{1, 1, 1}, "---", 1, 1}, {api.Dims{1, 1, 1}, [3]int{1, 1, 1}, "ttt", 1, 1}, {api.Dims{1, 1, 1}, [3]int{1, 1, 2}, "---", 0, 0}, {api.Dims{1, 5, 1}, [3]int{3, 1, 1}, "t--", 0, 5}, {api.Dims{1, 1, 16}, [3]int{1, 1, 16}, "--t", 1, 1}, {api.Dims{1, 1, 16}, [3]int{15, 1, 1}, "---", 0, 16},
		{api.Dims{16, 16, 16}, [3]int{1, 1, 1}, "---", 4096, 4096}, {api.Dims{16, 16, 16}, [3]int{16, 16, 16}, "ttt", 1, 1}, {api.Dims{16, 16, 16}, [3]int{16, 1, 1}, "---", 256, 768}, {api.Dims{16, 16, 16}, [3]int{16, 15, 16}, "---", 16, 48}, {api.Dims{16, 16, 16}, [3]int{1, 2, 4}, "t-t", 4096, 24576}, {api.Dims{16, 16, 16}, [3]int{15, 15, 15}, "ttt", 4096, 4096},
	} {
		manyIs(t, x.d, wants(x.shape, x.torus, false), x.not)
		manyIs(t, x.d, wants(x.shape, x.torus, true), x.turn)
	}
}

// P12.1: what may be turned and has a torus, with nothing to be avoided, some midplanes, some cables, both and everything.
func TestAll(t *testing.T) {
	d := api.Dims{3, 2, 1}
	w := wants([3]int{2, 1, 1}, "t--", true)
	up := func(x, y int) api.Place { return of([3]int{x, y, 0}, [3]int{1, 2, 1}, "-t-") }
	on := func(x, y int) api.Place { return of([3]int{x, y, 0}, [3]int{2, 1, 1}, "t--") }
	for _, x := range []struct {
		mids, links []int
		want        []api.Place
	}{
		{nil, nil, []api.Place{up(0, 0), on(0, 0), up(1, 0), on(1, 0), up(2, 0), on(2, 0), on(0, 1), on(1, 1), on(2, 1)}},
		{[]int{0}, nil, []api.Place{up(1, 0), on(1, 0), up(2, 0), on(0, 1), on(1, 1), on(2, 1)}},
		{[]int{0, 4}, nil, []api.Place{on(1, 0), up(2, 0), on(2, 1)}},
		{nil, []int{1}, []api.Place{up(0, 0), up(1, 0), up(2, 0), on(0, 1), on(1, 1), on(2, 1)}},
		{nil, []int{9}, []api.Place{on(0, 0), up(1, 0), on(1, 0), up(2, 0), on(2, 0), on(0, 1), on(1, 1), on(2, 1)}}, // a torus of 0 and 3 takes the cable back
		{nil, []int{6, 11}, []api.Place{on(0, 0), up(1, 0), on(1, 0), on(2, 0), on(0, 1), on(1, 1), on(2, 1)}},
		{[]int{2}, []int{3, 7}, []api.Place{up(0, 0), on(0, 0)}},
		{nil, []int{12, 13, 14, 15, 16, 17}, []api.Place{up(0, 0), on(0, 0), up(1, 0), on(1, 0), up(2, 0), on(2, 0), on(0, 1), on(1, 1), on(2, 1)}},
		{[]int{0, 1, 2, 3, 4, 5}, nil, nil},
		{nil, []int{0, 3, 6, 7, 8}, nil},
	} {
		allIs(t, d, w, bits(6, x.mids...), bits(18, x.links...), x.want)
	}
	allIs(t, d, w, full(6), full(18), nil)
}

// P12.1: places of several rotations at one Base: by Size, the first axis first, then by Torus, false ahead of true; and Bases by the midplane's number, not by the first coordinate.
func TestOrder(t *testing.T) {
	d := api.Dims{3, 3, 3}
	base := func(size [3]int, torus string) api.Place { return of([3]int{}, size, torus) }
	firstOf := func(w api.Wants, want ...api.Place) {
		t.Helper()
		l, e := All(d, w, bits(27), bits(81))
		if e != api.OK || len(l) < len(want) || !slices.Equal(l[:len(want)], want) {
			t.Error(w, l, e)
		}
	}
	firstOf(wants([3]int{3, 2, 1}, "t--", true), base([3]int{1, 2, 3}, "--t"), base([3]int{1, 3, 2}, "-t-"), base([3]int{2, 1, 3}, "--t"), base([3]int{2, 3, 1}, "-t-"), base([3]int{3, 1, 2}, "t--"), base([3]int{3, 2, 1}, "t--"), of([3]int{1, 0, 0}, [3]int{1, 2, 3}, "--t"))
	firstOf(wants([3]int{2, 2, 2}, "t--", true), base([3]int{2, 2, 2}, "--t"), base([3]int{2, 2, 2}, "-t-"), base([3]int{2, 2, 2}, "t--"), of([3]int{1, 0, 0}, [3]int{2, 2, 2}, "--t"))
	firstOf(wants([3]int{2, 2, 2}, "t-t", true), base([3]int{2, 2, 2}, "-tt"), base([3]int{2, 2, 2}, "t-t"), base([3]int{2, 2, 2}, "tt-"))
	firstOf(wants([3]int{2, 2, 1}, "-t-", true), base([3]int{1, 2, 2}, "--t"), base([3]int{1, 2, 2}, "-t-"), base([3]int{2, 1, 2}, "--t"), base([3]int{2, 1, 2}, "t--"), base([3]int{2, 2, 1}, "-t-"), base([3]int{2, 2, 1}, "t--"), of([3]int{1, 0, 0}, [3]int{1, 2, 2}, "--t"))
	one := wants([3]int{1, 1, 1}, "---", false)
	firstOf(one, of([3]int{0, 0, 0}, [3]int{1, 1, 1}, "---"), of([3]int{1, 0, 0}, [3]int{1, 1, 1}, "---"), of([3]int{2, 0, 0}, [3]int{1, 1, 1}, "---"), of([3]int{0, 1, 0}, [3]int{1, 1, 1}, "---"))
	allIs(t, api.Dims{3, 2, 2}, wants([3]int{3, 1, 1}, "t--", false), bits(12, 0), bits(36), []api.Place{of([3]int{0, 1, 0}, [3]int{3, 1, 1}, "t--"), of([3]int{0, 0, 1}, [3]int{3, 1, 1}, "t--"), of([3]int{0, 1, 1}, [3]int{3, 1, 1}, "t--")})
}

// P12.1: on small machines, of all that can be asked for, with nothing, each midplane, each cable, and sets of any to be avoided.
func TestAllByWords(t *testing.T) {
	r := rand.New(rand.NewSource(12))
	for _, d := range smallDims() {
		n := many(d)
		every := everyPlace(d)
		for i, w := range everyWants(4) {
			allIs(t, d, w, bits(n), bits(3*n), allByWords(d, every, w, bits(n), bits(3*n)))
			mids, links := some(r, n, 2+i%6), some(r, 3*n, 2+i%9)
			allIs(t, d, w, mids, bits(3*n), allByWords(d, every, w, mids, bits(3*n)))
			allIs(t, d, w, bits(n), links, allByWords(d, every, w, bits(n), links))
			allIs(t, d, w, mids, links, allByWords(d, every, w, mids, links))
			allIs(t, d, w, full(n), bits(3*n), nil)
		}
	}
	for _, d := range []api.Dims{{1, 3, 1}, {3, 2, 1}, {2, 2, 2}} {
		n := many(d)
		every := everyPlace(d)
		for _, w := range everyWants(3) {
			for m := range n {
				allIs(t, d, w, bits(n, m), bits(3*n), allByWords(d, every, w, bits(n, m), bits(3*n)))
			}
			for k := range 3 * n {
				allIs(t, d, w, bits(n), bits(3*n, k), allByWords(d, every, w, bits(n), bits(3*n, k)))
			}
		}
	}
}

// P12.1: a torus needs the cables past midplanes outside it, a mesh does not; neither needs those midplanes.
func TestAllOfTori(t *testing.T) {
	d := api.Dims{4, 1, 1}
	mesh, torus := wants([3]int{2, 1, 1}, "---", false), wants([3]int{2, 1, 1}, "t--", false)
	allIs(t, d, mesh, bits(4, 0), bits(12), []api.Place{of([3]int{1, 0, 0}, [3]int{2, 1, 1}, "---"), of([3]int{2, 0, 0}, [3]int{2, 1, 1}, "---")})
	allIs(t, d, torus, bits(4, 0), bits(12), []api.Place{of([3]int{1, 0, 0}, [3]int{2, 1, 1}, "t--"), of([3]int{2, 0, 0}, [3]int{2, 1, 1}, "t--")})
	allIs(t, d, mesh, bits(4), bits(12, 3), []api.Place{of([3]int{0, 0, 0}, [3]int{2, 1, 1}, "---"), of([3]int{1, 0, 0}, [3]int{2, 1, 1}, "---"), of([3]int{2, 0, 0}, [3]int{2, 1, 1}, "---")})
	allIs(t, d, torus, bits(4), bits(12, 3), nil)
	allIs(t, d, wants([3]int{4, 1, 1}, "---", false), bits(4), bits(12, 3), []api.Place{of([3]int{}, [3]int{4, 1, 1}, "---")})
	allIs(t, d, wants([3]int{4, 1, 1}, "t--", false), bits(4), bits(12, 3), nil)
	allIs(t, d, wants([3]int{1, 1, 1}, "ttt", false), bits(4, 1, 2), full(12), []api.Place{of([3]int{}, [3]int{1, 1, 1}, "---"), of([3]int{3, 0, 0}, [3]int{1, 1, 1}, "---")})
}

// P12.1: on a machine as great as can be, with one midplane or one cable to be avoided: gone are just the places that take it.
func TestAllOfGreatest(t *testing.T) {
	d := api.Dims{16, 16, 16}
	for _, x := range []struct {
		w           api.Wants
		mids, links []int
		want        int
	}{
		{wants([3]int{1, 1, 1}, "---", false), []int{4095}, []int{12287}, 4095},
		{wants([3]int{2, 3, 4}, "---", true), []int{4095}, nil, 6 * (4096 - 24)},
		{wants([3]int{2, 3, 4}, "ttt", true), nil, []int{12287}, 24576 - 2*16*(6+8+12)},
		{wants([3]int{2, 3, 4}, "---", false), nil, []int{12287}, 4096 - 2*3*3},
		{wants([3]int{15, 15, 15}, "ttt", false), []int{0}, nil, 4096 - 15*15*15},
		{wants([3]int{13, 14, 15}, "t-t", true), []int{2077}, nil, 6 * (4096 - 13*14*15)},
		{wants([3]int{16, 16, 1}, "---", true), []int{4095}, nil, 45},
		{wants([3]int{16, 16, 16}, "ttt", true), nil, nil, 1},
		{wants([3]int{16, 16, 16}, "ttt", true), nil, []int{8191}, 0},
	} {
		l, e := All(d, x.w, bits(4096, x.mids...), bits(12288, x.links...))
		if e != api.OK || len(l) != x.want {
			t.Error(x.w, len(l), e, "not", x.want)
		}
		for i := range l {
			if i > 0 && order(d, l[i-1], l[i]) >= 0 {
				t.Error("not rising", x.w, l[i-1], l[i])
			}
			if !isByWords(x.w, l[i]) {
				t.Error("not one of these", x.w, l[i])
			}
		}
	}
}

// P12.1: a place of the shape, of another rotation, with other tori, with one along an axis of Size 1 left out, of another size.
func TestIs(t *testing.T) {
	d := api.Dims{3, 2, 1}
	not, turned := wants([3]int{2, 1, 1}, "t--", false), wants([3]int{2, 1, 1}, "t--", true)
	left, all := wants([3]int{2, 1, 1}, "-t-", true), wants([3]int{2, 1, 1}, "ttt", true)
	for _, x := range []struct {
		p                      api.Place
		not, turned, left, all bool
	}{
		{of([3]int{}, [3]int{2, 1, 1}, "t--"), true, true, false, true},
		{of([3]int{2, 1, 0}, [3]int{2, 1, 1}, "t--"), true, true, false, true},
		{of([3]int{1, 0, 0}, [3]int{1, 2, 1}, "-t-"), false, true, false, true},
		{of([3]int{1, 0, 0}, [3]int{1, 2, 1}, "---"), false, false, true, false},
		{of([3]int{}, [3]int{2, 1, 1}, "---"), false, false, true, false},
		{of([3]int{}, [3]int{1, 1, 1}, "---"), false, false, false, false},
		{of([3]int{}, [3]int{2, 2, 1}, "t--"), false, false, false, false},
		{of([3]int{}, [3]int{3, 1, 1}, "t--"), false, false, false, false},
	} {
		isIs(t, d, not, x.p, x.not)
		isIs(t, d, turned, x.p, x.turned)
		isIs(t, d, left, x.p, x.left)
		isIs(t, d, all, x.p, x.all)
	}
	two := wants([3]int{2, 2, 1}, "t--", false)
	isIs(t, d, two, of([3]int{1, 0, 0}, [3]int{2, 2, 1}, "t--"), true)
	isIs(t, d, two, of([3]int{1, 0, 0}, [3]int{2, 2, 1}, "-t-"), false)
	two.Turn = true
	isIs(t, d, two, of([3]int{1, 0, 0}, [3]int{2, 2, 1}, "-t-"), true)
	isIs(t, d, two, of([3]int{1, 0, 0}, [3]int{2, 2, 1}, "tt-"), false)
	isIs(t, d, wants([3]int{16, 16, 16}, "---", true), of([3]int{}, [3]int{1, 1, 1}, "---"), false)
	isIs(t, api.Dims{16, 16, 16}, wants([3]int{16, 16, 16}, "t--", true), of([3]int{}, [3]int{16, 16, 16}, "--t"), true)
}

// P12.1: each place of small machines, of all that can be asked for, and how many of them are.
func TestIsByWords(t *testing.T) {
	for _, d := range smallDims() {
		every := everyPlace(d)
		for _, w := range everyWants(4) {
			n := 0
			for _, p := range every {
				want := isByWords(w, p)
				if want {
					n++
				}
				isIs(t, d, w, p, want)
			}
			manyIs(t, d, w, n)
		}
	}
}

// P12.1: dimensions that may not be, and what may not be asked for, ahead of all else that may not be.
func TestRefused(t *testing.T) {
	good := wants([3]int{2, 1, 1}, "t--", true)
	p := of([3]int{}, [3]int{1, 1, 1}, "---")
	for _, d := range badDims() {
		for _, w := range []api.Wants{good, {}, wants([3]int{17, 1, 1}, "---", false)} {
			refusedMany(t, d, w, api.ErrBad)
			for _, s := range []api.Set{bits(6), nil, make(api.Set, 9)} {
				refusedAll(t, d, w, s, bits(18), api.ErrBad)
				refusedAll(t, d, w, bits(6), s, api.ErrBad)
			}
			for _, q := range append(badPlaces(), p) {
				refusedIs(t, d, w, q, api.ErrBad)
			}
		}
	}
	for _, d := range []api.Dims{{2, 3, 1}, {16, 16, 16}} {
		n := many(d)
		for _, w := range badWants() {
			refusedMany(t, d, w, api.ErrBad)
			refusedAll(t, d, w, bits(n), bits(3*n), api.ErrBad)
			refusedAll(t, d, w, nil, bits(3*n), api.ErrBad)
			refusedAll(t, d, w, bits(n), nil, api.ErrBad)
			for _, q := range append(badPlaces(), p) {
				refusedIs(t, d, w, q, api.ErrBad)
			}
		}
	}
}

// P12.1: each set that may not be, also where no rotation fits or a place is not free of the other one; and each place that may not be, also such as have the shape.
func TestRefusedSetsAndPlaces(t *testing.T) {
	asked := []api.Wants{wants([3]int{2, 1, 1}, "t--", true), wants([3]int{1, 1, 1}, "---", false), wants([3]int{16, 1, 1}, "---", false), wants([3]int{5, 5, 5}, "ttt", true)}
	for _, d := range []api.Dims{{1, 1, 1}, {2, 3, 1}, {4, 4, 4}, {5, 13, 1}, {16, 16, 16}} {
		n := many(d)
		for _, w := range asked {
			if n == 4096 && w.Shape[0] != 16 {
				continue
			}
			for _, s := range badSets(n) {
				refusedAll(t, d, w, s, bits(3*n), api.ErrBad)
				refusedAll(t, d, w, s, full(3*n), api.ErrBad)
				refusedAll(t, d, w, s, nil, api.ErrBad)
			}
			for _, s := range badSets(3 * n) {
				refusedAll(t, d, w, bits(n), s, api.ErrBad)
				refusedAll(t, d, w, full(n), s, api.ErrBad)
				refusedAll(t, d, w, nil, s, api.ErrBad)
			}
		}
	}
	asked = append(asked, wants([3]int{2, 1, 1}, "-t-", false), wants([3]int{1, 1, 1}, "ttt", true), wants([3]int{1, 3, 1}, "---", true), wants([3]int{2, 3, 1}, "ttt", true), wants([3]int{3, 1, 1}, "---", true))
	for _, w := range asked {
		for _, p := range badPlaces() {
			refusedIs(t, api.Dims{2, 3, 1}, w, p, api.ErrArg)
		}
	}
}

// P12.2: sets that are handed in stay as they are, with their spare room, and are not kept; each answer is new memory.
func TestMemory(t *testing.T) {
	d := api.Dims{5, 13, 1}
	w := wants([3]int{2, 1, 1}, "t--", true)
	room := func(n int, l ...int) (api.Set, api.Set) {
		s := append(bits(n, l...), 7, 8, 9)
		return s[:len(s)-3], s
	}
	mids, allMids := room(65, 0, 64)
	links, allLinks := room(195, 0, 194)
	wasMids, wasLinks := slices.Clone(allMids), slices.Clone(allLinks)
	first, e := All(d, w, mids, links)
	if e != api.OK || len(first) == 0 {
		t.Fatal(first, e)
	}
	if !slices.Equal(allMids, wasMids) || !slices.Equal(allLinks, wasLinks) {
		t.Error("turned", allMids, allLinks)
	}
	was := slices.Clone(first)
	second, e := All(d, w, mids, links)
	if e != api.OK || !slices.Equal(second, was) {
		t.Error(second, e)
	}
	clear(second[:cap(second)])
	if !slices.Equal(first, was) {
		t.Error("shared", first)
	}
	clear(mids)
	clear(links)
	if !slices.Equal(first, was) {
		t.Error("kept", first)
	}
	third, e := All(d, w, mids, links)
	if n, _ := Many(d, w); e != api.OK || len(third) != n || n <= len(first) {
		t.Error(len(third), n, e)
	}
}

// P12.3: a place is one of what is asked for, and free of sets, just if All has it.
func TestFollows(t *testing.T) {
	r := rand.New(rand.NewSource(123))
	for _, d := range smallDims() {
		n := many(d)
		every := everyPlace(d)
		for _, once := range []int{3, 5, 20} {
			mids, links := some(r, n, once), some(r, 3*n, 2*once)
			var loose []api.Place
			for _, p := range every {
				holds, e := free.Holds(d, p, mids, links)
				if e != api.OK {
					t.Fatal(d, p, e)
				}
				if holds {
					loose = append(loose, p)
				}
			}
			slices.SortFunc(loose, func(a, b api.Place) int { return order(d, a, b) })
			for _, w := range everyWants(4) {
				var want []api.Place
				for _, p := range loose {
					is, e := Is(d, w, p)
					if e != api.OK {
						t.Fatal(d, w, p, e)
					}
					if is {
						want = append(want, p)
					}
				}
				allIs(t, d, w, mids, links, want)
			}
		}
	}
}

// P12.3: with nothing to be avoided there are Many, and some just if a rotation fits.
func TestFits(t *testing.T) {
	for _, d := range append(smallDims(), api.Dims{4, 1, 4}, api.Dims{16, 1, 2}) {
		for _, w := range append(everyWants(4), wants([3]int{16, 1, 1}, "---", false), wants([3]int{1, 16, 2}, "-t-", true)) {
			fits, e := turn.Fits(d, w)
			k, e2 := Many(d, w)
			if e != api.OK || e2 != api.OK || fits != (k > 0) {
				t.Error(d, w, fits, k, e, e2)
			}
			manyIs(t, d, w, k)
		}
	}
}

// P12.3: what may be turned has the places of each of its rotations, each once, and no others.
func TestTurned(t *testing.T) {
	r := rand.New(rand.NewSource(1234))
	for _, d := range smallDims() {
		n := many(d)
		for i, w := range everyWants(4) {
			if !w.Turn {
				continue
			}
			mids, links := some(r, n, 4+i%5), some(r, 3*n, 6+i%7)
			rotations, e := turn.All(w)
			if e != api.OK {
				t.Fatal(w, e)
			}
			var l []api.Place
			for _, one := range rotations {
				one.Turn = false
				some, e := All(d, one, mids, links)
				if e != api.OK {
					t.Fatal(d, one, e)
				}
				l = append(l, some...)
			}
			slices.SortFunc(l, func(a, b api.Place) int { return order(d, a, b) })
			allIs(t, d, w, mids, links, slices.Compact(l))
		}
	}
}
