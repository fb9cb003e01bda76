package place

import (
	"math"
	"slices"
	"testing"

	"tidehall/api"
	"tidehall/box"
	"tidehall/set"
	"tidehall/wire"
)

// wild are numbers that are no dimension, some of which are one if their high bits are lost.
var wild = []int{math.MinInt, math.MinInt + 1, -1 << 32, -17, -16, -1, 0, 17, 18, 32, 1 << 32, 1<<32 + 1, math.MaxInt - 1, math.MaxInt}

// few are dimensions of all kinds that are small enough to try each place.
var few = []api.Dims{{1, 1, 1}, {2, 1, 1}, {1, 2, 1}, {1, 1, 2}, {2, 2, 1}, {2, 2, 2}, {3, 1, 2}, {4, 3, 1}, {4, 3, 2}, {2, 3, 4}, {3, 4, 2}, {1, 5, 3}, {5, 1, 4}, {3, 3, 3}, {16, 1, 1}, {1, 16, 1}, {1, 1, 16}}

// fewer are dimensions that are small enough to try each pair of places.
var fewer = []api.Dims{{1, 1, 1}, {2, 1, 1}, {1, 3, 1}, {1, 1, 6}, {4, 2, 1}, {1, 4, 2}, {2, 1, 4}, {2, 2, 2}, {3, 3, 1}, {3, 2, 2}}

// greatest are the greatest dimensions.
var greatest = api.Dims{16, 16, 16}

// of is a place: base, size, tori by letters.
func of(base, size [3]int, torus string) api.Place {
	p := api.Place{Box: api.Box{Base: base, Size: size}}
	for axis := range 3 {
		p.Torus[axis] = torus[axis] == 't'
	}
	return p
}

// everyPlace are all places that may be, by the chapter's words.
func everyPlace(d api.Dims) []api.Place {
	list := []api.Place{{}}
	for axis, n := range d {
		var longer []api.Place
		for _, p := range list {
			for size := 1; size <= n; size++ {
				for base := range n {
					if size == n && base > 0 {
						continue
					}
					p.Box.Base[axis], p.Box.Size[axis] = base, size
					p.Torus[axis] = false
					longer = append(longer, p)
					if size > 1 {
						p.Torus[axis] = true
						longer = append(longer, p)
					}
				}
			}
		}
		list = longer
	}
	return list
}

// greatPlaces are some places of the greatest dimensions.
func greatPlaces() []api.Place {
	return []api.Place{
		of([3]int{0, 0, 0}, [3]int{16, 16, 16}, "---"),
		of([3]int{0, 0, 0}, [3]int{16, 16, 16}, "ttt"),
		of([3]int{15, 15, 15}, [3]int{1, 1, 1}, "---"),
		of([3]int{15, 15, 15}, [3]int{2, 2, 2}, "ttt"),
		of([3]int{15, 15, 15}, [3]int{15, 15, 15}, "t-t"),
		of([3]int{9, 0, 12}, [3]int{8, 16, 5}, "-tt"),
		of([3]int{1, 2, 3}, [3]int{15, 1, 2}, "t--"),
		of([3]int{0, 8, 0}, [3]int{16, 9, 1}, "tt-"),
	}
}

// coords are a midplane's coordinates.
func coords(d api.Dims, m int) [3]int {
	return [3]int{m % d[0], m / d[0] % d[1], m / d[0] / d[1]}
}

// many is how many midplanes there are.
func many(d api.Dims) int {
	return d[0] * d[1] * d[2]
}

// after are how many steps on from a place's Base a midplane lies, along each axis.
func after(d api.Dims, p api.Place, m int) [3]int {
	at := coords(d, m)
	for axis := range at {
		for k := range d[axis] {
			if (p.Box.Base[axis]+k)%d[axis] == at[axis] {
				at[axis] = k
				break
			}
		}
	}
	return at
}

// owns tells whether a midplane is one of a place's.
func owns(d api.Dims, p api.Place, m int) bool {
	by := after(d, p, m)
	return by[0] < p.Box.Size[0] && by[1] < p.Box.Size[1] && by[2] < p.Box.Size[2]
}

// takes tells whether a place takes the cable that goes from a midplane on along an axis: its line is one of the box's, and it lies between two of the box's midplanes, or the place is a torus there.
func takes(d api.Dims, p api.Place, axis, m int) bool {
	by := after(d, p, m)
	for other := range 3 {
		if other != axis && by[other] >= p.Box.Size[other] {
			return false
		}
	}
	return p.Torus[axis] || by[axis]+1 < p.Box.Size[axis]
}

// next is the midplane that comes behind one.
func next(d api.Dims, axis, m int) int {
	at := coords(d, m)
	at[axis] = (at[axis] + 1) % d[axis]
	return at[0] + d[0]*(at[1]+d[1]*at[2])
}

// byWords are a place's midplanes, its cables, and the midplanes that it passes, all rising.
func byWords(d api.Dims, p api.Place) (mids, links, passed []int) {
	n := many(d)
	for m := range n {
		if owns(d, p, m) {
			mids = append(mids, m)
		}
	}
	for link := range 3 * n {
		axis, from := link/n, link%n
		if !takes(d, p, axis, from) {
			continue
		}
		links = append(links, link)
		for _, end := range []int{from, next(d, axis, from)} {
			if !owns(d, p, end) {
				passed = append(passed, end)
			}
		}
	}
	slices.Sort(passed)
	return mids, links, slices.Compact(passed)
}

// words are the words of a set of numbers below n.
func words(n int, list []int) api.Set {
	s := make(api.Set, (n+63)/64)
	for _, k := range list {
		s[k/64] |= 1 << (k % 64)
	}
	return s
}

func mustSets(t *testing.T, d api.Dims, p api.Place) (mids, links api.Set) {
	t.Helper()
	mids, links, e := Sets(d, p)
	if e != api.OK {
		t.Fatal("Sets", d, p, e)
	}
	return mids, links
}

func mustLists(t *testing.T, d api.Dims, p api.Place) (mids, links []int) {
	t.Helper()
	a, b := mustSets(t, d, p)
	mids, e := set.List(many(d), a)
	links, f := set.List(3*many(d), b)
	if e != api.OK || f != api.OK {
		t.Fatal("List", d, p, e, f)
	}
	return mids, links
}

func mustPass(t *testing.T, d api.Dims, p api.Place) []int {
	t.Helper()
	list, e := Passes(d, p)
	if e != api.OK {
		t.Fatal("Passes", d, p, e)
	}
	return list
}

func mustApart(t *testing.T, d api.Dims, a, b api.Place) bool {
	t.Helper()
	is, e := Apart(d, a, b)
	if e != api.OK {
		t.Fatal("Apart", d, a, b, e)
	}
	return is
}

// isByWords tells of each call that does not answer a place as the chapter's words do.
func isByWords(t *testing.T, d api.Dims, p api.Place) {
	t.Helper()
	mids, links, passed := byWords(d, p)
	if e := Check(d, p); e != api.OK {
		t.Error("Check", d, p, e)
	}
	a, b, e := Sets(d, p)
	if !slices.Equal(a, words(many(d), mids)) || !slices.Equal(b, words(3*many(d), links)) || e != api.OK {
		t.Error("Sets", d, p, a, b, e, mids, links)
	}
	if l, e := Passes(d, p); !slices.Equal(l, passed) || e != api.OK {
		t.Error("Passes", d, p, l, e, passed)
	}
}

// P6.1: all places of small dimensions, those along dimensions of 1, those that wrap, and all kinds of tori among them.
func TestPlacesAreByWords(t *testing.T) {
	for _, d := range few {
		for _, p := range everyPlace(d) {
			isByWords(t, d, p)
		}
	}
}

// P6.1: places of the greatest dimensions.
func TestGreatPlacesAreByWords(t *testing.T) {
	for _, p := range greatPlaces() {
		isByWords(t, greatest, p)
	}
}

// P6.1: places of one midplane, of two and as long as the dimension, meshes and tori, past the end, with midplanes passed and none, written out.
func TestPlacesInFull(t *testing.T) {
	for i, c := range []struct {
		d                   api.Dims
		p                   api.Place
		mids, links, passed []int
	}{
		{api.Dims{1, 1, 1}, of([3]int{}, [3]int{1, 1, 1}, "---"), []int{0}, nil, nil},
		{api.Dims{5, 1, 1}, of([3]int{4, 0, 0}, [3]int{1, 1, 1}, "---"), []int{4}, nil, nil},
		{api.Dims{5, 1, 1}, of([3]int{1, 0, 0}, [3]int{2, 1, 1}, "---"), []int{1, 2}, []int{1}, nil},
		{api.Dims{5, 1, 1}, of([3]int{1, 0, 0}, [3]int{2, 1, 1}, "t--"), []int{1, 2}, []int{0, 1, 2, 3, 4}, []int{0, 3, 4}},
		{api.Dims{5, 1, 1}, of([3]int{3, 0, 0}, [3]int{4, 1, 1}, "---"), []int{0, 1, 3, 4}, []int{0, 3, 4}, nil},
		{api.Dims{5, 1, 1}, of([3]int{3, 0, 0}, [3]int{4, 1, 1}, "t--"), []int{0, 1, 3, 4}, []int{0, 1, 2, 3, 4}, []int{2}},
		{api.Dims{5, 1, 1}, of([3]int{0, 0, 0}, [3]int{5, 1, 1}, "---"), []int{0, 1, 2, 3, 4}, []int{0, 1, 2, 3}, nil},
		{api.Dims{5, 1, 1}, of([3]int{0, 0, 0}, [3]int{5, 1, 1}, "t--"), []int{0, 1, 2, 3, 4}, []int{0, 1, 2, 3, 4}, nil},
		{api.Dims{1, 2, 1}, of([3]int{0, 0, 0}, [3]int{1, 2, 1}, "---"), []int{0, 1}, []int{2}, nil},
		{api.Dims{1, 2, 1}, of([3]int{0, 0, 0}, [3]int{1, 2, 1}, "-t-"), []int{0, 1}, []int{2, 3}, nil},
		{api.Dims{1, 1, 3}, of([3]int{0, 0, 2}, [3]int{1, 1, 2}, "---"), []int{0, 2}, []int{8}, nil},
		{api.Dims{1, 1, 3}, of([3]int{0, 0, 2}, [3]int{1, 1, 2}, "--t"), []int{0, 2}, []int{6, 7, 8}, []int{1}},
		{api.Dims{3, 3, 1}, of([3]int{2, 2, 0}, [3]int{2, 2, 1}, "---"), []int{0, 2, 6, 8}, []int{2, 8, 15, 17}, nil},
		{api.Dims{3, 3, 1}, of([3]int{2, 2, 0}, [3]int{2, 2, 1}, "t--"), []int{0, 2, 6, 8}, []int{0, 1, 2, 6, 7, 8, 15, 17}, []int{1, 7}},
		{api.Dims{3, 3, 1}, of([3]int{2, 2, 0}, [3]int{2, 2, 1}, "-t-"), []int{0, 2, 6, 8}, []int{2, 8, 9, 11, 12, 14, 15, 17}, []int{3, 5}},
		{api.Dims{3, 3, 1}, of([3]int{2, 2, 0}, [3]int{2, 2, 1}, "tt-"), []int{0, 2, 6, 8}, []int{0, 1, 2, 6, 7, 8, 9, 11, 12, 14, 15, 17}, []int{1, 3, 5, 7}},
	} {
		mids, links := mustLists(t, c.d, c.p)
		if !slices.Equal(mids, c.mids) || !slices.Equal(links, c.links) {
			t.Error(i, mids, links)
		}
		if l := mustPass(t, c.d, c.p); !slices.Equal(l, c.passed) {
			t.Error(i, l)
		}
	}
}

// common tells whether any number is in both of two lists.
func common(a, b []int) bool {
	return slices.ContainsFunc(a, func(k int) bool { return slices.Contains(b, k) })
}

// P6.2: all pairs of places of small dimensions.
func TestApartIsByWords(t *testing.T) {
	for _, d := range fewer {
		all := everyPlace(d)
		mids, links := make([][]int, len(all)), make([][]int, len(all))
		for i, p := range all {
			mids[i], links[i], _ = byWords(d, p)
		}
		for i, a := range all {
			for k, b := range all {
				want := !common(mids[i], mids[k]) && !common(links[i], links[k])
				if is := mustApart(t, d, a, b); is != want {
					t.Fatal(d, a, b, is)
				}
			}
		}
	}
}

// P6.2: places whose boxes meet, and whose boxes do not, by cables that pass or not, written out, both ways round.
func TestApartInFull(t *testing.T) {
	for i, c := range []struct {
		d    api.Dims
		a, b api.Place
		is   bool
	}{
		// The same box, and one within the other.
		{api.Dims{4, 1, 1}, of([3]int{1, 0, 0}, [3]int{1, 1, 1}, "---"), of([3]int{1, 0, 0}, [3]int{1, 1, 1}, "---"), false},
		{api.Dims{4, 1, 1}, of([3]int{1, 0, 0}, [3]int{1, 1, 1}, "---"), of([3]int{0, 0, 0}, [3]int{4, 1, 1}, "---"), false},
		// They have a midplane in common, and no cable.
		{api.Dims{4, 1, 1}, of([3]int{0, 0, 0}, [3]int{2, 1, 1}, "---"), of([3]int{1, 0, 0}, [3]int{2, 1, 1}, "---"), false},
		{api.Dims{4, 4, 1}, of([3]int{0, 0, 0}, [3]int{2, 1, 1}, "---"), of([3]int{0, 0, 0}, [3]int{1, 2, 1}, "---"), false},
		// Two meshes, one of them past the end.
		{api.Dims{4, 1, 1}, of([3]int{3, 0, 0}, [3]int{2, 1, 1}, "---"), of([3]int{1, 0, 0}, [3]int{2, 1, 1}, "---"), true},
		// The torus passes: what takes a cable there, and what takes none.
		{api.Dims{4, 1, 1}, of([3]int{3, 0, 0}, [3]int{2, 1, 1}, "t--"), of([3]int{1, 0, 0}, [3]int{2, 1, 1}, "---"), false},
		{api.Dims{4, 1, 1}, of([3]int{3, 0, 0}, [3]int{2, 1, 1}, "t--"), of([3]int{1, 0, 0}, [3]int{2, 1, 1}, "t--"), false},
		{api.Dims{4, 1, 1}, of([3]int{3, 0, 0}, [3]int{2, 1, 1}, "t--"), of([3]int{1, 0, 0}, [3]int{1, 1, 1}, "---"), true},
		// It passes along another axis than the other one has cables.
		{api.Dims{4, 4, 1}, of([3]int{0, 0, 0}, [3]int{2, 1, 1}, "t--"), of([3]int{2, 0, 0}, [3]int{1, 2, 1}, "-t-"), true},
		{api.Dims{4, 4, 1}, of([3]int{0, 0, 0}, [3]int{2, 1, 1}, "t--"), of([3]int{2, 0, 0}, [3]int{2, 2, 1}, "-t-"), false},
		// They pass one another: each is a torus on lines of its own.
		{api.Dims{4, 4, 1}, of([3]int{0, 0, 0}, [3]int{2, 1, 1}, "t--"), of([3]int{0, 1, 0}, [3]int{2, 1, 1}, "t--"), true},
		{greatest, of([3]int{15, 15, 15}, [3]int{2, 2, 2}, "ttt"), of([3]int{3, 3, 3}, [3]int{4, 4, 4}, "ttt"), true},
		{greatest, of([3]int{15, 15, 15}, [3]int{2, 2, 2}, "ttt"), of([3]int{3, 15, 15}, [3]int{2, 1, 1}, "---"), false},
		{greatest, of([3]int{15, 15, 15}, [3]int{2, 2, 2}, "ttt"), of([3]int{15, 0, 3}, [3]int{1, 1, 2}, "---"), false},
	} {
		if is := mustApart(t, c.d, c.a, c.b); is != c.is {
			t.Error(i, is)
		}
		if is := mustApart(t, c.d, c.b, c.a); is != c.is {
			t.Error(i, "the other way round", is)
		}
	}
}

// refused tells of each call that does not answer this error alone; good is a place that may be, if any may.
func refused(t *testing.T, d api.Dims, p, good api.Place, want api.Errno) {
	t.Helper()
	if e := Check(d, p); e != want {
		t.Error("Check", d, p, e)
	}
	if mids, links, e := Sets(d, p); mids != nil || links != nil || e != want {
		t.Error("Sets", d, p, mids, links, e)
	}
	if l, e := Passes(d, p); l != nil || e != want {
		t.Error("Passes", d, p, l, e)
	}
	for _, two := range [][2]api.Place{{p, good}, {good, p}, {p, p}} {
		if is, e := Apart(d, two[0], two[1]); is || e != want {
			t.Error("Apart", d, two, is, e)
		}
	}
}

// All promises: dimensions that may not be are told first, whatever the place is.
func TestBadDims(t *testing.T) {
	list := []api.Dims{{}, {-1, -1, 4}, {32, 1, 1}, {1, 1, 4096}, {1 << 32, 1 << 32, 1}}
	for _, n := range wild {
		for _, good := range []int{1, 4, 16} {
			list = append(list, api.Dims{n, good, good}, api.Dims{good, n, good}, api.Dims{good, good, n}, api.Dims{n, n, n})
		}
	}
	one := of([3]int{}, [3]int{1, 1, 1}, "---")
	for _, d := range list {
		for _, p := range []api.Place{one, {}, of([3]int{}, d, "---"), of([3]int{}, d, "ttt"), of([3]int{}, [3]int{1, 1, 1}, "ttt"), of([3]int{-1, 0, 0}, [3]int{0, 99, 1}, "t-t")} {
			refused(t, d, p, one, api.ErrBad)
		}
	}
}

// outside are numbers that are not from low to high.
func outside(low, high int) []int {
	return []int{math.MinInt, math.MinInt + 1, -1 << 32, low - 2, low - 1, high + 1, high + 2, 1 << 32, 1<<32 + low, math.MaxInt - 1, math.MaxInt}
}

// All promises: a box that may not be, by its Base or its Size along each axis.
func TestWrongBox(t *testing.T) {
	for _, d := range append(few, greatest) {
		one := of([3]int{}, [3]int{1, 1, 1}, "---")
		for axis := range 3 {
			for _, good := range []api.Place{one, of([3]int{}, d, "---")} {
				for _, base := range outside(0, d[axis]-1) {
					p := good
					p.Box.Base[axis] = base
					refused(t, d, p, good, api.ErrArg)
				}
				for _, size := range outside(1, d[axis]) {
					for _, torus := range []bool{false, true} {
						p := good
						p.Box.Size[axis], p.Torus[axis] = size, torus
						refused(t, d, p, good, api.ErrArg)
					}
				}
			}
		}
		refused(t, d, api.Place{}, one, api.ErrArg)
	}
}

// All promises: a box that may be and is not canonical, as a mesh and as a torus.
func TestNotCanonical(t *testing.T) {
	for _, d := range append(few, greatest) {
		one := of([3]int{}, [3]int{1, 1, 1}, "---")
		for axis := range 3 {
			for _, size := range [][3]int{{1, 1, 1}, d} {
				for base := 1; base < d[axis]; base++ {
					p := of([3]int{}, size, "---")
					p.Box.Base[axis], p.Box.Size[axis] = base, d[axis]
					refused(t, d, p, one, api.ErrArg)
					p.Torus[axis] = true
					refused(t, d, p, one, api.ErrArg)
				}
			}
		}
	}
}

// All promises: a torus along an axis along which the Size is 1, whether or not the dimension is 1, and whatever the other axes are.
func TestTorusOfOne(t *testing.T) {
	for _, d := range few {
		for _, good := range everyPlace(d) {
			for axis := range 3 {
				if good.Box.Size[axis] > 1 {
					continue
				}
				p := good
				p.Torus[axis] = true
				if e := Check(d, p); e != api.ErrArg {
					t.Error("Check", d, p, e)
				}
			}
		}
	}
	for axis := range 3 {
		for _, d := range []api.Dims{{1, 1, 1}, {4, 3, 2}, greatest} {
			for _, size := range [][3]int{{1, 1, 1}, d} {
				good := of([3]int{}, size, "---")
				good.Box.Size[axis] = 1
				p := good
				p.Torus[axis] = true
				refused(t, d, p, good, api.ErrArg)
			}
		}
	}
}

// spoilSet writes into all of a set, its spare room too.
func spoilSet(s api.Set) {
	s = s[:cap(s)]
	for i := range s {
		s[i] = 0xa5a5a5a5a5a5a5a5
	}
}

// spoilList writes into all of a list, its spare room too.
func spoilList(l []int) {
	l = l[:cap(l)]
	for i := range l {
		l[i] = -7
	}
}

// P6.3: neither what is written into an answer, nor a later call, changes another one.
func TestNewMemory(t *testing.T) {
	for _, d := range few {
		for _, p := range everyPlace(d) {
			a, b, passed := byWords(d, p)
			mids, links := words(many(d), a), words(3*many(d), b)
			firstMids, firstLinks := mustSets(t, d, p)
			laterMids, laterLinks := mustSets(t, d, p)
			firstPassed, laterPassed := mustPass(t, d, p), mustPass(t, d, p)
			spoilSet(firstMids)
			if !slices.Equal(firstLinks, links) {
				t.Fatal("both sets share memory", d, p)
			}
			spoilSet(firstLinks)
			spoilList(firstPassed)
			mustSets(t, api.Dims{2, 3, 2}, of([3]int{1, 2, 0}, [3]int{1, 2, 2}, "-tt"))
			mustPass(t, api.Dims{2, 3, 2}, of([3]int{1, 2, 0}, [3]int{1, 2, 2}, "-tt"))
			if !slices.Equal(laterMids, mids) || !slices.Equal(laterLinks, links) || !slices.Equal(laterPassed, passed) {
				t.Fatal("an answer was written into", d, p)
			}
			isByWords(t, d, p)
		}
	}
}

// along are the cables of a list that go along an axis.
func along(d api.Dims, links []int, axis int) []int {
	list := []int{}
	for _, link := range links {
		if link/many(d) == axis {
			list = append(list, link)
		}
	}
	return list
}

// lines are the cables of all lines along an axis through midplanes.
func lines(t *testing.T, d api.Dims, mids []int, axis int) []int {
	t.Helper()
	list := []int{}
	for _, m := range mids {
		l, e := wire.Line(d, axis, m)
		if e != api.OK {
			t.Fatal("Line", d, axis, m, e)
		}
		list = append(list, l...)
	}
	slices.Sort(list)
	return slices.Compact(list)
}

// P6.4: how many cables a mesh takes along an axis, and that a torus takes all of its lines there.
func TestCablesAlongAxes(t *testing.T) {
	check := func(d api.Dims, p api.Place) {
		mids, links := mustLists(t, d, p)
		for axis, size := range p.Box.Size {
			got := along(d, links, axis)
			if p.Torus[axis] && !slices.Equal(got, lines(t, d, mids, axis)) {
				t.Fatal("torus", d, p, axis, got)
			}
			if !p.Torus[axis] && len(got) != len(mids)/size*(size-1) {
				t.Fatal("mesh", d, p, axis, got)
			}
		}
	}
	for _, d := range few {
		for _, p := range everyPlace(d) {
			check(d, p)
		}
	}
	for _, p := range greatPlaces() {
		check(greatest, p)
	}
}

// P6.4: the same box as a mesh, along one axis or all, takes no cable that it does not take as a torus, and the same midplanes.
func TestMeshIsInTorus(t *testing.T) {
	for _, d := range few {
		for _, p := range everyPlace(d) {
			mids, links := mustSets(t, d, p)
			for _, off := range [][3]bool{{true, false, false}, {false, true, false}, {false, false, true}, {true, true, true}} {
				mesh := p
				for axis := range off {
					mesh.Torus[axis] = p.Torus[axis] && !off[axis]
				}
				meshMids, meshLinks := mustSets(t, d, mesh)
				if in, e := set.In(3*many(d), meshLinks, links); !in || e != api.OK || !slices.Equal(meshMids, mids) {
					t.Fatal(d, p, mesh, in, e)
				}
			}
		}
	}
}

// P6.4: what is passed lies off the box along just one axis, along which the place is a torus, and shorter than the dimension; where there is such an axis, something is passed.
func TestPassedAlongTori(t *testing.T) {
	check := func(d api.Dims, p api.Place) {
		want := false
		for axis := range 3 {
			want = want || p.Torus[axis] && p.Box.Size[axis] < d[axis]
		}
		passed := mustPass(t, d, p)
		if (len(passed) > 0) != want {
			t.Fatal("passed at all", d, p, passed)
		}
		for _, m := range passed {
			off := 0
			for axis, by := range after(d, p, m) {
				if by < p.Box.Size[axis] {
					continue
				}
				off++
				if !p.Torus[axis] {
					t.Fatal("passed along a mesh", d, p, m)
				}
			}
			if off != 1 {
				t.Fatal("off the box along", off, "axes", d, p, m)
			}
		}
	}
	for _, d := range few {
		for _, p := range everyPlace(d) {
			check(d, p)
		}
	}
	for _, p := range greatPlaces() {
		check(greatest, p)
	}
}

// P6.4: places whose boxes meet are not apart; of the others those that are not apart are so by cables that pass, and there are such, and others.
func TestMeetAndApart(t *testing.T) {
	apart, byCable := 0, 0
	for _, d := range fewer {
		all := everyPlace(d)
		for _, a := range all {
			for _, b := range all {
				meet, e := box.Meet(d, a.Box, b.Box)
				is := mustApart(t, d, a, b)
				if meet && is || e != api.OK {
					t.Fatal("they meet", d, a, b, is, e)
				}
				switch {
				case meet:
				case is:
					apart++
				case len(mustPass(t, d, a)) == 0 && len(mustPass(t, d, b)) == 0:
					t.Fatal("nothing passes", d, a, b)
				default:
					byCable++
				}
			}
		}
	}
	if apart == 0 || byCable == 0 {
		t.Error("there are none", apart, byCable)
	}
}

// The chapter's examples.
func TestExamples(t *testing.T) {
	d := api.Dims{4, 1, 1}
	mesh, ring := of([3]int{3, 0, 0}, [3]int{2, 1, 1}, "---"), of([3]int{3, 0, 0}, [3]int{2, 1, 1}, "t--")
	if mids, links := mustSets(t, d, mesh); !slices.Equal(mids, api.Set{9}) || !slices.Equal(links, api.Set{8}) {
		t.Error("mesh", mids, links)
	}
	if mids, links := mustSets(t, d, ring); !slices.Equal(mids, api.Set{9}) || !slices.Equal(links, api.Set{15}) {
		t.Error("torus", mids, links)
	}
	if l := mustPass(t, d, ring); !slices.Equal(l, []int{1, 2}) {
		t.Error("Passes", l)
	}
	if is := mustApart(t, d, ring, of([3]int{1, 0, 0}, [3]int{2, 1, 1}, "---")); is {
		t.Error("Apart", is)
	}
	if e := Check(d, of([3]int{}, [3]int{1, 1, 1}, "t--")); e != api.ErrArg {
		t.Error("Check", e)
	}
}
