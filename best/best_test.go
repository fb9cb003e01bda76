package best

import (
	"cmp"
	"math"
	"math/rand"
	"slices"
	"testing"

	"tidehall/api"
	"tidehall/free"
	"tidehall/score"
	"tidehall/spots"
)

// many is how many midplanes there are.
func many(d api.Dims) int {
	return d[0] * d[1] * d[2]
}

// bits is a set below n, by its numbers.
func bits(n int, l ...int) api.Set {
	s := make(api.Set, (n+63)/64)
	for _, k := range l {
		s[k/64] |= 1 << (k % 64)
	}
	return s
}

// in tells whether a number is in a set.
func in(s api.Set, k int) bool {
	return s[k/64]>>(k%64)&1 == 1
}

// those is the set of the numbers below n of which something holds.
func those(n int, holds func(k int) bool) api.Set {
	s := bits(n)
	for k := range n {
		if holds(k) {
			s[k/64] |= 1 << (k % 64)
		}
	}
	return s
}

// but is the set of all numbers below n, but for some.
func but(n int, l ...int) api.Set {
	return those(n, func(k int) bool { return !slices.Contains(l, k) })
}

// some is a set below n, of which each number is in it once in so many.
func some(r *rand.Rand, n, once int) api.Set {
	return those(n, func(int) bool { return r.Intn(once) == 0 })
}

// tori are those by letters.
func tori(letters string) (t [3]bool) {
	for axis := range 3 {
		t[axis] = letters[axis] == 't'
	}
	return t
}

// of is a place: base, size, tori by letters.
func of(base, size [3]int, torus string) api.Place {
	return api.Place{Box: api.Box{Base: base, Size: size}, Torus: tori(torus)}
}

// wants is what is asked for: shape, tori by letters, turned or not.
func wants(shape [3]int, torus string, turned bool) api.Wants {
	return api.Wants{Shape: shape, Torus: tori(torus), Turn: turned}
}

// everyPlace are all places that may be.
func everyPlace(d api.Dims) []api.Place {
	list := []api.Place{{}}
	for axis, n := range d {
		var longer []api.Place
		for _, p := range list {
			for size := 1; size <= n; size++ {
				for base := range n {
					if size == n && base > 0 {
						continue
					}
					p.Box.Base[axis], p.Box.Size[axis], p.Torus[axis] = base, size, false
					longer = append(longer, p)
					if size > 1 {
						p.Torus[axis] = true
						longer = append(longer, p)
					}
				}
			}
		}
		list = longer
	}
	return list
}

// anyPlace is one that may be.
func anyPlace(r *rand.Rand, d api.Dims) api.Place {
	var p api.Place
	for axis, n := range d {
		size := r.Intn(n) + 1
		p.Box.Size[axis] = size
		if size < n {
			p.Box.Base[axis] = r.Intn(n)
		}
		p.Torus[axis] = size > 1 && r.Intn(2) == 0
	}
	return p
}

// everyWants is all that can be asked for with lengths up to one, turned and not.
func everyWants(most int) []api.Wants {
	var l []api.Wants
	for k := range most * most * most {
		for t := range 8 {
			w := api.Wants{Shape: [3]int{k%most + 1, k/most%most + 1, k/most/most + 1}, Torus: [3]bool{t&1 > 0, t&2 > 0, t&4 > 0}}
			l = append(l, w)
			w.Turn = true
			l = append(l, w)
		}
	}
	return l
}

// isByWords tells whether a place that may be is one of what is asked for: by some order of the axes, that which they have if it may not be turned.
func isByWords(w api.Wants, p api.Place) bool {
	for a := range 3 {
		for b := range 3 {
			c := 3 - a - b
			if a == b || !w.Turn && (a != 0 || b != 1) {
				continue
			}
			well := true
			for axis, from := range [3]int{a, b, c} {
				size := w.Shape[from]
				well = well && p.Box.Size[axis] == size && p.Torus[axis] == (w.Torus[from] && size > 1)
			}
			if well {
				return true
			}
		}
	}
	return false
}

// at are the coordinates of a midplane.
func at(d api.Dims, m int) [3]int {
	return [3]int{m % d[0], m / d[0] % d[1], m / d[0] / d[1]}
}

// takes are the midplanes and the cables of a place that may be: its midplanes are those less than Size on from Base along each axis, and of the cables along an axis those from such midplanes, but for the last one of a mesh, and all of the lines of a torus.
func takes(d api.Dims, p api.Place) (own, links api.Set) {
	n := many(d)
	own, links = bits(n), bits(3*n)
	for m := range n {
		var inside, between [3]bool
		for axis, x := range at(d, m) {
			on := (x - p.Box.Base[axis] + d[axis]) % d[axis]
			inside[axis] = on < p.Box.Size[axis]
			between[axis] = on+1 < p.Box.Size[axis] || p.Torus[axis]
		}
		if inside == [3]bool{true, true, true} {
			own[m/64] |= 1 << (m % 64)
		}
		for axis := range 3 {
			if k := axis*n + m; between[axis] && inside[(axis+1)%3] && inside[(axis+2)%3] {
				links[k/64] |= 1 << (k % 64)
			}
		}
	}
	return own, links
}

// meet tells whether anything is in both sets.
func meet(a, b api.Set) bool {
	for i := range a {
		if a[i]&b[i] != 0 {
			return true
		}
	}
	return false
}

// beside are the midplanes toward which a midplane has sides, those twice toward which it has two.
func beside(d api.Dims, m int) []int {
	var l []int
	for axis, size := range d {
		if size == 1 {
			continue
		}
		for _, by := range []int{1, size - 1} {
			c := at(d, m)
			c[axis] = (c[axis] + by) % size
			l = append(l, c[0]+d[0]*(c[1]+d[1]*c[2]))
		}
	}
	return l
}

// scoreByWords is that of a place that may be: two for each side of its own midplanes toward one that is free and not its own, one for each cable.
func scoreByWords(d api.Dims, p api.Place, mids api.Set) int {
	n := many(d)
	own, links := takes(d, p)
	points := 0
	for m := range n {
		if !in(own, m) {
			continue
		}
		for _, next := range beside(d, m) {
			if !in(own, next) && !in(mids, next) {
				points += 2
			}
		}
	}
	for k := range 3 * n {
		if in(links, k) {
			points++
		}
	}
	return points
}

// order tells which of two places comes first: by the midplane at Base, then by Size, then by Torus.
func order(d api.Dims, a, b api.Place) int {
	node := func(p api.Place) int {
		return p.Box.Base[0] + d[0]*(p.Box.Base[1]+d[1]*p.Box.Base[2])
	}
	ring := func(p api.Place) []int {
		l := make([]int, 3)
		for axis, torus := range p.Torus {
			if torus {
				l[axis] = 1
			}
		}
		return l
	}
	return cmp.Or(cmp.Compare(node(a), node(b)), slices.Compare(a.Box.Size[:], b.Box.Size[:]), slices.Compare(ring(a), ring(b)))
}

// betterByWords tells whether a place is better than another one, by their scores.
func betterByWords(d api.Dims, a, b api.Place, ofA, ofB int) bool {
	return ofA < ofB || ofA == ofB && order(d, a, b) < 0
}

// rankByWords are those of some places that are free of the sets, whatever is asked for, the best one first.
func rankByWords(d api.Dims, every []api.Place, mids, links api.Set) []api.Place {
	var l []api.Place
	scores := map[api.Place]int{}
	for _, p := range every {
		own, cables := takes(d, p)
		if !meet(own, mids) && !meet(cables, links) {
			l = append(l, p)
			scores[p] = scoreByWords(d, p, mids)
		}
	}
	slices.SortFunc(l, func(a, b api.Place) int {
		return cmp.Or(cmp.Compare(scores[a], scores[b]), order(d, a, b))
	})
	return l
}

// asked are those of some places that are asked for, in the order in which they stand.
func asked(w api.Wants, list []api.Place) []api.Place {
	var l []api.Place
	for _, p := range list {
		if isByWords(w, p) {
			l = append(l, p)
		}
	}
	return l
}

// tinyDims are dimensions of machines of which all pairs of places can be gone through, with axes of 1, of 2, and of more.
func tinyDims() []api.Dims {
	return []api.Dims{{1, 1, 1}, {2, 1, 1}, {1, 3, 1}, {1, 1, 4}, {5, 1, 1}, {2, 2, 1}, {3, 2, 1}, {1, 2, 3}, {2, 2, 2}}
}

// smallDims are dimensions of machines of which all places can be gone through.
func smallDims() []api.Dims {
	return append(tinyDims(), api.Dims{4, 2, 1}, api.Dims{1, 4, 2}, api.Dims{3, 2, 2}, api.Dims{2, 2, 4}, api.Dims{3, 3, 3})
}

// wordDims are dimensions of machines whose sets are of one full word, or of several.
func wordDims() []api.Dims {
	return []api.Dims{{4, 4, 4}, {16, 4, 1}, {5, 13, 1}, {1, 8, 9}, {2, 16, 3}, {7, 1, 16}, {5, 5, 5}}
}

// greatest are the dimensions of the greatest machine.
var greatest = api.Dims{16, 16, 16}

// badDims are dimensions that may not be.
func badDims() []api.Dims {
	l := []api.Dims{{}, {-1, -1, 1}, {-1, -1, -1}, {17, 17, 17}, {math.MaxInt, math.MaxInt, math.MaxInt}, {1 << 32, 1 << 32, 1}, {math.MinInt, 2, 1}}
	for axis := range 3 {
		for _, long := range []int{math.MinInt, -1, 0, 17, math.MaxInt} {
			d := api.Dims{1, 1, 1}
			d[axis] = long
			l = append(l, d)
		}
	}
	return l
}

// badSets are sets below n that may not be: without a word, with too few or too many, and with a bit at n or beyond.
func badSets(n int) []api.Set {
	long := len(bits(n))
	l := []api.Set{nil, {}, make(api.Set, long+1), make(api.Set, long+100), make(api.Set, 3*long+1), append(bits(n, 0), 0), append(but(n), 1)}
	if long > 1 {
		l = append(l, make(api.Set, long-1), but(n)[:long-1])
	}
	for beyond := n; beyond < 64*long; beyond++ {
		l = append(l, bits(64*long, beyond), bits(64*long, 0, beyond))
	}
	return l
}

// badWants is what may not be asked for: by each number of the shape, and by all, with tori and without, turned and not.
func badWants() []api.Wants {
	shapes := [][3]int{{}, {17, 17, 17}, {-1, -1, -1}, {-1, -1, 1}, {math.MaxInt, math.MaxInt, math.MaxInt}, {math.MinInt, math.MinInt, math.MinInt}}
	for axis := range 3 {
		for _, long := range []int{math.MinInt, -1, 0, 17, math.MaxInt} {
			s := [3]int{1, 2, 1}
			s[axis] = long
			shapes = append(shapes, s)
		}
	}
	var l []api.Wants
	for _, s := range shapes {
		for _, torus := range []string{"---", "t--", "ttt"} {
			l = append(l, wants(s, torus, false), wants(s, torus, true))
		}
	}
	return l
}

// badPlaces are places that may not be: by each number of the box, by a Base that is not canonical, and by a torus along an axis of Size 1.
func badPlaces(d api.Dims) []api.Place {
	one := of([3]int{}, [3]int{1, 1, 1}, "---")
	l := []api.Place{{}, of(d, d, "---"), of([3]int{}, [3]int{17, 17, 17}, "---"), of([3]int{-1, -1, -1}, [3]int{-1, -1, -1}, "ttt"), of([3]int{}, [3]int{1, 1, 1}, "ttt")}
	for axis, n := range d {
		for _, k := range []int{math.MinInt, -1, n, n + 1, math.MaxInt} {
			p := one
			p.Box.Base[axis] = k
			l = append(l, p)
		}
		for _, k := range []int{math.MinInt, -1, 0, n + 1, 2 * n, math.MaxInt} {
			p := one
			p.Box.Size[axis] = k
			l = append(l, p)
		}
		p := one
		p.Torus[axis] = true
		l = append(l, p)
		if n > 1 {
			p = of([3]int{}, d, "---")
			p.Box.Base[axis] = n - 1
			l = append(l, p)
		}
	}
	return l
}

// rankIs asks Rank for some places, in order, and Best for the first one of them, or for ErrNone.
func rankIs(t *testing.T, d api.Dims, w api.Wants, mids, links api.Set, want ...api.Place) {
	t.Helper()
	if l, e := Rank(d, w, mids, links); e != api.OK || !slices.Equal(l, want) {
		t.Error("Rank", d, w, mids, links, l, e, "not", want)
	}
	if len(want) == 0 {
		refusedBest(t, d, w, mids, links, api.ErrNone)
		return
	}
	bestIs(t, d, w, mids, links, want[0])
}

// bestIs asks Best for a place.
func bestIs(t *testing.T, d api.Dims, w api.Wants, mids, links api.Set, want api.Place) {
	t.Helper()
	if p, e := Best(d, w, mids, links); e != api.OK || p != want {
		t.Error("Best", d, w, mids, links, p, e, "not", want)
	}
}

// betterIs asks Better of two places that may be.
func betterIs(t *testing.T, d api.Dims, a, b api.Place, mids api.Set, want bool) {
	t.Helper()
	if is, e := Better(d, a, b, mids); e != api.OK || is != want {
		t.Error("Better", d, a, b, mids, is, e, "not", want)
	}
}

// refusedBest asks Best for an error and nothing beside it.
func refusedBest(t *testing.T, d api.Dims, w api.Wants, mids, links api.Set, want api.Errno) {
	t.Helper()
	if p, e := Best(d, w, mids, links); e != want || p != (api.Place{}) {
		t.Error("Best", d, w, mids, links, p, e, "not", want)
	}
}

// refused asks Best and Rank for an error and nothing beside it.
func refused(t *testing.T, d api.Dims, w api.Wants, mids, links api.Set, want api.Errno) {
	t.Helper()
	refusedBest(t, d, w, mids, links, want)
	if l, e := Rank(d, w, mids, links); e != want || len(l) != 0 {
		t.Error("Rank", d, w, mids, links, l, e, "not", want)
	}
}

// refusedBetter asks Better for an error and nothing beside it.
func refusedBetter(t *testing.T, d api.Dims, a, b api.Place, mids api.Set, want api.Errno) {
	t.Helper()
	if is, e := Better(d, a, b, mids); e != want || is {
		t.Error("Better", d, a, b, mids, is, e, "not", want)
	}
}

// P15.1: the chapter's examples.
func TestExamples(t *testing.T) {
	d := api.Dims{4, 1, 1}
	w := wants([3]int{1, 1, 1}, "---", false)
	none := api.Set{0}
	bestIs(t, d, w, api.Set{0}, none, of([3]int{}, [3]int{1, 1, 1}, "---"))
	bestIs(t, d, w, api.Set{1}, none, of([3]int{1, 0, 0}, [3]int{1, 1, 1}, "---"))
	bestIs(t, d, w, api.Set{5}, none, of([3]int{1, 0, 0}, [3]int{1, 1, 1}, "---"))
	bestIs(t, d, w, api.Set{3}, none, of([3]int{2, 0, 0}, [3]int{1, 1, 1}, "---"))
	refusedBest(t, d, w, api.Set{15}, none, api.ErrNone)
}

// P15.1: by the score first, ahead of the midplane at Base; what is as good by Base.
func TestByScore(t *testing.T) {
	on := func(x int) api.Place { return of([3]int{x, 0, 0}, [3]int{1, 1, 1}, "---") }
	one := wants([3]int{1, 1, 1}, "---", false)
	row := api.Dims{6, 1, 1}
	// Sides toward what is free: none, two; one at each end of what is free.
	rankIs(t, row, one, bits(6), bits(18), on(0), on(1), on(2), on(3), on(4), on(5))
	rankIs(t, row, one, bits(6, 0), bits(18), on(1), on(5), on(2), on(3), on(4))
	rankIs(t, row, one, bits(6, 2), bits(18), on(1), on(3), on(0), on(4), on(5))
	rankIs(t, row, one, bits(6, 3, 5), bits(18), on(4), on(0), on(2), on(1))
	rankIs(t, row, one, bits(6, 0, 2, 4), bits(18), on(1), on(3), on(5))
	rankIs(t, row, one, but(6, 5), bits(18), on(5))
	rankIs(t, row, one, but(6), bits(18))
	// Cables to be avoided take places away, and turn nobody's score; a single midplane takes none.
	rankIs(t, row, one, bits(6, 2), but(18), on(1), on(3), on(0), on(4), on(5))
	two := wants([3]int{2, 1, 1}, "---", false)
	pair := func(x int) api.Place { return of([3]int{x, 0, 0}, [3]int{2, 1, 1}, "---") }
	rankIs(t, row, two, bits(6), bits(18), pair(0), pair(1), pair(2), pair(3), pair(4), pair(5))
	rankIs(t, row, two, bits(6), bits(18, 0, 1, 4), pair(2), pair(3), pair(5))
	rankIs(t, row, two, bits(6, 3), bits(18), pair(1), pair(4), pair(0), pair(5))
	rankIs(t, row, two, bits(6, 3), bits(18, 1), pair(4), pair(0), pair(5))
	// A torus needs the whole line, a mesh just what is between.
	ring := wants([3]int{2, 1, 1}, "t--", false)
	rankIs(t, row, ring, bits(6, 3), bits(18), of([3]int{1, 0, 0}, [3]int{2, 1, 1}, "t--"), of([3]int{4, 0, 0}, [3]int{2, 1, 1}, "t--"), of([3]int{}, [3]int{2, 1, 1}, "t--"), of([3]int{5, 0, 0}, [3]int{2, 1, 1}, "t--"))
	rankIs(t, row, ring, bits(6, 3), bits(18, 2))
	// All but one midplane: both ends have sides toward it.
	five := wants([3]int{5, 1, 1}, "---", false)
	rankIs(t, row, five, bits(6, 4), bits(18), of([3]int{5, 0, 0}, [3]int{5, 1, 1}, "---"))
}

// P15.1: by the number of the midplane at Base, not by its coordinates from the first one on; then by Size, then by Torus, false ahead of true.
func TestByOrder(t *testing.T) {
	cube := api.Dims{3, 3, 3}
	first := func(w api.Wants, want ...api.Place) {
		t.Helper()
		l, e := Rank(cube, w, bits(27), bits(81))
		if e != api.OK || len(l) < len(want) || !slices.Equal(l[:len(want)], want) {
			t.Error(w, l, e)
		}
	}
	one := [3]int{1, 1, 1}
	first(wants(one, "---", false), of([3]int{}, one, "---"), of([3]int{1, 0, 0}, one, "---"), of([3]int{2, 0, 0}, one, "---"), of([3]int{0, 1, 0}, one, "---"), of([3]int{1, 1, 0}, one, "---"), of([3]int{2, 1, 0}, one, "---"), of([3]int{0, 2, 0}, one, "---"), of([3]int{1, 2, 0}, one, "---"), of([3]int{2, 2, 0}, one, "---"), of([3]int{0, 0, 1}, one, "---"))
	first(wants([3]int{2, 1, 1}, "---", true), of([3]int{}, [3]int{1, 1, 2}, "---"), of([3]int{}, [3]int{1, 2, 1}, "---"), of([3]int{}, [3]int{2, 1, 1}, "---"), of([3]int{1, 0, 0}, [3]int{1, 1, 2}, "---"))
	first(wants([3]int{2, 2, 2}, "t--", true), of([3]int{}, [3]int{2, 2, 2}, "--t"), of([3]int{}, [3]int{2, 2, 2}, "-t-"), of([3]int{}, [3]int{2, 2, 2}, "t--"), of([3]int{1, 0, 0}, [3]int{2, 2, 2}, "--t"))
	first(wants([3]int{2, 2, 2}, "t-t", true), of([3]int{}, [3]int{2, 2, 2}, "-tt"), of([3]int{}, [3]int{2, 2, 2}, "t-t"), of([3]int{}, [3]int{2, 2, 2}, "tt-"), of([3]int{1, 0, 0}, [3]int{2, 2, 2}, "-tt"))
	first(wants([3]int{2, 2, 1}, "-t-", true), of([3]int{}, [3]int{1, 2, 2}, "--t"), of([3]int{}, [3]int{1, 2, 2}, "-t-"), of([3]int{}, [3]int{2, 1, 2}, "--t"), of([3]int{}, [3]int{2, 1, 2}, "t--"), of([3]int{}, [3]int{2, 2, 1}, "-t-"))
}

// P15.1: of what may be turned, the rotation that has fewer open sides, or takes fewer cables, though its Size or its Torus is behind.
func TestTurned(t *testing.T) {
	up := func(x, y int) api.Place { return of([3]int{x, y, 0}, [3]int{1, 2, 1}, "---") }
	on := func(x, y int) api.Place { return of([3]int{x, y, 0}, [3]int{2, 1, 1}, "---") }
	// Along an axis of 2, both of a pair's sides there are toward each other.
	rankIs(t, api.Dims{3, 2, 1}, wants([3]int{2, 1, 1}, "---", true), bits(6), bits(18), up(0, 0), up(1, 0), up(2, 0), on(0, 0), on(1, 0), on(2, 0), on(0, 1), on(1, 1), on(2, 1))
	rankIs(t, api.Dims{2, 3, 1}, wants([3]int{2, 1, 1}, "---", true), bits(6), bits(18), on(0, 0), on(0, 1), on(0, 2), up(0, 0), up(1, 0), up(0, 1), up(1, 1), up(0, 2), up(1, 2))
	// Midplanes 0 and 1 are taken: beside them a row of two has two more closed sides.
	rankIs(t, api.Dims{2, 3, 1}, wants([3]int{2, 1, 1}, "---", true), bits(6, 0, 1), bits(18), on(0, 1), on(0, 2), up(0, 1), up(1, 1))
	// A torus along an axis of 4 takes all four cables of each of its lines, along one of 2 just two.
	square := wants([3]int{2, 2, 1}, "t--", true)
	at := func(x, y int, torus string) api.Place { return of([3]int{x, y, 0}, [3]int{2, 2, 1}, torus) }
	rankIs(t, api.Dims{2, 4, 1}, square, bits(8), bits(24), at(0, 0, "t--"), at(0, 1, "t--"), at(0, 2, "t--"), at(0, 3, "t--"), at(0, 0, "-t-"), at(0, 1, "-t-"), at(0, 2, "-t-"), at(0, 3, "-t-"))
	rankIs(t, api.Dims{4, 2, 1}, square, bits(8), bits(24), at(0, 0, "-t-"), at(1, 0, "-t-"), at(2, 0, "-t-"), at(3, 0, "-t-"), at(0, 0, "t--"), at(1, 0, "t--"), at(2, 0, "t--"), at(3, 0, "t--"))
	rankIs(t, api.Dims{2, 4, 1}, square, bits(8, 4), bits(24), at(0, 0, "t--"), at(0, 3, "t--"), at(0, 0, "-t-"), at(0, 3, "-t-"))
	rankIs(t, api.Dims{2, 4, 1}, square, bits(8, 4), bits(24, 3), at(0, 3, "t--"), at(0, 0, "-t-"), at(0, 3, "-t-"))
}

// P15.1: ErrNone where nothing is free, or no rotation fits; Rank has no place then.
func TestNone(t *testing.T) {
	d := api.Dims{3, 2, 1}
	w := wants([3]int{2, 1, 1}, "t--", true)
	for _, c := range []struct {
		w           api.Wants
		mids, links api.Set
	}{
		{w, but(6), bits(18)}, {w, bits(6), but(18)}, {w, bits(6, 1, 2, 3, 5), bits(18)}, {w, bits(6), bits(18, 0, 3, 6, 7, 8)}, {w, but(6), but(18)},
		{wants([3]int{4, 1, 1}, "---", true), bits(6), bits(18)}, {wants([3]int{1, 3, 1}, "---", false), bits(6), bits(18)}, {wants([3]int{2, 2, 2}, "---", true), bits(6), bits(18)}, {wants([3]int{16, 16, 16}, "ttt", true), bits(6), bits(18)},
		{wants([3]int{3, 2, 1}, "---", true), bits(6, 5), bits(18)}, {wants([3]int{3, 2, 1}, "t--", true), bits(6), bits(18, 5)}, {wants([3]int{1, 1, 1}, "---", true), but(6), bits(18)},
	} {
		rankIs(t, d, c.w, c.mids, c.links)
	}
	rankIs(t, api.Dims{1, 1, 1}, wants([3]int{1, 1, 1}, "ttt", true), bits(1, 0), bits(3))
	rankIs(t, api.Dims{1, 1, 1}, wants([3]int{1, 1, 1}, "ttt", true), bits(1), but(3), of([3]int{}, [3]int{1, 1, 1}, "---"))
	rankIs(t, greatest, wants([3]int{16, 16, 16}, "ttt", true), bits(4096), bits(12288, 12287))
	rankIs(t, greatest, wants([3]int{16, 16, 16}, "ttt", true), bits(4096), bits(12288), of([3]int{}, greatest, "ttt"))
}

// P15.1: on small machines, of all that can be asked for, with nothing to be avoided, some midplanes, some cables, and both.
func TestRankByWords(t *testing.T) {
	r := rand.New(rand.NewSource(151))
	for _, d := range smallDims() {
		n := many(d)
		every := everyPlace(d)
		for i, pair := range [][2]api.Set{{bits(n), bits(3 * n)}, {some(r, n, 3), bits(3 * n)}, {bits(n), some(r, 3*n, 8)}, {some(r, n, 4), some(r, 3*n, 12)}, {some(r, n, 8), some(r, 3*n, 30)}, {but(n, r.Intn(n)), bits(3 * n)}} {
			ranked := rankByWords(d, every, pair[0], pair[1])
			for k, w := range everyWants(4) {
				// Of the greater ones all that can be asked for is asked for by some pair.
				if n < 9 || k%6 == i {
					rankIs(t, d, w, pair[0], pair[1], asked(w, ranked)...)
				}
			}
		}
	}
}

// P15.1: on greater machines, any shape.
func TestRankOfWords(t *testing.T) {
	r := rand.New(rand.NewSource(152))
	for _, d := range wordDims() {
		n := many(d)
		for range 6 {
			p := anyPlace(r, d)
			w := api.Wants{Shape: p.Box.Size, Torus: p.Torus, Turn: r.Intn(2) == 0}
			every, e := spots.All(d, w, bits(n), bits(3*n))
			if e != api.OK {
				t.Fatal(d, w, e)
			}
			for _, pair := range [][2]api.Set{{bits(n), bits(3 * n)}, {some(r, n, 3), some(r, 3*n, 20)}, {some(r, n, 12), bits(3 * n)}, {some(r, n, 50), some(r, 3*n, 90)}} {
				rankIs(t, d, w, pair[0], pair[1], rankByWords(d, every, pair[0], pair[1])...)
			}
		}
	}
}

// P15.1: on the greatest machine, each place better than the next one.
func TestRankOfGreatest(t *testing.T) {
	r := rand.New(rand.NewSource(153))
	for _, w := range []api.Wants{wants([3]int{1, 1, 1}, "---", false), wants([3]int{2, 3, 1}, "t--", true), wants([3]int{8, 8, 8}, "tt-", false)} {
		for _, mids := range []api.Set{bits(4096, 0, 1, 2, 273), some(r, 4096, 500)} {
			list, e := spots.All(greatest, w, mids, bits(12288))
			ranked, f := Rank(greatest, w, mids, bits(12288))
			if e != api.OK || f != api.OK || len(ranked) != len(list) {
				t.Fatal(w, len(ranked), f, "not", len(list), e)
			}
			for i := range min(60, len(ranked)-1) {
				betterIs(t, greatest, ranked[i], ranked[i+1], mids, true)
			}
			for range min(20, len(ranked)) {
				p := list[r.Intn(len(list))]
				betterIs(t, greatest, p, ranked[0], mids, false)
				if !slices.Contains(ranked, p) {
					t.Error(w, p, "is not ranked")
				}
			}
		}
	}
	// A great cube fits best right beside what is taken: where that is left out along one axis alone, it has a side toward it at either end.
	cube := wants([3]int{15, 15, 15}, "---", false)
	bestIs(t, greatest, cube, bits(4096, 4095), bits(12288), of([3]int{1, 1, 0}, [3]int{15, 15, 15}, "---"))
	bestIs(t, greatest, cube, bits(4096, 30, 31), bits(12288), of([3]int{1, 2, 0}, [3]int{15, 15, 15}, "---"))
}

// P15.1: what is reckoned of a free place is its score.
func TestReckoner(t *testing.T) {
	r := rand.New(rand.NewSource(154))
	for _, d := range append(append(smallDims(), wordDims()...), greatest) {
		n := many(d)
		for range 12 {
			p := anyPlace(r, d)
			own, _ := takes(d, p)
			for _, once := range []int{1, 2, 5, 40} {
				taken := some(r, n, once)
				mids := those(n, func(k int) bool { return in(taken, k) && !in(own, k) })
				scoreOf, e := reckoner(d, mids)
				if e != api.OK {
					t.Fatal(d, e)
				}
				want, e := score.Of(d, p, mids)
				for range 2 {
					if got, f := scoreOf(p); e != api.OK || f != api.OK || got != want {
						t.Error(d, p, mids, got, f, "not", want, e)
					}
				}
			}
		}
	}
}

// P15.2: by score, by Base, by Size, by Torus; and a place that is not better than itself.
func TestBetter(t *testing.T) {
	row, flat, cube := api.Dims{4, 1, 1}, api.Dims{3, 2, 1}, api.Dims{3, 3, 3}
	one := [3]int{1, 1, 1}
	for i, c := range []struct {
		d    api.Dims
		a, b api.Place
		mids []int
		want bool
	}{
		{row, of([3]int{}, one, "---"), of([3]int{1, 0, 0}, one, "---"), nil, true},
		{row, of([3]int{}, one, "---"), of([3]int{3, 0, 0}, one, "---"), []int{2}, false},
		{row, of([3]int{}, one, "---"), of([3]int{3, 0, 0}, one, "---"), []int{1}, true},
		{row, of([3]int{1, 0, 0}, one, "---"), of([3]int{3, 0, 0}, one, "---"), []int{0, 2}, true},
		{row, of([3]int{2, 0, 0}, one, "---"), of([3]int{1, 0, 0}, one, "---"), []int{3}, true},
		// Places that are not free, and such as meet, have scores, too.
		{row, of([3]int{1, 0, 0}, one, "---"), of([3]int{}, one, "---"), []int{0, 1, 2}, true},
		{row, of([3]int{}, one, "---"), of([3]int{3, 0, 0}, one, "---"), []int{0, 1, 2, 3}, true},
		{row, of([3]int{1, 0, 0}, [3]int{2, 1, 1}, "---"), of([3]int{1, 0, 0}, one, "---"), nil, false},
		{row, of([3]int{1, 0, 0}, [3]int{2, 1, 1}, "---"), of([3]int{1, 0, 0}, one, "---"), []int{0, 3}, true},
		{row, of([3]int{}, [3]int{4, 1, 1}, "---"), of([3]int{}, one, "---"), nil, true},
		// Fewer cables: a mesh ahead of a torus, and a torus ahead of two open sides.
		{row, of([3]int{}, [3]int{2, 1, 1}, "---"), of([3]int{}, [3]int{2, 1, 1}, "t--"), nil, true},
		{row, of([3]int{3, 0, 0}, [3]int{2, 1, 1}, "---"), of([3]int{}, [3]int{2, 1, 1}, "t--"), nil, true},
		{row, of([3]int{}, [3]int{4, 1, 1}, "t--"), of([3]int{}, [3]int{3, 1, 1}, "---"), nil, true},
		// As good: by the midplane at Base, where the first coordinate comes last; by Size; by Torus.
		{flat, of([3]int{2, 0, 0}, one, "---"), of([3]int{0, 1, 0}, one, "---"), nil, true},
		{flat, of([3]int{1, 1, 0}, one, "---"), of([3]int{2, 0, 0}, one, "---"), nil, false},
		{cube, of([3]int{2, 2, 0}, one, "---"), of([3]int{0, 0, 1}, one, "---"), nil, true},
		{cube, of([3]int{}, [3]int{1, 1, 2}, "---"), of([3]int{}, [3]int{1, 2, 1}, "---"), nil, true},
		{cube, of([3]int{}, [3]int{2, 1, 1}, "---"), of([3]int{}, [3]int{1, 2, 1}, "---"), nil, false},
		{cube, of([3]int{}, [3]int{2, 1, 2}, "--t"), of([3]int{}, [3]int{2, 2, 1}, "-t-"), nil, true},
		{cube, of([3]int{}, [3]int{2, 2, 1}, "-t-"), of([3]int{}, [3]int{2, 2, 1}, "t--"), nil, true},
		{cube, of([3]int{}, [3]int{2, 2, 2}, "tt-"), of([3]int{}, [3]int{2, 2, 2}, "t-t"), nil, false},
		{cube, of([3]int{}, [3]int{2, 2, 2}, "-tt"), of([3]int{}, [3]int{2, 2, 2}, "tt-"), nil, true},
		// The greatest machine.
		{greatest, of([3]int{}, [3]int{16, 16, 16}, "---"), of([3]int{}, [3]int{16, 16, 16}, "t--"), nil, true},
		{greatest, of([3]int{15, 15, 15}, [3]int{2, 2, 2}, "---"), of([3]int{14, 15, 15}, [3]int{2, 2, 2}, "---"), []int{1}, true},
		{greatest, of([3]int{15, 15, 15}, one, "---"), of([3]int{14, 15, 15}, one, "---"), nil, false},
	} {
		if is, e := Better(c.d, c.a, c.b, bits(many(c.d), c.mids...)); e != api.OK || is != c.want {
			t.Error(i, c.d, c.a, c.b, is, e, "not", c.want)
		}
		betterIs(t, c.d, c.b, c.a, bits(many(c.d), c.mids...), !c.want)
		betterIs(t, c.d, c.a, c.a, bits(many(c.d), c.mids...), false)
		betterIs(t, c.d, c.b, c.b, bits(many(c.d), c.mids...), false)
	}
}

// P15.2, P15.4: each pair of the places of tiny machines, whatever is taken: of two that are not the same just one is better, and none is better than itself.
func TestBetterOfEachPair(t *testing.T) {
	r := rand.New(rand.NewSource(155))
	for _, d := range tinyDims() {
		n := many(d)
		every := everyPlace(d)
		for _, mids := range []api.Set{bits(n), but(n), some(r, n, 2), some(r, n, 4)} {
			scores := map[api.Place]int{}
			for _, p := range every {
				scores[p] = scoreByWords(d, p, mids)
			}
			for _, a := range every {
				for _, b := range every {
					is := betterByWords(d, a, b, scores[a], scores[b])
					betterIs(t, d, a, b, mids, is)
					if a != b && is == betterByWords(d, b, a, scores[b], scores[a]) {
						t.Error("both or neither", d, a, b, mids)
					}
				}
			}
		}
	}
}

// P15.2, P15.4: any pairs of greater machines.
func TestBetterByWords(t *testing.T) {
	r := rand.New(rand.NewSource(156))
	for _, d := range append(append(smallDims(), wordDims()...), greatest) {
		n := many(d)
		for i := range 24 {
			a, b := anyPlace(r, d), anyPlace(r, d)
			if i%3 == 0 {
				b = a
				b.Torus = anyPlace(r, d).Torus
				for axis, size := range b.Box.Size {
					b.Torus[axis] = b.Torus[axis] && size > 1
				}
			}
			for _, mids := range []api.Set{bits(n), some(r, n, 3)} {
				want := betterByWords(d, a, b, scoreByWords(d, a, mids), scoreByWords(d, b, mids))
				betterIs(t, d, a, b, mids, want)
				betterIs(t, d, b, a, mids, a != b && !want)
			}
		}
	}
}

// All promises: dimensions that may not be, whatever stands beside them.
func TestBadDims(t *testing.T) {
	one := of([3]int{}, [3]int{1, 1, 1}, "---")
	for _, d := range badDims() {
		for _, s := range []api.Set{{0}, {1}, nil, make(api.Set, 9), make(api.Set, 64)} {
			for _, w := range []api.Wants{wants([3]int{1, 1, 1}, "---", false), {}, wants([3]int{17, 1, 1}, "---", true)} {
				refused(t, d, w, s, api.Set{0}, api.ErrBad)
				refused(t, d, w, api.Set{0}, s, api.ErrBad)
			}
			for _, p := range []api.Place{one, {}, of([3]int{}, d, "ttt"), of([3]int{-1, 0, 0}, [3]int{0, 1, 1}, "t--")} {
				refusedBetter(t, d, p, one, s, api.ErrBad)
				refusedBetter(t, d, one, p, s, api.ErrBad)
			}
		}
	}
}

// All promises: what may not be asked for, whatever stands beside it.
func TestBadWants(t *testing.T) {
	for _, d := range []api.Dims{{1, 1, 1}, {2, 3, 1}, {4, 4, 4}, greatest} {
		n := many(d)
		for _, w := range badWants() {
			refused(t, d, w, bits(n), bits(3*n), api.ErrBad)
			refused(t, d, w, but(n), but(3*n), api.ErrBad)
			refused(t, d, w, nil, bits(3*n), api.ErrBad)
			refused(t, d, w, bits(n), nil, api.ErrBad)
		}
	}
}

// All promises: a set that may not be, the first one or the second one, ahead of there being no place, and of a place that may not be.
func TestBadSets(t *testing.T) {
	list := []api.Wants{wants([3]int{2, 1, 1}, "t--", true), wants([3]int{1, 1, 1}, "---", false), wants([3]int{16, 1, 1}, "---", false), wants([3]int{5, 5, 5}, "ttt", true)}
	for _, d := range []api.Dims{{1, 1, 1}, {2, 3, 1}, {4, 4, 4}, {5, 13, 1}, greatest} {
		n := many(d)
		one := of([3]int{}, [3]int{1, 1, 1}, "---")
		for _, s := range badSets(n) {
			for _, w := range list {
				refused(t, d, w, s, bits(3*n), api.ErrBad)
				refused(t, d, w, s, but(3*n), api.ErrBad)
				refused(t, d, w, s, nil, api.ErrBad)
			}
			for _, p := range []api.Place{one, of([3]int{}, d, "---"), {}, of([3]int{}, [3]int{1, 1, 1}, "t--"), of([3]int{-1, 0, 0}, [3]int{1, 1, 1}, "---")} {
				refusedBetter(t, d, p, one, s, api.ErrBad)
				refusedBetter(t, d, one, p, s, api.ErrBad)
				refusedBetter(t, d, p, p, s, api.ErrBad)
			}
		}
		for _, s := range badSets(3 * n) {
			for _, w := range list {
				refused(t, d, w, bits(n), s, api.ErrBad)
				refused(t, d, w, but(n), s, api.ErrBad)
				refused(t, d, w, nil, s, api.ErrBad)
			}
		}
	}
}

// P15.2: a place that may not be, the first one or the second one, whatever is taken.
func TestBadPlaces(t *testing.T) {
	for _, d := range append(append(tinyDims(), wordDims()...), greatest) {
		n := many(d)
		for _, p := range badPlaces(d) {
			for _, mids := range []api.Set{bits(n), bits(n, 0), but(n)} {
				for _, good := range []api.Place{of([3]int{}, [3]int{1, 1, 1}, "---"), of([3]int{}, d, "---")} {
					refusedBetter(t, d, p, good, mids, api.ErrArg)
					refusedBetter(t, d, good, p, mids, api.ErrArg)
				}
				refusedBetter(t, d, p, p, mids, api.ErrArg)
			}
		}
	}
}

// P15.3: sets that are handed in stay as they are, with their spare room, and are not kept; each answer is new memory.
func TestMemory(t *testing.T) {
	d := api.Dims{5, 13, 1}
	w := wants([3]int{2, 1, 1}, "t--", true)
	room := func(n int, l ...int) (api.Set, api.Set) {
		s := append(bits(n, l...), 7, 8, 9)
		return s[:len(s)-3], s
	}
	mids, allMids := room(65, 0, 33, 64)
	links, allLinks := room(195, 0, 194)
	wasMids, wasLinks := slices.Clone(allMids), slices.Clone(allLinks)
	first, e := Rank(d, w, mids, links)
	if e != api.OK || len(first) == 0 {
		t.Fatal(first, e)
	}
	was := slices.Clone(first)
	bestIs(t, d, w, mids, links, was[0])
	betterIs(t, d, was[0], was[1], mids, true)
	betterIs(t, d, was[1], was[0], mids, false)
	if !slices.Equal(allMids, wasMids) || !slices.Equal(allLinks, wasLinks) {
		t.Error("turned", allMids, allLinks)
	}
	second, e := Rank(d, w, mids, links)
	if e != api.OK || !slices.Equal(second, was) {
		t.Error(second, e)
	}
	clear(second[:cap(second)])
	if !slices.Equal(first, was) {
		t.Error("shared", first)
	}
	bestIs(t, d, w, mids, links, was[0])
	clear(mids)
	clear(links)
	if !slices.Equal(first, was) {
		t.Error("kept", first)
	}
	// With nothing taken any more, the first ones are best.
	every := everyPlace(d)
	rankIs(t, d, w, mids, links, asked(w, rankByWords(d, every, mids, links))...)
	mids[0] = 1
	rankIs(t, d, w, mids, links, asked(w, rankByWords(d, every, mids, links))...)
}

// P15.4: the best place is free, is one of what is asked for, and none that is so is better; ErrNone just where there is none.
func TestNoneIsBetter(t *testing.T) {
	r := rand.New(rand.NewSource(157))
	for _, d := range append(smallDims(), wordDims()...) {
		n := many(d)
		for i := range 40 {
			shape := anyPlace(r, d)
			w := api.Wants{Shape: shape.Box.Size, Torus: shape.Torus, Turn: i%2 == 0}
			mids, links := some(r, n, 2+i), some(r, 3*n, 6+3*i)
			all, e := spots.All(d, w, mids, links)
			if e != api.OK {
				t.Fatal(d, w, e)
			}
			if len(all) == 0 {
				refusedBest(t, d, w, mids, links, api.ErrNone)
				continue
			}
			p, e := Best(d, w, mids, links)
			holds, f := free.Holds(d, p, mids, links)
			is, g := spots.Is(d, w, p)
			if e != api.OK || f != api.OK || g != api.OK || !holds || !is {
				t.Error(d, w, mids, links, p, e, holds, f, is, g)
			}
			for _, other := range all {
				betterIs(t, d, other, p, mids, false)
				betterIs(t, d, p, other, mids, other != p)
			}
		}
	}
}

// P15.4: what is best stays so with more cables to be avoided, as long as it is free of them.
func TestMoreCables(t *testing.T) {
	r := rand.New(rand.NewSource(158))
	for _, d := range append(smallDims(), wordDims()...) {
		n := many(d)
		for i := range 30 {
			shape := anyPlace(r, d)
			w := api.Wants{Shape: shape.Box.Size, Torus: shape.Torus, Turn: i%2 == 0}
			mids, links := some(r, n, 3+i), some(r, 3*n, 9+3*i)
			p, e := Best(d, w, mids, links)
			if e == api.ErrNone {
				continue
			}
			if e != api.OK {
				t.Fatal(d, w, e)
			}
			_, own := takes(d, p)
			for _, more := range []api.Set{some(r, 3*n, 10), some(r, 3*n, 2), but(3 * n)} {
				links := those(3*n, func(k int) bool { return in(links, k) || in(more, k) && !in(own, k) })
				bestIs(t, d, w, mids, links, p)
			}
		}
	}
}
