package score

import (
	"math"
	"math/rand"
	"slices"
	"testing"

	"tidehall/api"
)

// many is how many midplanes there are.
func many(d api.Dims) int {
	return d[0] * d[1] * d[2]
}

// bits is a set below n, by its numbers.
func bits(n int, l ...int) api.Set {
	s := make(api.Set, (n+63)/64)
	for _, k := range l {
		s[k/64] |= 1 << (k % 64)
	}
	return s
}

// in tells whether a number is in a set.
func in(s api.Set, k int) bool {
	return s[k/64]>>(k%64)&1 == 1
}

// those is the set of the numbers below n of which something holds.
func those(n int, holds func(k int) bool) api.Set {
	s := bits(n)
	for k := range n {
		if holds(k) {
			s[k/64] |= 1 << (k % 64)
		}
	}
	return s
}

// but is the set of all numbers below n, but for some.
func but(n int, l ...int) api.Set {
	return those(n, func(k int) bool { return !slices.Contains(l, k) })
}

// some is a set below n, of which each number is in it once in so many.
func some(r *rand.Rand, n, once int) api.Set {
	return those(n, func(int) bool { return r.Intn(once) == 0 })
}

// either is what is in any of some sets below n.
func either(n int, sets ...api.Set) api.Set {
	return those(n, func(k int) bool {
		return slices.ContainsFunc(sets, func(s api.Set) bool { return in(s, k) })
	})
}

// neither is what is in none of some sets below n.
func neither(n int, sets ...api.Set) api.Set {
	all := either(n, sets...)
	return those(n, func(k int) bool { return !in(all, k) })
}

// of is a place: base, size, tori by letters.
func of(base, size [3]int, torus string) api.Place {
	p := api.Place{Box: api.Box{Base: base, Size: size}}
	for axis := range 3 {
		p.Torus[axis] = torus[axis] == 't'
	}
	return p
}

// at are the coordinates of a midplane.
func at(d api.Dims, m int) [3]int {
	return [3]int{m % d[0], m / d[0] % d[1], m / d[0] / d[1]}
}

// sidesByWords is how many sides of a midplane are toward another one: along each axis that has any, one if that is one step on, and one if that is one step back.
func sidesByWords(d api.Dims, from, to int) int {
	a, b := at(d, from), at(d, to)
	sides := 0
	for axis, size := range d {
		one, two := (axis+1)%3, (axis+2)%3
		if size < 2 || a[one] != b[one] || a[two] != b[two] {
			continue
		}
		if b[axis] == a[axis]+1 || a[axis] == size-1 && b[axis] == 0 {
			sides++
		}
		if b[axis] == a[axis]-1 || a[axis] == 0 && b[axis] == size-1 {
			sides++
		}
	}
	return sides
}

// table has how many sides each midplane has toward each other one.
type table [][]int

// tableOf is that of a machine that is not too great for each pair of midplanes to be asked.
func tableOf(d api.Dims) table {
	t := make(table, many(d))
	for from := range t {
		t[from] = make([]int, many(d))
		for to := range t[from] {
			t[from][to] = sidesByWords(d, from, to)
		}
	}
	return t
}

// open are the sides of a set's midplanes that are toward one of another set's.
func (t table) open(from, to api.Set) int {
	sides := 0
	for a := range t {
		if !in(from, a) {
			continue
		}
		for b, n := range t[a] {
			if n > 0 && in(to, b) {
				sides += n
			}
		}
	}
	return sides
}

// spread are the open sides of what is free toward what is not.
func (t table) spread(mids api.Set) int {
	return t.open(neither(len(t), mids), mids)
}

// ownByWords are the midplanes of a place that may be, and how many cables it takes: along each axis those from its midplanes on, but for the last one of a mesh, and all cables of a torus' lines.
func ownByWords(d api.Dims, p api.Place) (own api.Set, cables int) {
	n := many(d)
	own = bits(n)
	for m := range n {
		var inside, between [3]bool
		for axis, x := range at(d, m) {
			on := (x - p.Box.Base[axis] + d[axis]) % d[axis]
			inside[axis] = on < p.Box.Size[axis]
			between[axis] = on+1 < p.Box.Size[axis] || p.Torus[axis]
		}
		if inside == [3]bool{true, true, true} {
			own[m/64] |= 1 << (m % 64)
		}
		for axis := range 3 {
			if between[axis] && inside[(axis+1)%3] && inside[(axis+2)%3] {
				cables++
			}
		}
	}
	return own, cables
}

// score is that of a place that may be.
func (t table) score(d api.Dims, p api.Place, mids api.Set) int {
	own, cables := ownByWords(d, p)
	return 2*t.open(own, neither(len(t), own, mids)) + cables
}

// everyPlace are all places that may be.
func everyPlace(d api.Dims) []api.Place {
	list := []api.Place{{}}
	for axis, n := range d {
		var longer []api.Place
		for _, p := range list {
			for size := 1; size <= n; size++ {
				for base := range n {
					if size == n && base > 0 {
						continue
					}
					p.Box.Base[axis], p.Box.Size[axis], p.Torus[axis] = base, size, false
					longer = append(longer, p)
					if size > 1 {
						p.Torus[axis] = true
						longer = append(longer, p)
					}
				}
			}
		}
		list = longer
	}
	return list
}

// anyPlace is one that may be.
func anyPlace(r *rand.Rand, d api.Dims) api.Place {
	var p api.Place
	for axis, n := range d {
		size := r.Intn(n) + 1
		if r.Intn(3) == 0 {
			size = n
		}
		p.Box.Size[axis] = size
		if size < n {
			p.Box.Base[axis] = r.Intn(n)
		}
		p.Torus[axis] = size > 1 && r.Intn(2) == 0
	}
	return p
}

// tinyDims are dimensions of machines of which all pairs of sets can be gone through, with axes of 1, of 2, and of more.
func tinyDims() []api.Dims {
	return []api.Dims{{1, 1, 1}, {2, 1, 1}, {1, 2, 1}, {1, 1, 2}, {3, 1, 1}, {1, 4, 1}, {1, 1, 5}, {2, 2, 1}, {2, 1, 2}, {3, 2, 1}, {1, 3, 2}, {2, 1, 3}}
}

// smallDims are dimensions of machines of which all places can be gone through.
func smallDims() []api.Dims {
	return []api.Dims{{7, 1, 1}, {1, 4, 2}, {2, 2, 2}, {3, 3, 1}, {4, 1, 4}, {3, 2, 2}, {2, 4, 3}, {3, 3, 3}, {1, 5, 3}}
}

// wordDims are dimensions of machines whose sets are of one full word, or of several.
func wordDims() []api.Dims {
	return []api.Dims{{4, 4, 4}, {16, 4, 1}, {5, 13, 1}, {13, 1, 5}, {1, 8, 9}, {2, 16, 3}, {8, 8, 2}, {5, 5, 5}, {16, 1, 16}, {7, 7, 5}}
}

// greatest are the dimensions of the greatest machine.
var greatest = api.Dims{16, 16, 16}

// badDims are dimensions that may not be.
func badDims() []api.Dims {
	l := []api.Dims{{}, {-1, -1, 1}, {-1, -1, -1}, {-4, -4, -4}, {17, 17, 17}, {64, 1, 1}, {1, 32, 2}, {math.MaxInt, math.MaxInt, math.MaxInt}, {math.MinInt, math.MinInt, math.MinInt}, {1 << 32, 1 << 32, 1}, {math.MinInt, 2, 1}}
	for axis := range 3 {
		for _, long := range []int{math.MinInt, -1, 0, 17, math.MaxInt} {
			d := api.Dims{1, 1, 1}
			d[axis] = long
			l = append(l, d)
		}
	}
	return l
}

// badSets are sets below n that may not be: without a word, with too few or too many, and with a bit at n or beyond.
func badSets(n int) []api.Set {
	long := len(bits(n))
	l := []api.Set{nil, {}, make(api.Set, long+1), make(api.Set, long+100), make(api.Set, 3*long), append(bits(n, 0), 0), append(but(n), 1)}
	if long > 1 {
		l = append(l, make(api.Set, long-1), but(n)[:long-1])
	}
	for beyond := n; beyond < 64*long; beyond++ {
		l = append(l, bits(64*long, beyond), bits(64*long, 0, beyond))
	}
	return l
}

// badPlaces are places that may not be: by each number of the box, by a Base that is not canonical, and by a torus along an axis of Size 1.
func badPlaces(d api.Dims) []api.Place {
	one := of([3]int{}, [3]int{1, 1, 1}, "---")
	l := []api.Place{{}, of(d, d, "---"), of([3]int{}, [3]int{17, 17, 17}, "---"), of([3]int{-1, -1, -1}, [3]int{-1, -1, -1}, "ttt"), of([3]int{}, [3]int{1, 1, 1}, "ttt")}
	for axis, n := range d {
		for _, k := range []int{math.MinInt, -1, n, n + 1, math.MaxInt} {
			p := one
			p.Box.Base[axis] = k
			l = append(l, p)
		}
		for _, k := range []int{math.MinInt, -1, 0, n + 1, 2 * n, math.MaxInt} {
			p := one
			p.Box.Size[axis] = k
			l = append(l, p)
		}
		p := one
		p.Torus[axis] = true
		l = append(l, p)
		if n > 1 {
			p = of([3]int{}, d, "---")
			p.Box.Base[axis] = n - 1
			l = append(l, p)
		}
	}
	return l
}

// openIs asks Open for a number.
func openIs(t *testing.T, d api.Dims, from, to api.Set, want int) {
	t.Helper()
	if n, e := Open(d, from, to); e != api.OK || n != want {
		t.Error("Open", d, from, to, n, e, "not", want)
	}
}

// ofIs asks Of for a score.
func ofIs(t *testing.T, d api.Dims, p api.Place, mids api.Set, want int) {
	t.Helper()
	if n, e := Of(d, p, mids); e != api.OK || n != want {
		t.Error("Of", d, p, mids, n, e, "not", want)
	}
}

// spreadIs asks Spread for a number.
func spreadIs(t *testing.T, d api.Dims, mids api.Set, want int) {
	t.Helper()
	if n, e := Spread(d, mids); e != api.OK || n != want {
		t.Error("Spread", d, mids, n, e, "not", want)
	}
}

// refusedOpen asks Open for an error and nothing beside it.
func refusedOpen(t *testing.T, d api.Dims, from, to api.Set, want api.Errno) {
	t.Helper()
	if n, e := Open(d, from, to); e != want || n != 0 {
		t.Error("Open", d, from, to, n, e, "not", want)
	}
}

// refusedOf asks Of for an error and nothing beside it.
func refusedOf(t *testing.T, d api.Dims, p api.Place, mids api.Set, want api.Errno) {
	t.Helper()
	if n, e := Of(d, p, mids); e != want || n != 0 {
		t.Error("Of", d, p, mids, n, e, "not", want)
	}
}

// refusedSpread asks Spread for an error and nothing beside it.
func refusedSpread(t *testing.T, d api.Dims, mids api.Set, want api.Errno) {
	t.Helper()
	if n, e := Spread(d, mids); e != want || n != 0 {
		t.Error("Spread", d, mids, n, e, "not", want)
	}
}

// P14.1: the chapter's examples.
func TestExamples(t *testing.T) {
	d := api.Dims{3, 2, 1}
	openIs(t, d, api.Set{1}, api.Set{2}, 1)
	openIs(t, d, api.Set{1}, api.Set{8}, 2)
	openIs(t, d, api.Set{7}, api.Set{56}, 6)
	ofIs(t, d, of([3]int{}, [3]int{1, 1, 1}, "---"), api.Set{0}, 8)
	ofIs(t, d, of([3]int{}, [3]int{3, 1, 1}, "---"), api.Set{0}, 14)
	spreadIs(t, d, api.Set{1}, 4)
}

// P14.1: sets that are empty, of one midplane, of some, of all; the same, apart, overlapping; sides past the last midplane of an axis; axes of 1, without sides, of 2, whose two sides both count, and of more.
func TestOpen(t *testing.T) {
	for i, c := range []struct {
		d        api.Dims
		from, to api.Set
		want     int
	}{
		// No axis has sides.
		{api.Dims{1, 1, 1}, api.Set{1}, api.Set{1}, 0},
		{api.Dims{1, 1, 1}, api.Set{0}, api.Set{1}, 0},
		// An axis of 2: both sides are toward the other one.
		{api.Dims{2, 1, 1}, api.Set{1}, api.Set{2}, 2},
		{api.Dims{1, 2, 1}, api.Set{2}, api.Set{1}, 2},
		{api.Dims{1, 1, 2}, api.Set{3}, api.Set{3}, 4},
		{api.Dims{1, 1, 2}, api.Set{1}, api.Set{1}, 0},
		{api.Dims{2, 2, 2}, api.Set{1}, api.Set{255}, 6},
		{api.Dims{2, 2, 2}, api.Set{1}, api.Set{0b10000}, 2},
		{api.Dims{2, 2, 2}, api.Set{1}, api.Set{0b10000000}, 0},
		// An axis of 3: each one is toward both others, on and back.
		{api.Dims{3, 1, 1}, api.Set{1}, api.Set{2}, 1},
		{api.Dims{3, 1, 1}, api.Set{1}, api.Set{4}, 1},
		{api.Dims{3, 1, 1}, api.Set{1}, api.Set{6}, 2},
		{api.Dims{3, 1, 1}, api.Set{7}, api.Set{7}, 6},
		// An axis of more, the first and the last midplane side by side.
		{api.Dims{1, 4, 1}, api.Set{1}, api.Set{2}, 1},
		{api.Dims{1, 4, 1}, api.Set{1}, api.Set{4}, 0},
		{api.Dims{1, 4, 1}, api.Set{1}, api.Set{8}, 1},
		{api.Dims{1, 4, 1}, api.Set{8}, api.Set{1}, 1},
		{api.Dims{1, 1, 4}, api.Set{0b0101}, api.Set{0b1010}, 4},
		{api.Dims{1, 1, 4}, api.Set{0b0011}, api.Set{0b0011}, 2},
		{api.Dims{1, 1, 4}, api.Set{0b0011}, api.Set{0b0110}, 2},
		{api.Dims{1, 1, 4}, api.Set{15}, api.Set{15}, 8},
		{api.Dims{1, 1, 4}, api.Set{15}, api.Set{0}, 0},
		{api.Dims{1, 1, 4}, api.Set{0}, api.Set{15}, 0},
		{api.Dims{1, 1, 4}, api.Set{0}, api.Set{0}, 0},
		// Along the edge of a plane, past its last midplanes, each corner is toward two others by one side each.
		{api.Dims{4, 4, 1}, bits(16, 0), bits(16, 3, 12, 15), 2},
		{api.Dims{4, 4, 1}, bits(16, 0, 3, 12, 15), bits(16, 0, 3, 12, 15), 8},
		{api.Dims{4, 4, 1}, bits(16, 5), but(16, 5), 4},
		{api.Dims{4, 4, 1}, bits(16, 3), bits(16, 4), 0},
		// Sets of several words.
		{greatest, bits(4096, 0), bits(4096, 1, 15, 16, 240, 256, 3840), 6},
		{greatest, bits(4096, 4095), bits(4096, 4094, 4080, 4079, 3855, 3839, 255), 6},
		{greatest, bits(4096, 63), bits(4096, 64), 0},
		{greatest, bits(4096, 0, 4095), but(4096, 0, 4095), 12},
		{greatest, but(4096), but(4096), 6 * 4096},
		{greatest, but(4096), bits(4096), 0},
	} {
		if n, e := Open(c.d, c.from, c.to); e != api.OK || n != c.want {
			t.Error(i, c.d, n, e, "not", c.want)
		}
	}
}

// P14.1, P14.3: on the tiniest machines, all pairs of sets, and so each way.
func TestOpenOfEachPair(t *testing.T) {
	for _, d := range tinyDims() {
		all := tableOf(d)
		for a := range uint64(1) << many(d) {
			for b := range uint64(1) << many(d) {
				openIs(t, d, api.Set{a}, api.Set{b}, all.open(api.Set{a}, api.Set{b}))
			}
		}
	}
}

// P14.1: on greater machines: nothing, one midplane, some, all, the same, apart, overlapping.
func TestOpenByWords(t *testing.T) {
	r := rand.New(rand.NewSource(141))
	for _, d := range append(smallDims(), wordDims()...) {
		n, all := many(d), tableOf(d)
		sets := []api.Set{bits(n), but(n), bits(n, 0), bits(n, n-1), but(n, n/2), some(r, n, 2), some(r, n, 3), some(r, n, 10)}
		sets = append(sets, neither(n, sets[5]), neither(n, sets[7]))
		for _, from := range sets {
			for _, to := range sets {
				openIs(t, d, from, to, all.open(from, to))
			}
		}
	}
}

// P14.1: twice the open sides of its own midplanes, and one for each cable; its own count as its own, whether free or not.
func TestOf(t *testing.T) {
	d := api.Dims{3, 2, 1}
	one, row := of([3]int{}, [3]int{1, 1, 1}, "---"), of([3]int{}, [3]int{3, 1, 1}, "---")
	ring := of([3]int{}, [3]int{3, 1, 1}, "t--")
	for i, c := range []struct {
		d    api.Dims
		p    api.Place
		mids api.Set
		want int
	}{
		// One midplane: it takes no cable, and two of its four sides are toward the same one.
		{d, one, api.Set{0b000001}, 8},
		{d, one, api.Set{0b000010}, 6},
		{d, one, api.Set{0b001000}, 4},
		{d, one, api.Set{0b110000}, 8},
		{d, one, api.Set{0b111110}, 0},
		{d, one, api.Set{0b111111}, 0},
		// A row as long as its axis: open along the other one alone; a torus takes one cable more.
		{d, row, api.Set{0b000111}, 14},
		{d, row, api.Set{0b001000}, 10},
		{d, row, api.Set{0b111000}, 2},
		{d, row, api.Set{0b111111}, 2},
		{d, ring, api.Set{0}, 15},
		{d, ring, api.Set{0b000010}, 15},
		{d, ring, api.Set{0b111000}, 3},
		// Two of a row of three: they have no side toward each other that is open, and the torus takes the cables past the third one.
		{d, of([3]int{2, 0, 0}, [3]int{2, 1, 1}, "---"), api.Set{0}, 13},
		{d, of([3]int{2, 0, 0}, [3]int{2, 1, 1}, "t--"), api.Set{0}, 15},
		{d, of([3]int{2, 0, 0}, [3]int{2, 1, 1}, "t--"), api.Set{0b000010}, 11},
		{d, of([3]int{2, 0, 0}, [3]int{2, 1, 1}, "---"), api.Set{0b101010}, 1},
		// Along the axis of two, as a mesh and as a torus.
		{d, of([3]int{1, 0, 0}, [3]int{1, 2, 1}, "---"), api.Set{0}, 9},
		{d, of([3]int{1, 0, 0}, [3]int{1, 2, 1}, "-t-"), api.Set{0}, 10},
		{d, of([3]int{1, 0, 0}, [3]int{1, 2, 1}, "-t-"), api.Set{0b001001}, 6},
		// The whole machine has no open side.
		{d, of([3]int{}, d, "---"), api.Set{0}, 7},
		{d, of([3]int{}, d, "tt-"), api.Set{0}, 12},
		{d, of([3]int{}, d, "tt-"), api.Set{63}, 12},
		{api.Dims{1, 1, 1}, one, api.Set{0}, 0},
		{api.Dims{1, 1, 1}, one, api.Set{1}, 0},
		{api.Dims{1, 1, 2}, one, api.Set{0}, 4},
		{api.Dims{1, 1, 2}, one, api.Set{2}, 0},
		{api.Dims{1, 1, 2}, of([3]int{}, [3]int{1, 1, 2}, "--t"), api.Set{0}, 2},
		// The greatest machine: one midplane, a cube past its last midplanes, and all of it.
		{greatest, one, bits(4096), 12},
		{greatest, one, bits(4096, 1, 15, 16, 240, 256, 3840), 0},
		{greatest, one, but(4096, 3840), 2},
		{greatest, of([3]int{15, 15, 15}, [3]int{2, 2, 2}, "---"), bits(4096), 2*24 + 12},
		{greatest, of([3]int{15, 15, 15}, [3]int{2, 2, 2}, "ttt"), bits(4096), 2*24 + 12*16},
		{greatest, of([3]int{15, 15, 15}, [3]int{2, 2, 2}, "--t"), but(4096), 4 + 4 + 4*16},
		{greatest, of([3]int{}, greatest, "---"), bits(4096), 3 * 256 * 15},
		{greatest, of([3]int{}, greatest, "ttt"), bits(4096), 3 * 4096},
		{greatest, of([3]int{0, 0, 7}, [3]int{16, 16, 1}, "tt-"), bits(4096), 2*2*256 + 2*256},
	} {
		if n, e := Of(c.d, c.p, c.mids); e != api.OK || n != c.want {
			t.Error(i, c.d, c.p, n, e, "not", c.want)
		}
	}
}

// P14.1: each place of small machines, with nothing taken, some, its own, all but its own, all but one, all.
func TestOfEachPlace(t *testing.T) {
	r := rand.New(rand.NewSource(142))
	for _, d := range append(tinyDims(), smallDims()...) {
		n, all := many(d), tableOf(d)
		taken := []api.Set{bits(n), bits(n, n-1), but(n), some(r, n, 2), some(r, n, 4)}
		for _, p := range everyPlace(d) {
			own, _ := ownByWords(d, p)
			for _, mids := range append(taken, own, neither(n, own), but(n, r.Intn(n)), some(r, n, 3)) {
				ofIs(t, d, p, mids, all.score(d, p, mids))
			}
		}
	}
}

// P14.1: any places of greater machines.
func TestOfByWords(t *testing.T) {
	r := rand.New(rand.NewSource(143))
	for _, d := range wordDims() {
		n, all := many(d), tableOf(d)
		for range 60 {
			p := anyPlace(r, d)
			own, _ := ownByWords(d, p)
			for _, mids := range []api.Set{bits(n), own, neither(n, own), but(n), some(r, n, 2), some(r, n, 8)} {
				ofIs(t, d, p, mids, all.score(d, p, mids))
			}
		}
	}
}

// P14.1: nothing taken, one midplane, some, all.
func TestSpread(t *testing.T) {
	for i, c := range []struct {
		d    api.Dims
		mids api.Set
		want int
	}{
		{api.Dims{1, 1, 1}, api.Set{0}, 0},
		{api.Dims{1, 1, 1}, api.Set{1}, 0},
		{api.Dims{2, 1, 1}, api.Set{0}, 0},
		{api.Dims{2, 1, 1}, api.Set{1}, 2},
		{api.Dims{2, 1, 1}, api.Set{2}, 2},
		{api.Dims{2, 1, 1}, api.Set{3}, 0},
		{api.Dims{3, 2, 1}, api.Set{0}, 0},
		{api.Dims{3, 2, 1}, api.Set{0b000111}, 6},
		{api.Dims{3, 2, 1}, api.Set{0b001001}, 4},
		{api.Dims{3, 2, 1}, api.Set{0b010001}, 8},
		{api.Dims{3, 2, 1}, api.Set{63}, 0},
		{api.Dims{1, 1, 4}, api.Set{0b0101}, 4},
		{api.Dims{1, 1, 4}, api.Set{0b1001}, 2},
		{greatest, bits(4096), 0},
		{greatest, bits(4096, 0), 6},
		{greatest, bits(4096, 4095), 6},
		{greatest, but(4096, 4095, 4080), 10},
		{greatest, bits(4096, 63, 64), 12},
		{greatest, but(4096), 0},
	} {
		if n, e := Spread(c.d, c.mids); e != api.OK || n != c.want {
			t.Error(i, c.d, n, e, "not", c.want)
		}
	}
}

// P14.1: how scattered what is free is, whatever is taken of the tiniest machines, and some of greater ones.
func TestSpreadByWords(t *testing.T) {
	r := rand.New(rand.NewSource(144))
	for _, d := range tinyDims() {
		all := tableOf(d)
		for w := range uint64(1) << many(d) {
			spreadIs(t, d, api.Set{w}, all.spread(api.Set{w}))
		}
	}
	for _, d := range append(smallDims(), wordDims()...) {
		n, all := many(d), tableOf(d)
		for _, mids := range []api.Set{bits(n), but(n), bits(n, n/2), but(n, n-1), some(r, n, 2), some(r, n, 3), some(r, n, 9)} {
			spreadIs(t, d, mids, all.spread(mids))
		}
	}
}

// All promises: dimensions that may not be, whatever stands beside them.
func TestBadDims(t *testing.T) {
	for _, d := range badDims() {
		for _, s := range []api.Set{{0}, {1}, nil, {1, 2, 3}, make(api.Set, 64)} {
			refusedOpen(t, d, s, api.Set{0}, api.ErrBad)
			refusedOpen(t, d, api.Set{0}, s, api.ErrBad)
			refusedSpread(t, d, s, api.ErrBad)
			for _, p := range []api.Place{{}, of([3]int{}, [3]int{1, 1, 1}, "---"), of([3]int{}, d, "ttt"), of([3]int{-1, 0, 0}, [3]int{0, 1, 1}, "t--")} {
				refusedOf(t, d, p, s, api.ErrBad)
			}
		}
	}
}

// All promises: a set that may not be, the first one or the second one, ahead of a place that may not be.
func TestBadSets(t *testing.T) {
	for _, d := range append(append(tinyDims(), wordDims()...), greatest) {
		n := many(d)
		for _, s := range badSets(n) {
			for _, good := range []api.Set{bits(n), but(n)} {
				refusedOpen(t, d, s, good, api.ErrBad)
				refusedOpen(t, d, good, s, api.ErrBad)
			}
			refusedOpen(t, d, s, s, api.ErrBad)
			refusedSpread(t, d, s, api.ErrBad)
			for _, p := range []api.Place{of([3]int{}, [3]int{1, 1, 1}, "---"), of([3]int{}, d, "---"), {}, of([3]int{}, [3]int{1, 1, 1}, "t--"), of([3]int{-1, 0, 0}, [3]int{1, 1, 1}, "---")} {
				refusedOf(t, d, p, s, api.ErrBad)
			}
		}
	}
}

// P14.1: a place that may not be, whatever is taken.
func TestBadPlaces(t *testing.T) {
	for _, d := range append(append(tinyDims(), wordDims()...), greatest) {
		n := many(d)
		for _, p := range badPlaces(d) {
			for _, mids := range []api.Set{bits(n), bits(n, 0), but(n)} {
				refusedOf(t, d, p, mids, api.ErrArg)
			}
		}
	}
}

// P14.2: sets that are handed in stay as they are, with their spare room, and are not kept.
func TestOnlyRead(t *testing.T) {
	d := api.Dims{4, 4, 3}
	n, all := many(d), tableOf(d)
	room, otherRoom := append(bits(n, 0, 21, 47), 7, 8), append(but(n, 0, 5), 9, 10)
	was, otherWas := slices.Clone(room), slices.Clone(otherRoom)
	mids, other := room[:1], otherRoom[:1]
	p := of([3]int{3, 3, 0}, [3]int{2, 2, 1}, "t--")
	for range 2 {
		openIs(t, d, mids, other, all.open(was[:1], otherWas[:1]))
		openIs(t, d, mids, mids, all.open(was[:1], was[:1]))
		ofIs(t, d, p, mids, all.score(d, p, was[:1]))
		spreadIs(t, d, mids, all.spread(was[:1]))
	}
	if !slices.Equal(room, was) || !slices.Equal(otherRoom, otherWas) {
		t.Error("turned", room, otherRoom)
	}
	mids[0], other[0] = other[0], 0
	openIs(t, d, mids, other, 0)
	openIs(t, d, mids, mids, all.open(otherWas[:1], otherWas[:1]))
	ofIs(t, d, p, mids, all.score(d, p, otherWas[:1]))
	spreadIs(t, d, mids, all.spread(otherWas[:1]))
}

// P14.3: open sides are as many one way as the other.
func TestEachWay(t *testing.T) {
	r := rand.New(rand.NewSource(145))
	for _, d := range append(append(smallDims(), wordDims()...), greatest) {
		n := many(d)
		for _, pair := range [][2]api.Set{{bits(n, 0), but(n)}, {bits(n), but(n)}, {some(r, n, 2), some(r, n, 2)}, {some(r, n, 10), some(r, n, 3)}, {but(n, 0), bits(n, 0)}} {
			there, e := Open(d, pair[0], pair[1])
			back, f := Open(d, pair[1], pair[0])
			if e != api.OK || f != api.OK || there != back {
				t.Error(d, there, e, back, f)
			}
		}
	}
}

// P14.3: a place's score is no greater with more that is not free.
func TestMoreTaken(t *testing.T) {
	r := rand.New(rand.NewSource(146))
	for _, d := range append(append(smallDims(), wordDims()...), greatest) {
		n := many(d)
		for range 8 {
			p := anyPlace(r, d)
			last := math.MaxInt
			mids := bits(n)
			for _, more := range []api.Set{bits(n), bits(n, r.Intn(n)), some(r, n, 8), some(r, n, 3), some(r, n, 2), but(n)} {
				mids = either(n, mids, more)
				now, e := Of(d, p, mids)
				if e != api.OK || now > last {
					t.Error(d, p, mids, now, e, last)
				}
				last = now
			}
		}
	}
}

// P14.3: how scattered what is free is turns, when a place of free midplanes is taken, by its open sides toward what is still free, less those toward what is not.
func TestSpreadTurns(t *testing.T) {
	r := rand.New(rand.NewSource(147))
	must := func(n int, e api.Errno) int {
		if e != api.OK {
			t.Error(e)
		}
		return n
	}
	for _, d := range append(append(smallDims(), wordDims()...), greatest) {
		n := many(d)
		for range 8 {
			p := anyPlace(r, d)
			own, _ := ownByWords(d, p)
			for _, taken := range []api.Set{bits(n), some(r, n, 2), some(r, n, 6), but(n)} {
				mids := those(n, func(k int) bool { return in(taken, k) && !in(own, k) })
				all := either(n, mids, own)
				turned := must(Open(d, own, neither(n, all))) - must(Open(d, own, mids))
				if before, after := must(Spread(d, mids)), must(Spread(d, all)); after-before != turned {
					t.Error(d, p, mids, before, after, turned)
				}
			}
		}
	}
}
