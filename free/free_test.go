package free

import (
	"math"
	"math/rand"
	"slices"
	"testing"

	"tidehall/api"
	"tidehall/cals"
	"tidehall/set"
	"tidehall/time"
)

const most = 1 << 40

// span is a span.
func span(from, to int) api.Span {
	return api.Span{From: from, To: to}
}

// slot is a slot.
func slot(from, to, owner int) api.Slot {
	return api.Slot{Span: span(from, to), Owner: owner}
}

// row is a calendar of so many slots of one moment, with a moment between each two, the first one at 1.
func row(n int) []api.Slot {
	c := make([]api.Slot, n)
	for i := range c {
		c[i] = slot(2*i+1, 2*i+2, i%3+1)
	}
	return c
}

// many is how many midplanes there are.
func many(d api.Dims) int {
	return d[0] * d[1] * d[2]
}

// yard are calendars by hand: empty, but for those that are told, by their numbers.
func yard(d api.Dims, nodes, links map[int][]api.Slot) api.Yard {
	n := many(d)
	y := api.Yard{Dims: d, Nodes: make([][]api.Slot, n), Links: make([][]api.Slot, 3*n)}
	for k, c := range nodes {
		y.Nodes[k] = slices.Clone(c)
	}
	for k, c := range links {
		y.Links[k] = slices.Clone(c)
	}
	return y
}

// bits is a set below n, by its numbers.
func bits(n int, l ...int) api.Set {
	s := make(api.Set, (n+63)/64)
	for _, k := range l {
		s[k/64] |= 1 << (k % 64)
	}
	return s
}

// of is a place: base, size, tori by letters.
func of(base, size [3]int, torus string) api.Place {
	p := api.Place{Box: api.Box{Base: base, Size: size}}
	for axis := range 3 {
		p.Torus[axis] = torus[axis] == 't'
	}
	return p
}

// along is a place along axis 0 alone.
func along(base, size int, torus bool) api.Place {
	return api.Place{Box: api.Box{Base: [3]int{base, 0, 0}, Size: [3]int{size, 1, 1}}, Torus: [3]bool{torus, false, false}}
}

// everyPlace are all places that may be.
func everyPlace(d api.Dims) []api.Place {
	list := []api.Place{{}}
	for axis, n := range d {
		var longer []api.Place
		for _, p := range list {
			for size := 1; size <= n; size++ {
				for base := range n {
					if size == n && base > 0 {
						continue
					}
					p.Box.Base[axis], p.Box.Size[axis], p.Torus[axis] = base, size, false
					longer = append(longer, p)
					if size > 1 {
						p.Torus[axis] = true
						longer = append(longer, p)
					}
				}
			}
		}
		list = longer
	}
	return list
}

// byWords are the midplanes and the cables that a place takes: of a cable's line all other coordinates are the box's, and it lies between two of the box's midplanes, or the place is a torus there.
func byWords(d api.Dims, p api.Place) (mids, links []int) {
	n := many(d)
	for m := range n {
		at := [3]int{m % d[0], m / d[0] % d[1], m / d[0] / d[1]}
		var inside, between [3]bool
		for axis := range 3 {
			on := (at[axis] - p.Box.Base[axis] + d[axis]) % d[axis]
			inside[axis] = on < p.Box.Size[axis]
			between[axis] = on+1 < p.Box.Size[axis] || p.Torus[axis]
		}
		if inside[0] && inside[1] && inside[2] {
			mids = append(mids, m)
		}
		for axis := range 3 {
			if between[axis] && inside[(axis+1)%3] && inside[(axis+2)%3] {
				links = append(links, axis*n+m)
			}
		}
	}
	slices.Sort(links)
	return mids, links
}

// busyAt tells whether a calendar has any of a span's moments.
func busyAt(c []api.Slot, s api.Span) bool {
	return slices.ContainsFunc(c, func(x api.Slot) bool {
		return x.Span.From < s.To && s.From < x.Span.To
	})
}

// freeAt tells whether a place that is free of what is bad is free through a span.
func freeAt(y api.Yard, p api.Place, s api.Span) bool {
	mids, links := byWords(y.Dims, p)
	for _, k := range mids {
		if busyAt(y.Nodes[k], s) {
			return false
		}
	}
	for _, k := range links {
		if busyAt(y.Links[k], s) {
			return false
		}
	}
	return true
}

// soonByWords goes through the moments from one on, till a place is free, or there is not enough time left.
func soonByWords(y api.Yard, p api.Place, from, long int) (int, api.Errno) {
	for at := from; long <= most-at; at++ {
		if freeAt(y, p, span(at, at+long)) {
			return at, api.OK
		}
	}
	return 0, api.ErrNone
}

// several are calendars of several owners, of midplanes and of cables.
func several() api.Yard {
	return yard(api.Dims{2, 3, 1}, map[int][]api.Slot{
		0: {slot(0, 2, 1), slot(2, 5, 7), slot(8, 12, 7)},
		2: {slot(5, 9, 8), slot(9, 10, 3)},
		5: {slot(11, 12, 7), slot(most-1, most, 7)},
	}, map[int][]api.Slot{
		1:  {slot(20, 30, 2)},
		6:  {slot(1, 3, 4), slot(3, 6, 7)},
		17: {slot(5, 9, 8), slot(most-1, most, 7)},
	})
}

// goodYards are calendars that may be: without a slot, with several, of one midplane, and with as many as can be.
func goodYards() []api.Yard {
	d, big := api.Dims{2, 3, 1}, api.Dims{16, 16, 16}
	return []api.Yard{
		yard(api.Dims{1, 1, 1}, nil, nil), yard(d, nil, nil), several(), yard(big, nil, nil),
		yard(api.Dims{1, 1, 1}, map[int][]api.Slot{0: {slot(0, most, 1)}}, map[int][]api.Slot{0: {slot(0, 1, most)}, 2: {slot(most-1, most, 1)}}),
		yard(d, map[int][]api.Slot{0: row(api.MaxSlots - 1), 5: row(api.MaxSlots)}, map[int][]api.Slot{0: row(7), 17: row(api.MaxSlots)}),
		yard(big, map[int][]api.Slot{0: {slot(5, 7, 9)}, 4095: {slot(1, 3, 7)}}, map[int][]api.Slot{64: {slot(2, 4, 1)}, 12287: {slot(2, 5, 7), slot(most-2, most-1, 8)}}),
		{Dims: api.Dims{1, 1, 1}, Nodes: [][]api.Slot{{}}, Links: [][]api.Slot{{}, nil, {}}},
	}
}

// badDims are dimensions that may not be.
func badDims() []api.Dims {
	l := []api.Dims{{}, {-1, -1, 1}, {-1, -1, -1}, {17, 17, 17}, {math.MaxInt, math.MaxInt, math.MaxInt}, {1 << 32, 1 << 32, 1}, {math.MinInt, 2, 1}}
	for axis := range 3 {
		for _, long := range []int{math.MinInt, -1, 0, 17, math.MaxInt} {
			d := api.Dims{1, 1, 1}
			d[axis] = long
			l = append(l, d)
		}
	}
	return l
}

// badSpans are spans that may not be.
func badSpans() []api.Span {
	return []api.Span{{}, span(4, 4), span(most, most), span(4, 3), span(most, 0), span(-1, 1), span(-1, 0), span(-9, -1), span(-1, most), span(0, most+1), span(most-1, most+1), span(most, most+1), span(math.MinInt, math.MaxInt), span(math.MaxInt, math.MinInt), span(5, math.MaxInt)}
}

// badMoments are moments that nothing may be asked from.
func badMoments() []int {
	return []int{math.MinInt, -most, -1, most, most + 1, math.MaxInt}
}

// badLengths are lengths that nothing may be asked for.
func badLengths() []int {
	return []int{math.MinInt, math.MinInt + 1, -most, -1, 0}
}

// badCalendars are calendars that may not be: by a slot, by their order, and by their length.
func badCalendars() [][]api.Slot {
	l := [][]api.Slot{{slot(3, 5, 1), slot(1, 2, 1)}, {slot(1, 4, 1), slot(3, 5, 2)}, {slot(1, 2, 1), slot(1, 2, 1)}, {slot(1, 2, 1), {}}, {{}, slot(1, 2, 1)}, row(api.MaxSlots + 1)}
	for _, s := range badSpans() {
		l = append(l, []api.Slot{{Span: s, Owner: 1}})
	}
	for _, owner := range []int{math.MinInt, -most, -1, 0, most + 1, math.MaxInt} {
		l = append(l, []api.Slot{slot(3, 4, owner)})
	}
	return l
}

// badYards are machines' calendars that may not be: by their dimensions, by how many they are, and by one of them.
func badYards() []api.Yard {
	var l []api.Yard
	for _, d := range badDims() {
		l = append(l, api.Yard{Dims: d}, api.Yard{Dims: d, Nodes: make([][]api.Slot, 6), Links: make([][]api.Slot, 18)})
	}
	for _, d := range []api.Dims{{1, 1, 1}, {2, 3, 1}, {16, 16, 16}} {
		n := many(d)
		for _, x := range [][2]int{{0, 0}, {n, 0}, {0, 3 * n}, {n - 1, 3 * n}, {n + 1, 3 * n}, {n, 3*n - 1}, {n, 3*n + 1}, {3 * n, n}, {n, n}, {n - 1, 3*n + 1}} {
			l = append(l, api.Yard{Dims: d, Nodes: make([][]api.Slot, x[0]), Links: make([][]api.Slot, x[1])})
		}
	}
	d := api.Dims{2, 3, 1}
	good := []api.Slot{slot(1, 3, 7), slot(5, 9, 8)}
	for _, c := range badCalendars() {
		for _, k := range []int{0, 2, 5} {
			l = append(l, yard(d, map[int][]api.Slot{k: c}, nil), yard(d, map[int][]api.Slot{1: good, k: c}, map[int][]api.Slot{0: good}))
		}
		for _, k := range []int{0, 6, 17} {
			l = append(l, yard(d, nil, map[int][]api.Slot{k: c}), yard(d, map[int][]api.Slot{0: good, 5: good}, map[int][]api.Slot{1: good, k: c}))
		}
	}
	return l
}

// badPlaces are places that may not be, of dimensions 2 3 1: by their base, their size, a base that is not canonical, and a torus along an axis of size 1.
func badPlaces() []api.Place {
	l := []api.Place{
		{}, of([3]int{1, 0, 0}, [3]int{2, 1, 1}, "---"), of([3]int{0, 2, 0}, [3]int{1, 3, 1}, "---"), of([3]int{0, 0, 0}, [3]int{3, 1, 1}, "---"), of([3]int{0, 0, 0}, [3]int{1, 4, 1}, "---"),
		of([3]int{0, 0, 0}, [3]int{1, 1, 1}, "t--"), of([3]int{0, 0, 0}, [3]int{2, 1, 1}, "-t-"), of([3]int{0, 0, 0}, [3]int{2, 3, 1}, "ttt"),
	}
	for axis, n := range [3]int{2, 3, 1} {
		for _, k := range []int{math.MinInt, -1, n, n + 1, math.MaxInt} {
			p := of([3]int{}, [3]int{1, 1, 1}, "---")
			p.Box.Base[axis] = k
			l = append(l, p)
		}
		for _, k := range []int{math.MinInt, -1, 0, n + 1, math.MaxInt} {
			p := of([3]int{}, [3]int{1, 1, 1}, "---")
			p.Box.Size[axis] = k
			l = append(l, p)
		}
	}
	return l
}

// badSets are sets below n that may not be: without a word, with one too few or too many, and with a bit beyond.
func badSets(n int) []api.Set {
	long := len(bits(n))
	l := []api.Set{nil, {}, make(api.Set, long+1), make(api.Set, long+100)}
	if long > 1 {
		l = append(l, make(api.Set, long-1))
	}
	for beyond := n; beyond < 64*long; beyond++ {
		l = append(l, bits(64*long, beyond), bits(64*long, 0, beyond))
	}
	return append(l, append(bits(n, 0), 0))
}

// sameSets asks for two sets without an error.
func sameSets(t *testing.T, what string, m, l api.Set, e api.Errno, wantM, wantL api.Set) {
	t.Helper()
	if e != api.OK || !slices.Equal(m, wantM) || !slices.Equal(l, wantL) {
		t.Error(what, m, l, e, "not", wantM, wantL)
	}
}

// refusedAvoid asks Avoid for an error and nothing beside it.
func refusedAvoid(t *testing.T, y api.Yard, mids, links api.Set, s api.Span, want api.Errno) {
	t.Helper()
	if m, l, e := Avoid(y, mids, links, s); e != want || len(m) != 0 || len(l) != 0 {
		t.Error("Avoid", mids, links, s, m, l, e, "not", want)
	}
}

// refusedHolds asks Holds for an error and nothing beside it.
func refusedHolds(t *testing.T, d api.Dims, p api.Place, mids, links api.Set, want api.Errno) {
	t.Helper()
	if is, e := Holds(d, p, mids, links); e != want || is {
		t.Error("Holds", d, p, mids, links, is, e, "not", want)
	}
}

// refusedSoon asks Soon for an error and nothing beside it.
func refusedSoon(t *testing.T, y api.Yard, p api.Place, mids, links api.Set, from, long int, want api.Errno) {
	t.Helper()
	if at, e := Soon(y, p, mids, links, from, long); e != want || at != 0 {
		t.Error("Soon", y.Dims, p, mids, links, from, long, at, e, "not", want)
	}
}

// soonIs asks Soon, with nothing bad, for a moment, or, by one below 0, that there is none.
func soonIs(t *testing.T, what string, y api.Yard, p api.Place, from, long, want int) {
	t.Helper()
	n := many(y.Dims)
	if want < 0 {
		refusedSoon(t, y, p, bits(n), bits(3*n), from, long, api.ErrNone)
		return
	}
	if at, e := Soon(y, p, bits(n), bits(3*n), from, long); e != api.OK || at != want {
		t.Error(what, from, long, at, e, "not", want)
	}
}

// P11.1: what is to be avoided with nothing busy and nothing bad, with each alone and with both, of midplanes and of cables, the same and others; through spans that end where a slot begins, and that begin where one ends.
func TestAvoid(t *testing.T) {
	y := several()
	for i, x := range []struct {
		badMids, badLinks []int
		s                 api.Span
		mids, links       []int
	}{
		{nil, nil, span(12, 20), nil, nil}, {nil, nil, span(30, most-1), nil, nil},
		{[]int{1}, nil, span(12, 20), []int{1}, nil}, {nil, []int{0, 4}, span(12, 20), nil, []int{0, 4}}, {[]int{0, 5}, []int{0, 17}, span(12, 20), []int{0, 5}, []int{0, 17}},
		{nil, nil, span(0, 1), []int{0}, nil}, {nil, nil, span(0, 2), []int{0}, []int{6}}, {nil, nil, span(20, 21), nil, []int{1}}, {nil, nil, span(7, 8), []int{2}, []int{17}}, {nil, nil, span(0, most), []int{0, 2, 5}, []int{1, 6, 17}},
		{[]int{0}, nil, span(0, 1), []int{0}, nil}, {[]int{3}, nil, span(0, 1), []int{0, 3}, nil}, {nil, []int{6}, span(0, 1), []int{0}, []int{6}}, {[]int{1, 4}, []int{17, 3}, span(0, 2), []int{0, 1, 4}, []int{3, 6, 17}}, {[]int{0, 1, 2, 3, 4, 5}, []int{1, 6, 17}, span(0, most), []int{0, 1, 2, 3, 4, 5}, []int{1, 6, 17}},
		{nil, nil, span(6, 8), []int{2}, []int{17}}, {nil, nil, span(6, 9), []int{0, 2}, []int{17}}, {nil, nil, span(5, 8), []int{2}, []int{6, 17}}, {nil, nil, span(4, 5), []int{0}, []int{6}}, {nil, nil, span(9, 10), []int{0, 2}, nil}, {nil, nil, span(10, 11), []int{0}, nil}, {nil, nil, span(10, 12), []int{0, 5}, nil},
		{nil, nil, span(19, 20), nil, nil}, {nil, nil, span(19, 21), nil, []int{1}}, {nil, nil, span(29, 30), nil, []int{1}}, {nil, nil, span(30, 31), nil, nil},
		{nil, nil, span(most-2, most-1), nil, nil}, {nil, nil, span(most-1, most), []int{5}, []int{17}},
	} {
		m, l, e := Avoid(y, bits(6, x.badMids...), bits(18, x.badLinks...), x.s)
		if e != api.OK || !slices.Equal(m, bits(6, x.mids...)) || !slices.Equal(l, bits(18, x.links...)) {
			t.Error(i, m, l, e)
		}
	}
}

// P11.1: machines of one midplane, of a few and as great as can be: nothing busy and nothing bad, each alone, and both, in the first and in the last word.
func TestAvoidOfMachines(t *testing.T) {
	for _, d := range []api.Dims{{1, 1, 1}, {2, 1, 1}, {4, 4, 4}, {5, 13, 1}, {16, 16, 16}} {
		n := many(d)
		none, noLink, last, lastLink := bits(n), bits(3*n), bits(n, n-1), bits(3*n, 3*n-1)
		empty := yard(d, nil, nil)
		full := yard(d, map[int][]api.Slot{0: {slot(3, 6, 1)}}, map[int][]api.Slot{0: {slot(3, 6, 1)}})
		m, l, e := Avoid(empty, none, noLink, span(0, most))
		sameSets(t, "neither", m, l, e, none, noLink)
		m, l, e = Avoid(empty, last, lastLink, span(0, most))
		sameSets(t, "bad", m, l, e, last, lastLink)
		m, l, e = Avoid(full, none, noLink, span(5, 9))
		sameSets(t, "busy", m, l, e, bits(n, 0), bits(3*n, 0))
		m, l, e = Avoid(full, last, lastLink, span(5, 9))
		sameSets(t, "both", m, l, e, bits(n, 0, n-1), bits(3*n, 0, 3*n-1))
		m, l, e = Avoid(full, last, noLink, span(0, 3))
		sameSets(t, "ahead", m, l, e, last, noLink)
		m, l, e = Avoid(full, none, lastLink, span(6, 7))
		sameSets(t, "behind", m, l, e, none, lastLink)
	}
}

// P11.1: places of one midplane, meshes, tori and such as go round, with sets that have nothing, what they take, what they pass, and what they do not take.
func TestHolds(t *testing.T) {
	d := api.Dims{4, 3, 1}
	one := of([3]int{1, 1, 0}, [3]int{1, 1, 1}, "---")   // 5
	mesh := of([3]int{1, 0, 0}, [3]int{2, 1, 1}, "---")  // 1 2, cable 1
	torus := of([3]int{1, 0, 0}, [3]int{2, 1, 1}, "t--") // 1 2, cables 0 to 3
	round := of([3]int{3, 2, 0}, [3]int{2, 2, 1}, "---") // 0 3 8 11, cables 3 11 20 23
	ring := of([3]int{3, 2, 0}, [3]int{2, 2, 1}, "-t-")  // 0 3 8 11, cables 3 11, and 12 16 20 15 19 23
	for i, x := range []struct {
		p           api.Place
		mids, links []int
		is          bool
	}{
		{one, nil, nil, true}, {one, []int{5}, nil, false}, {one, []int{4, 6, 1, 9}, []int{4, 5, 13, 17, 29}, true}, {one, []int{5}, []int{5}, false},
		{mesh, nil, nil, true}, {mesh, []int{1}, nil, false}, {mesh, []int{2}, nil, false}, {mesh, nil, []int{1}, false}, {mesh, []int{2}, []int{1}, false}, {mesh, []int{0, 3, 5, 6}, []int{0, 2, 3, 13, 14}, true}, {mesh, []int{0}, []int{1}, false}, {mesh, []int{1}, []int{0}, false},
		{torus, nil, nil, true}, {torus, []int{1}, nil, false}, {torus, nil, []int{0}, false}, {torus, nil, []int{1}, false}, {torus, nil, []int{2}, false}, {torus, nil, []int{3}, false}, {torus, []int{1, 2}, []int{0, 1, 2, 3}, false},
		{torus, []int{0, 3}, nil, true}, {torus, []int{0, 3}, []int{4, 5, 12, 13, 14, 15}, true},
		{round, nil, nil, true}, {round, []int{0}, nil, false}, {round, []int{3}, nil, false}, {round, []int{8}, nil, false}, {round, []int{11}, nil, false}, {round, nil, []int{3}, false}, {round, nil, []int{11}, false}, {round, nil, []int{20}, false}, {round, nil, []int{23}, false},
		{round, []int{1, 2, 4, 5, 6, 7, 9, 10}, []int{0, 1, 2, 7, 8, 9, 10, 12, 15, 16, 19, 24}, true},
		{ring, nil, []int{12}, false}, {ring, nil, []int{19}, false}, {ring, []int{4, 7}, []int{0, 7, 13, 14}, true}, {ring, []int{4, 0}, nil, false},
	} {
		if is, e := Holds(d, x.p, bits(12, x.mids...), bits(36, x.links...)); is != x.is || e != api.OK {
			t.Error(i, is, e)
		}
	}
}

// P11.1: each place of small machines, asked of each midplane and of each cable alone, of all that it takes, and of all that it does not take.
func TestHoldsByWords(t *testing.T) {
	for _, d := range []api.Dims{{1, 1, 1}, {2, 1, 1}, {1, 3, 1}, {1, 1, 4}, {3, 2, 1}, {2, 2, 2}, {5, 13, 1}} {
		n := many(d)
		all := everyPlace(d)
		for i := 0; i < len(all); i += 1 + len(all)/200 {
			p := all[i]
			mids, links := byWords(d, p)
			ask := func(m, l api.Set, want bool) {
				t.Helper()
				if is, e := Holds(d, p, m, l); is != want || e != api.OK {
					t.Error(d, p, m, l, is, e)
				}
			}
			for m := range n {
				ask(bits(n, m), bits(3*n), !slices.Contains(mids, m))
			}
			for l := range 3 * n {
				ask(bits(n), bits(3*n, l), !slices.Contains(links, l))
			}
			ask(bits(n), bits(3*n), true)
			ask(bits(n, mids...), bits(3*n), false)
			ask(bits(n), bits(3*n, links...), len(links) == 0)
			ask(others(n, mids), others(3*n, links), true)
		}
	}
}

// others is the set of the numbers below n that are not in a list.
func others(n int, l []int) api.Set {
	s := bits(n)
	for k := range n {
		if !slices.Contains(l, k) {
			s[k/64] |= 1 << (k % 64)
		}
	}
	return s
}

// line are the calendars of a line of four midplanes: gaps of 2, 3 and 1 moments at midplane 0, cables that are busy ahead and behind, and midplane 2 busy up to the last moment.
func line() api.Yard {
	return yard(api.Dims{4, 1, 1}, map[int][]api.Slot{
		0: {slot(2, 4, 1), slot(6, 7, 2), slot(10, 11, 3), slot(12, 20, 1)},
		1: {slot(5, 8, 4)},
		2: {slot(0, 3, 1), slot(9, most, 5)},
	}, map[int][]api.Slot{0: {slot(20, 25, 6)}, 2: {slot(30, 31, 6)}, 3: {slot(0, 40, 7)}})
}

// P11.2: free at from, from the end of a slot on, in a gap that is just long enough, past one that is a moment too short, behind several slots.
func TestSoonOfOne(t *testing.T) {
	y, p := line(), along(0, 1, false)
	for _, x := range [][3]int{
		{0, 1, 0}, {1, 1, 1}, {2, 1, 4}, {3, 1, 4}, {4, 1, 4}, {5, 1, 5}, {6, 1, 7}, {7, 1, 7}, {9, 1, 9}, {10, 1, 11}, {11, 1, 11}, {12, 1, 20}, {19, 1, 20}, {20, 1, 20}, {21, 1, 21},
		{0, 2, 0}, {1, 2, 4}, {4, 2, 4}, {5, 2, 7}, {7, 2, 7}, {8, 2, 8}, {9, 2, 20}, {0, 3, 7}, {7, 3, 7}, {8, 3, 20}, {0, 4, 20}, {0, 1000, 20}, {19, 4, 20}, {25, 4, 25},
	} {
		soonIs(t, "one midplane", y, p, x[0], x[1], x[2])
	}
	soonIs(t, "a midplane with no slot", y, along(3, 1, false), 0, most, 0)
	soonIs(t, "a midplane with no slot", y, along(3, 1, false), 7, 9, 7)
}

// P11.2: slots of several midplanes and of cables in the way, of a mesh, of a torus with its cables past midplanes outside, and of places that go round.
func TestSoonOfSeveral(t *testing.T) {
	y := line()
	for _, x := range []struct {
		p                api.Place
		from, long, want int
	}{
		{along(0, 2, false), 0, 2, 0}, {along(0, 2, false), 0, 3, 25}, {along(0, 2, false), 4, 1, 4}, {along(0, 2, false), 4, 2, 8}, {along(0, 2, false), 11, 1, 11}, {along(0, 2, false), 12, 1, 25}, {along(0, 2, false), 20, 1, 25}, {along(0, 2, false), 25, 100, 25},
		{along(0, 2, true), 0, 1, 40}, {along(0, 2, true), 39, 7, 40}, {along(0, 2, true), 41, 7, 41},
		{along(3, 2, false), 0, 1, 40}, {along(3, 2, true), 0, most - 40, 40}, {along(3, 1, false), 0, 1, 0},
		{along(1, 2, false), 0, 2, 3}, {along(1, 2, false), 0, 3, -1}, {along(1, 2, false), 4, 1, 4}, {along(1, 2, false), 5, 1, 8}, {along(1, 2, false), 5, 2, -1}, {along(1, 2, false), 9, 1, -1}, {along(1, 2, true), 0, 1, -1},
		{along(2, 2, false), 2, 6, 3}, {along(2, 2, false), 2, 7, -1}, {along(2, 1, false), 3, 6, 3}, {along(2, 1, false), 9, 1, -1}, {along(0, 4, false), 0, 1, 4}, {along(0, 4, true), 0, 1, -1},
	} {
		soonIs(t, "several", y, x.p, x.from, x.long, x.want)
	}
}

// P11.2: from 0 and from the last moment, spans that end just at MaxTime and such as would end a moment behind it, and lengths as great as can be.
func TestSoonEdges(t *testing.T) {
	d, p := api.Dims{1, 1, 1}, along(0, 1, false)
	for _, from := range []int{0, 1, 5, 1 << 20, most - 2, most - 1} {
		empty := yard(d, nil, nil)
		for _, long := range []int{1, most - from} {
			soonIs(t, "just enough", empty, p, from, long, from)
		}
		for _, long := range []int{most - from + 1, most + 1, math.MaxInt - most, math.MaxInt - from, math.MaxInt - 1, math.MaxInt} {
			soonIs(t, "too much", empty, p, from, long, -1)
		}
	}
	for _, to := range []int{1, 7, most - 2, most - 1, most} {
		y := yard(d, map[int][]api.Slot{0: {slot(0, to, 3)}}, nil)
		for _, from := range []int{0, to / 2, to - 1} {
			want := to
			if to == most {
				want = -1
			}
			soonIs(t, "just enough", y, p, from, max(most-to, 1), want)
			soonIs(t, "one behind", y, p, from, most-to+1, -1)
			soonIs(t, "far too much", y, p, from, math.MaxInt, -1)
		}
	}
	late := yard(d, map[int][]api.Slot{0: {slot(5, 6, 1), slot(most-1, most, 1)}}, nil)
	soonIs(t, "from 0", late, p, 0, 5, 0)
	soonIs(t, "up to the last slot", late, p, 0, most-7, 6)
	soonIs(t, "into the last slot", late, p, 0, most-6, -1)
	soonIs(t, "from within the gap", late, p, 7, most-8, 7)
	soonIs(t, "from within the gap", late, p, 7, most-7, -1)
	soonIs(t, "the last moment", late, p, most-1, 1, -1)
	soonIs(t, "ahead of the last moment", late, p, most-2, 1, most-2)
}

// P11.2: a place that takes a bad midplane, or a bad cable, has no such moment, whatever is busy; what it does not take does not matter.
func TestSoonBad(t *testing.T) {
	y := line()
	mesh, torus := along(0, 2, false), along(0, 2, true)
	for _, long := range []int{1, 2, 5, most, math.MaxInt} {
		for _, from := range []int{0, 25, most - 1} {
			for _, p := range []api.Place{mesh, torus} {
				refusedSoon(t, y, p, api.Set{1}, api.Set{0}, from, long, api.ErrNone)
				refusedSoon(t, y, p, api.Set{2}, api.Set{0}, from, long, api.ErrNone)
				refusedSoon(t, y, p, api.Set{0}, api.Set{1}, from, long, api.ErrNone)
				refusedSoon(t, y, p, api.Set{15}, api.Set{4095}, from, long, api.ErrNone)
			}
			for _, links := range []api.Set{{2}, {4}, {8}} {
				refusedSoon(t, y, torus, api.Set{0}, links, from, long, api.ErrNone)
			}
		}
	}
	for _, x := range []struct {
		p     api.Place
		links api.Set
		want  int
	}{{mesh, api.Set{4095 - 1}, 4}, {torus, api.Set{4095 - 15}, 40}} {
		if at, e := Soon(y, x.p, api.Set{12}, x.links, 4, 1); at != x.want || e != api.OK {
			t.Error(x.p, at, e)
		}
	}
}

// P11.2: of calendars with as many slots as can be, each gap of which is a moment too short, and of a whole machine as great as can be.
func TestSoonOfMuch(t *testing.T) {
	d, p := api.Dims{1, 1, 1}, along(0, 1, false)
	y := yard(d, map[int][]api.Slot{0: row(api.MaxSlots)}, map[int][]api.Slot{0: row(api.MaxSlots)})
	soonIs(t, "each gap", y, p, 1, 1, 2)
	soonIs(t, "no gap", y, p, 0, 2, 2*api.MaxSlots)
	soonIs(t, "no gap", y, p, 5, most-2*api.MaxSlots, 2*api.MaxSlots)
	soonIs(t, "no room", y, p, 5, most-2*api.MaxSlots+1, -1)

	big := api.Dims{16, 16, 16}
	whole := of([3]int{}, [3]int{16, 16, 16}, "ttt")
	nodes, links := map[int][]api.Slot{}, map[int][]api.Slot{}
	for k := range 4096 {
		nodes[k] = []api.Slot{slot(4*k, 4*k+1, 1), slot(100000, 100001+k, 2)}
	}
	for k := range 12288 {
		links[k] = []api.Slot{slot(4*(k%4096)+2, 4*(k%4096)+3, 3)}
	}
	y = yard(big, nodes, links)
	soonIs(t, "the first gap", y, whole, 0, 1, 1)
	soonIs(t, "the last gap", y, whole, 4, 2, 4*4095+3)
	soonIs(t, "behind all", y, whole, 4, 100000, 100001+4095)
	soonIs(t, "a midplane of it", y, of([3]int{15, 15, 15}, [3]int{1, 1, 1}, "---"), 0, 4*4095, 0)
	soonIs(t, "a line of it", y, of([3]int{0, 15, 15}, [3]int{16, 1, 1}, "t--"), 4*4080, 2, 4*4095+3)
}

// calendar is one by chance, of slots within n moments from low on.
func calendar(r *rand.Rand, low, n int) []api.Slot {
	var c []api.Slot
	for at := r.Intn(6); at < n; at += r.Intn(5) {
		to := min(at+1+r.Intn(4), n)
		c = append(c, slot(low+at, low+to, 1+r.Intn(4)))
		at = to
	}
	return c
}

// chance are calendars by chance, most of them empty.
func chance(r *rand.Rand, d api.Dims, low, n int) api.Yard {
	y := yard(d, nil, nil)
	busy := 1 + r.Intn(8)
	for k := range y.Nodes {
		if r.Intn(busy) == 0 {
			y.Nodes[k] = calendar(r, low, n)
		}
	}
	for k := range y.Links {
		if r.Intn(2*busy) == 0 {
			y.Links[k] = calendar(r, low, n)
		}
	}
	return y
}

// some is a set below n by chance, of about one number of each so many.
func some(r *rand.Rand, n, each int) api.Set {
	s := bits(n)
	for k := range n {
		if r.Intn(each) == 0 {
			s[k/64] |= 1 << (k % 64)
		}
	}
	return s
}

// one is a place by chance.
func one(r *rand.Rand, d api.Dims) api.Place {
	all := everyPlace(d)
	return all[r.Intn(len(all))]
}

// P11.2: calendars and places by chance, held against all moments, one by one.
func TestSoonByWords(t *testing.T) {
	r := rand.New(rand.NewSource(11))
	dims := []api.Dims{{1, 1, 1}, {2, 1, 1}, {4, 1, 1}, {1, 5, 1}, {3, 2, 1}, {2, 2, 2}}
	found, none, bad := 0, 0, 0
	for range 4000 {
		d := dims[r.Intn(len(dims))]
		low := []int{0, 100, most - 20}[r.Intn(3)]
		y, p := chance(r, d, low, 20), one(r, d)
		from, long := max(low+r.Intn(20)-r.Intn(5), 0), 1+r.Intn(8)
		n := many(d)
		mids, links := bits(n), bits(3*n)
		if r.Intn(3) == 0 {
			mids, links = some(r, n, 4*n), some(r, 3*n, 12*n)
		}
		got, e := Soon(y, p, mids, links, from, long)
		want, wantE := soonByWords(y, p, from, long)
		if !holdsByWords(d, p, mids, links) {
			want, wantE = 0, api.ErrNone
			bad++
		}
		if got != want || e != wantE {
			t.Fatal(y, p, mids, links, from, long, got, e, "not", want, wantE)
		}
		if e == api.OK && got > from {
			found++
		}
		if e == api.ErrNone {
			none++
		}
	}
	if found < 500 || none < 200 || bad < 100 {
		t.Error("too few of each kind", found, none, bad)
	}
}

// holdsByWords tells whether a place takes nothing that is in the sets.
func holdsByWords(d api.Dims, p api.Place, mids, links api.Set) bool {
	own, ownLinks := byWords(d, p)
	in := func(s api.Set) func(k int) bool {
		return func(k int) bool { return s[k/64]>>(k%64)&1 == 1 }
	}
	return !slices.ContainsFunc(own, in(mids)) && !slices.ContainsFunc(ownLinks, in(links))
}

// P11.1, P11.2: calendars that may not be are told ahead of all else that is wrong, with all else zero.
func TestBadYards(t *testing.T) {
	good, wrong := of([3]int{}, [3]int{1, 1, 1}, "---"), api.Place{}
	for _, y := range badYards() {
		refusedAvoid(t, y, bits(6), bits(18), span(0, 1), api.ErrBad)
		refusedAvoid(t, y, bits(6), bits(18), span(4, 4), api.ErrBad)
		refusedAvoid(t, y, nil, nil, span(-1, 4), api.ErrBad)
		refusedSoon(t, y, good, bits(6), bits(18), 100, 1, api.ErrBad)
		refusedSoon(t, y, wrong, bits(6), bits(18), 100, 1, api.ErrBad)
		refusedSoon(t, y, good, bits(6, 0), bits(18), 0, 1, api.ErrBad)
		refusedSoon(t, y, good, nil, nil, 0, 1, api.ErrBad)
		refusedSoon(t, y, wrong, nil, bits(18), -1, 0, api.ErrBad)
		refusedSoon(t, y, good, bits(6), bits(18), most, math.MinInt, api.ErrBad)
	}
}

// P11.1: a span that may not be, told behind the calendars and ahead of the sets.
func TestAvoidBadSpan(t *testing.T) {
	for _, y := range goodYards() {
		n := many(y.Dims)
		for _, s := range badSpans() {
			refusedAvoid(t, y, bits(n), bits(3*n), s, api.ErrArg)
			refusedAvoid(t, y, nil, bits(3*n), s, api.ErrArg)
			refusedAvoid(t, y, bits(n), append(bits(3*n), 0), s, api.ErrArg)
			refusedAvoid(t, y, nil, nil, s, api.ErrArg)
		}
	}
}

// P11.1, P11.2: each set that may not be, alone and with another one, in small machines and in great ones.
func TestBadSets(t *testing.T) {
	for _, y := range goodYards() {
		n := many(y.Dims)
		p := along(0, 1, false)
		ask := func(mids, links api.Set) {
			t.Helper()
			for _, s := range []api.Span{span(0, 1), span(3, most)} {
				refusedAvoid(t, y, mids, links, s, api.ErrBad)
			}
			refusedHolds(t, y.Dims, p, mids, links, api.ErrBad)
			refusedSoon(t, y, p, mids, links, 0, 1, api.ErrBad)
			refusedSoon(t, y, p, mids, links, most-1, math.MaxInt, api.ErrBad)
			refusedSoon(t, y, p, mids, links, -1, 1, api.ErrBad)
			refusedSoon(t, y, p, mids, links, 0, 0, api.ErrBad)
		}
		for _, s := range badSets(n) {
			ask(s, bits(3*n))
			ask(s, bits(3*n, 0))
		}
		for _, s := range badSets(3 * n) {
			ask(bits(n), s)
			ask(bits(n, 0), s)
		}
		ask(nil, nil)
		ask(append(bits(n), 0), append(bits(3*n), 0))
	}
	// A set of midplanes is none of cables, and the other way round, unless both need as many words and have no bit beyond.
	y := yard(api.Dims{5, 13, 1}, nil, nil)
	refusedAvoid(t, y, bits(195), bits(195), span(0, 1), api.ErrBad)
	refusedAvoid(t, y, bits(65), bits(65), span(0, 1), api.ErrBad)
	refusedHolds(t, y.Dims, along(0, 1, false), bits(195), bits(195), api.ErrBad)
	refusedHolds(t, y.Dims, along(0, 1, false), bits(65), bits(65), api.ErrBad)
}

// P11.1: dimensions that may not be are told by Holds ahead of a place, and a place ahead of sets.
func TestHoldsBad(t *testing.T) {
	for _, d := range badDims() {
		for _, p := range []api.Place{{}, along(0, 1, false), along(0, 2, true)} {
			refusedHolds(t, d, p, bits(6), bits(18), api.ErrBad)
			refusedHolds(t, d, p, nil, nil, api.ErrBad)
		}
	}
	for _, p := range badPlaces() {
		d := api.Dims{2, 3, 1}
		refusedHolds(t, d, p, bits(6), bits(18), api.ErrArg)
		refusedHolds(t, d, p, nil, bits(18), api.ErrArg)
		refusedHolds(t, d, p, bits(6), nil, api.ErrArg)
		refusedHolds(t, d, p, bits(64, 63), bits(64, 63), api.ErrArg)
	}
}

// P11.2: a place that may not be, a moment from below 0 and from MaxTime on, and a length from 0 down.
func TestSoonWrong(t *testing.T) {
	none, noLink := bits(6), bits(18)
	p := of([3]int{0, 1, 0}, [3]int{2, 2, 1}, "-t-")
	for _, y := range []api.Yard{several(), yard(api.Dims{2, 3, 1}, nil, nil)} {
		for _, wrong := range badPlaces() {
			refusedSoon(t, y, wrong, none, noLink, 0, 1, api.ErrArg)
			refusedSoon(t, y, wrong, nil, noLink, 0, 1, api.ErrArg)
			refusedSoon(t, y, wrong, none, nil, -1, 1, api.ErrArg)
		}
		for _, from := range badMoments() {
			for _, long := range append(badLengths(), 1, 2, most, math.MaxInt) {
				refusedSoon(t, y, p, none, noLink, from, long, api.ErrArg)
				refusedSoon(t, y, p, bits(6, 2), noLink, from, long, api.ErrArg)
			}
		}
		for _, long := range badLengths() {
			for _, from := range []int{0, 1, 100, most - 1} {
				refusedSoon(t, y, p, none, noLink, from, long, api.ErrArg)
				refusedSoon(t, y, p, none, bits(18, 8), from, long, api.ErrArg)
			}
		}
	}
}

// P11.1, P11.2: several wrong at once: the one that comes first in the document's order is told.
func TestOrder(t *testing.T) {
	d := api.Dims{2, 3, 1}
	good, wrong := of([3]int{}, [3]int{2, 1, 1}, "t--"), of([3]int{1, 0, 0}, [3]int{2, 1, 1}, "t--")
	broken := yard(d, nil, map[int][]api.Slot{17: {{}}})
	for which := range 1 << 6 {
		is := func(k int) bool { return which>>k&1 == 1 }
		y, p, mids, links, from, long := yard(d, nil, nil), good, bits(6), bits(18), 0, 1
		s, dims := span(0, 1), d
		wantAvoid, wantHolds, wantSoon := api.OK, api.OK, api.OK
		// What comes last in the order comes first here, so that the first one is what stays.
		if is(0) {
			mids = bits(6, 1)
			wantSoon = api.ErrNone
		}
		if is(1) {
			from = -1
			wantSoon = api.ErrArg
		}
		if is(2) {
			long = 0
			wantSoon = api.ErrArg
		}
		if is(3) {
			links = append(links, 0)
			wantAvoid, wantHolds, wantSoon = api.ErrBad, api.ErrBad, api.ErrBad
		}
		if is(4) {
			p, s = wrong, span(4, 4)
			wantAvoid, wantHolds, wantSoon = api.ErrArg, api.ErrArg, api.ErrArg
		}
		if is(5) {
			y, dims = broken, api.Dims{2, 3, 0}
			wantAvoid, wantHolds, wantSoon = api.ErrBad, api.ErrBad, api.ErrBad
		}
		if wantAvoid != api.OK {
			refusedAvoid(t, y, mids, links, s, wantAvoid)
			refusedHolds(t, dims, p, mids, links, wantHolds)
		} else if is(0) {
			refusedHolds(t, dims, p, mids, links, api.OK)
		}
		if wantSoon != api.OK {
			refusedSoon(t, y, p, mids, links, from, long, wantSoon)
		}
	}
}

// roomy are the same calendars with spare room in each list, and what tells whether they, or that room, were turned.
func roomy(y api.Yard) (api.Yard, func() bool) {
	mark := slot(77, 78, 77)
	var rooms, were [][]api.Slot
	var outers, outersWere [][][]api.Slot
	each := func(l [][]api.Slot) [][]api.Slot {
		var room [][]api.Slot
		for _, c := range l {
			all := append(slices.Clone(c), mark, mark)
			rooms, were = append(rooms, all), append(were, slices.Clone(all))
			room = append(room, all[:len(c)])
		}
		marks := []api.Slot{mark}
		room = append(room, marks, marks)
		outers, outersWere = append(outers, room), append(outersWere, slices.Clone(room))
		return room[:len(l)]
	}
	same := func(a, b []api.Slot) bool { return slices.Equal(a, b) }
	sameOuter := func(a, b [][]api.Slot) bool { return slices.EqualFunc(a, b, same) }
	y = api.Yard{Dims: y.Dims, Nodes: each(y.Nodes), Links: each(y.Links)}
	return y, func() bool {
		return !slices.EqualFunc(rooms, were, same) || !slices.EqualFunc(outers, outersWere, sameOuter)
	}
}

// roomySet is a set with spare room, and what tells whether it, or that room, was turned.
func roomySet(s api.Set) (api.Set, func() bool) {
	room := append(slices.Clone(s), 77, 77)
	was := slices.Clone(room)
	return room[:len(s)], func() bool { return !slices.Equal(room, was) }
}

// P11.3: what is handed in is only read, its spare room neither, and what is answered is new memory, also where nothing is busy, or nothing bad.
func TestMemory(t *testing.T) {
	for _, from := range []api.Yard{several(), yard(api.Dims{2, 3, 1}, nil, nil), yard(api.Dims{5, 13, 1}, map[int][]api.Slot{64: {slot(1, 3, 4)}}, nil)} {
		n := many(from.Dims)
		y, turned := roomy(from)
		for _, of := range [][2]api.Set{{bits(n), bits(3 * n)}, {bits(n, 1, n-1), bits(3*n, 0, 3*n-1)}} {
			mids, midsTurned := roomySet(of[0])
			links, linksTurned := roomySet(of[1])
			for _, s := range []api.Span{span(0, 1), span(0, most), span(13, 15)} {
				m, l, e := Avoid(y, mids, links, s)
				m2, l2, _ := Avoid(y, mids, links, s)
				firstM, firstL := slices.Clone(m), slices.Clone(l)
				m, l = m[:cap(m)], l[:cap(l)]
				fill(m, 1<<60)
				fill(l, 1<<61)
				// Had both one memory, the second filling would be seen in the first one's.
				if m[0] != 1<<60 || e != api.OK || turned() || midsTurned() || linksTurned() || !slices.Equal(m2, firstM) || !slices.Equal(l2, firstL) {
					t.Error(s, e, m, m2, l2, turned(), midsTurned(), linksTurned())
				}
			}
			for _, p := range []api.Place{along(0, 1, false), along(0, 2, false), along(0, 2, true), {}} {
				Holds(y.Dims, p, mids, links)
				Soon(y, p, mids, links, 0, 1)
				Soon(y, p, mids, links, 3, 10)
				Soon(y, p, mids, links, 0, math.MaxInt)
				Soon(y, p, mids, links, -1, 0)
				Avoid(y, mids, links, span(4, 4))
				if turned() || midsTurned() || linksTurned() {
					t.Error("only read", p)
				}
			}
		}
	}
	for i, y := range badYards() {
		y, turned := roomy(y)
		mids, midsTurned := roomySet(bits(6, 1))
		links, linksTurned := roomySet(bits(18, 1))
		Avoid(y, mids, links, span(0, 1))
		Soon(y, along(0, 1, false), mids, links, 0, 1)
		Holds(y.Dims, along(0, 1, false), mids, links)
		if turned() || midsTurned() || linksTurned() {
			t.Error("refused", i)
		}
	}
}

// fill puts one word everywhere.
func fill(s api.Set, w uint64) {
	for i := range s {
		s[i] = w
	}
}

// holds asks Holds without an error.
func holds(t *testing.T, d api.Dims, p api.Place, mids, links api.Set) bool {
	t.Helper()
	is, e := Holds(d, p, mids, links)
	if e != api.OK {
		t.Fatal("Holds", d, p, mids, links, e)
	}
	return is
}

// lesser is a set without some of its numbers, by chance.
func lesser(r *rand.Rand, n int, s api.Set) api.Set {
	l, _ := set.Less(n, s, some(r, n, 3))
	return l
}

// P11.4: a place that is free of sets is so of lesser ones, down to none.
func TestLesserSets(t *testing.T) {
	r := rand.New(rand.NewSource(114))
	d := api.Dims{3, 2, 2}
	n, free := many(d), 0
	for range 2000 {
		p := one(r, d)
		mids, links := some(r, n, 12), some(r, 3*n, 30)
		if !holds(t, d, p, mids, links) {
			continue
		}
		free++
		if !holds(t, d, p, lesser(r, n, mids), links) || !holds(t, d, p, mids, lesser(r, 3*n, links)) || !holds(t, d, p, lesser(r, n, mids), lesser(r, 3*n, links)) || !holds(t, d, p, bits(n), bits(3*n)) {
			t.Fatal(p, mids, links)
		}
	}
	if free < 200 {
		t.Error("too few that are free", free)
	}
}

// isFree tells, by Avoid and Holds, whether a place is free at a moment for so long.
func isFree(t *testing.T, y api.Yard, p api.Place, mids, links api.Set, at, long int) bool {
	t.Helper()
	s, e := time.From(at, long)
	if e != api.OK {
		t.Fatal("From", at, long, e)
	}
	m, l, e := Avoid(y, mids, links, s)
	if e != api.OK {
		t.Fatal("Avoid", y, mids, links, s, e)
	}
	return holds(t, y.Dims, p, m, l)
}

// P11.4: a place is free at Soon's moment, by Avoid and Holds, and at none ahead of it; where Soon tells none, it is free at none at all.
func TestSoonIsLeast(t *testing.T) {
	r := rand.New(rand.NewSource(1140))
	d := api.Dims{3, 2, 1}
	for range 400 {
		low := []int{0, most - 20}[r.Intn(2)]
		y, p := chance(r, d, low, 20), one(r, d)
		mids, links := some(r, 6, 60), some(r, 18, 180)
		from, long := low+r.Intn(19), 1+r.Intn(9)
		at, e := Soon(y, p, mids, links, from, long)
		if e == api.OK && (at < from || long > most-at || !isFree(t, y, p, mids, links, at, long)) {
			t.Fatal("not free", y, p, mids, links, from, long, at)
		}
		if e == api.ErrNone {
			// Behind these moments all is as it is at the last one of them.
			at = min(low+21, most-long+1)
		}
		for ahead := from; ahead < at; ahead++ {
			if isFree(t, y, p, mids, links, ahead, long) {
				t.Fatal("free ahead", y, p, mids, links, from, long, at, e, ahead)
			}
		}
	}
}

// sooner tells whether one answer of Soon is a moment that is ahead of the other one's, which may have none.
func sooner(at int, e api.Errno, than int, thanE api.Errno) bool {
	return e == api.OK && (thanE != api.OK || at < than)
}

// P11.4: a longer job, a later from, more that is bad and more that is busy are not free sooner; a from between two answers has the later one.
func TestSoonDoesNotFall(t *testing.T) {
	r := rand.New(rand.NewSource(1141))
	d := api.Dims{3, 2, 1}
	n := many(d)
	for range 3000 {
		low := []int{0, 100, most - 20}[r.Intn(3)]
		y, p := chance(r, d, low, 20), one(r, d)
		mids, links := some(r, n, 10*n), some(r, 3*n, 30*n)
		from, long := low+r.Intn(10), 1+r.Intn(6)
		at, e := Soon(y, p, mids, links, from, long)
		for _, by := range []int{1, 2, 5, most, math.MaxInt - long} {
			if more, f := Soon(y, p, mids, links, from, long+by); sooner(more, f, at, e) {
				t.Fatal("longer", y, p, from, long, at, e, by, more, f)
			}
		}
		for _, by := range []int{1, 2, 9} {
			if later, f := Soon(y, p, mids, links, from+by, long); sooner(later, f, at, e) {
				t.Fatal("later", y, p, from, long, at, e, by, later, f)
			}
		}
		if e == api.OK {
			if same, f := Soon(y, p, mids, links, at, long); same != at || f != api.OK {
				t.Fatal("from its own moment", y, p, at, long, same, f)
			}
		}
		moreMids, _ := set.Or(n, mids, some(r, n, 10))
		moreLinks, _ := set.Or(3*n, links, some(r, 3*n, 30))
		if worse, f := Soon(y, p, moreMids, moreLinks, from, long); sooner(worse, f, at, e) || f == api.OK && worse != at {
			t.Fatal("more that is bad", y, p, mids, links, moreMids, moreLinks, at, e, worse, f)
		}
		at2 := low + r.Intn(18)
		busier, f := cals.Put(y, 9, some(r, n, 3), some(r, 3*n, 6), span(at2, at2+1))
		if f != api.OK {
			continue
		}
		if worse, f := Soon(busier, p, mids, links, from, long); sooner(worse, f, at, e) {
			t.Fatal("more that is busy", y, p, at, e, worse, f)
		}
	}
}

// P11.1: what is to be avoided through a span is so through a longer one, and with more that is bad.
func TestAvoidGrows(t *testing.T) {
	r := rand.New(rand.NewSource(1142))
	d := api.Dims{3, 2, 1}
	for range 500 {
		y := chance(r, d, 0, 20)
		mids, links := some(r, 6, 5), some(r, 18, 9)
		from := 1 + r.Intn(15)
		to := from + 1 + r.Intn(4)
		m, l, e := Avoid(y, mids, links, span(from, to))
		m2, l2, f := Avoid(y, mids, links, span(from-r.Intn(2), to+r.Intn(2)))
		if e != api.OK || f != api.OK {
			t.Fatal(e, f)
		}
		bad, _ := set.In(6, mids, m)
		badLinks, _ := set.In(18, links, l)
		in, _ := set.In(6, m, m2)
		inLinks, _ := set.In(18, l, l2)
		if !bad || !badLinks || !in || !inLinks {
			t.Fatal(y, mids, links, from, to, m, l, m2, l2)
		}
	}
}

// The chapter's examples.
func TestExamples(t *testing.T) {
	y, e := cals.New(api.Dims{2, 1, 1})
	if e != api.OK {
		t.Fatal(e)
	}
	y, e = cals.Put(y, 5, api.Set{1}, api.Set{1}, span(0, 3))
	if e != api.OK {
		t.Fatal(e)
	}
	none, p := api.Set{0}, along(0, 1, false)
	m, l, e := Avoid(y, none, none, span(2, 4))
	sameSets(t, "nothing bad", m, l, e, api.Set{1}, api.Set{1})
	m, l, e = Avoid(y, api.Set{2}, none, span(2, 4))
	sameSets(t, "midplane 1 bad", m, l, e, api.Set{3}, api.Set{1})
	soonIs(t, "Soon", y, p, 0, 2, 3)
	refusedSoon(t, y, p, api.Set{1}, none, 0, 2, api.ErrNone)
}

// The limits and the errors' numbers, as the chapter tells them.
func TestNumbers(t *testing.T) {
	if api.MaxTime != most || api.ErrArg != 2 || api.ErrNone != 6 || api.ErrBad != 8 {
		t.Error(api.MaxTime, api.ErrArg, api.ErrNone, api.ErrBad)
	}
}

// Pairs of sets are joined as the function is told: each with the other one of its kind, in their order, below as many as there are; what is refused leaves nothing.
func TestJoin(t *testing.T) {
	a, b := pair{api.Set{1}, api.Set{2}}, pair{api.Set{3}, api.Set{4}}
	how := func(n int, x, y api.Set) (string, api.Errno) {
		if n == 18 && x[0] == 4 {
			return "beside an error", api.ErrFull
		}
		return string(rune('a'+n)) + string(rune('0'+x[0])) + string(rune('0'+y[0])), api.OK
	}
	d := api.Dims{2, 3, 1}
	if m, l, e := join(d, a, b, how); m != "g13" || l != "s24" || e != api.OK {
		t.Error(m, l, e)
	}
	if m, l, e := join(d, b, a, how); m != "" || l != "" || e != api.ErrFull {
		t.Error(m, l, e)
	}
	if m, l, e := join(api.Dims{}, a, b, how); m != "" || l != "" || e != api.ErrBad {
		t.Error(m, l, e)
	}
}
