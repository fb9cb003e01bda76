package cals

import (
	"math"
	"math/rand"
	"slices"
	"testing"

	"tidehall/api"
	"tidehall/cal"
)

const most = 1 << 40

// span is a span.
func span(from, to int) api.Span {
	return api.Span{From: from, To: to}
}

// slot is a slot.
func slot(from, to, owner int) api.Slot {
	return api.Slot{Span: span(from, to), Owner: owner}
}

// row is a calendar of so many slots of one moment, with a moment between each two, the first one at 1.
func row(n int) []api.Slot {
	c := make([]api.Slot, n)
	for i := range c {
		c[i] = slot(2*i+1, 2*i+2, i%3+1)
	}
	return c
}

// yard are calendars by hand: empty, but for those that are told, by their numbers.
func yard(d api.Dims, nodes, links map[int][]api.Slot) api.Yard {
	n := d[0] * d[1] * d[2]
	y := api.Yard{Dims: d, Nodes: make([][]api.Slot, n), Links: make([][]api.Slot, 3*n)}
	for k, c := range nodes {
		y.Nodes[k] = slices.Clone(c)
	}
	for k, c := range links {
		y.Links[k] = slices.Clone(c)
	}
	return y
}

// copied is a yard that shares no memory with one.
func copied(y api.Yard) api.Yard {
	each := func(l [][]api.Slot) [][]api.Slot {
		l = slices.Clone(l)
		for k := range l {
			l[k] = slices.Clone(l[k])
		}
		return l
	}
	return api.Yard{Dims: y.Dims, Nodes: each(y.Nodes), Links: each(y.Links)}
}

// bits is a set below n, by its numbers.
func bits(n int, l ...int) api.Set {
	s := make(api.Set, (n+63)/64)
	for _, k := range l {
		s[k/64] |= 1 << (k % 64)
	}
	return s
}

// upTo are the numbers below n.
func upTo(n int) []int {
	l := make([]int, n)
	for k := range l {
		l[k] = k
	}
	return l
}

// equal tells whether two yards are the same, one slot after another.
func equal(a, b api.Yard) bool {
	if a.Dims != b.Dims || len(a.Nodes) != len(b.Nodes) || len(a.Links) != len(b.Links) {
		return false
	}
	for k := range a.Nodes {
		if !slices.Equal(a.Nodes[k], b.Nodes[k]) {
			return false
		}
	}
	for k := range a.Links {
		if !slices.Equal(a.Links[k], b.Links[k]) {
			return false
		}
	}
	return true
}

// zero tells whether a yard is the zero one.
func zero(y api.Yard) bool {
	return y.Dims == api.Dims{} && len(y.Nodes) == 0 && len(y.Links) == 0
}

// sameYard asks for a yard without an error.
func sameYard(t *testing.T, what string, got api.Yard, e api.Errno, want api.Yard) {
	t.Helper()
	if e != api.OK || !equal(got, want) {
		t.Error(what, got, e, "not", want)
	}
}

// sameSets asks for two sets without an error.
func sameSets(t *testing.T, what string, mids, links api.Set, e api.Errno, wantMids, wantLinks api.Set) {
	t.Helper()
	if e != api.OK || !slices.Equal(mids, wantMids) || !slices.Equal(links, wantLinks) {
		t.Error(what, mids, links, e, "not", wantMids, wantLinks)
	}
}

// refusedYard asks for an error and nothing beside it.
func refusedYard(t *testing.T, what string, got api.Yard, e, want api.Errno) {
	t.Helper()
	if e != want || !zero(got) {
		t.Error(what, e, "not", want, zero(got))
	}
}

// refusedSets asks for an error and nothing beside it.
func refusedSets(t *testing.T, what string, mids, links api.Set, e, want api.Errno) {
	t.Helper()
	if e != want || len(mids) != 0 || len(links) != 0 {
		t.Error(what, mids, links, e, "not", want)
	}
}

// goodDims are dimensions that may be: of one midplane, along one axis, and as great as can be.
func goodDims() []api.Dims {
	return []api.Dims{{1, 1, 1}, {2, 1, 1}, {1, 2, 1}, {1, 1, 2}, {4, 3, 2}, {16, 1, 1}, {1, 16, 1}, {1, 1, 16}, {4, 4, 4}, {5, 13, 1}, {16, 16, 15}, {16, 16, 16}}
}

// badDims are dimensions that may not be.
func badDims() []api.Dims {
	l := []api.Dims{{}, {-1, -1, 1}, {-1, -1, -1}, {17, 17, 17}, {math.MaxInt, math.MaxInt, math.MaxInt}, {1 << 32, 1 << 32, 1}, {math.MinInt, 2, 1}}
	for axis := range 3 {
		for _, long := range []int{math.MinInt, -1, 0, 17, math.MaxInt} {
			d := api.Dims{1, 1, 1}
			d[axis] = long
			l = append(l, d)
		}
	}
	return l
}

// badSpans are spans that may not be.
func badSpans() []api.Span {
	return []api.Span{{}, span(4, 4), span(most, most), span(4, 3), span(most, 0), span(-1, 1), span(-1, 0), span(-9, -1), span(-1, most), span(0, most+1), span(most-1, most+1), span(most, most+1), span(math.MinInt, math.MaxInt), span(math.MaxInt, math.MinInt), span(5, math.MaxInt)}
}

// badOwners are owners that may not be.
func badOwners() []int {
	return []int{math.MinInt, -most, -1, 0, most + 1, math.MaxInt}
}

// badMoments are moments at which nobody may be asked for.
func badMoments() []int {
	return []int{math.MinInt, -most, -1, most, most + 1, math.MaxInt}
}

// badCalendars are calendars that may not be: by a slot, by their order, and by their length.
func badCalendars() [][]api.Slot {
	l := [][]api.Slot{{slot(3, 5, 1), slot(1, 2, 1)}, {slot(1, 4, 1), slot(3, 5, 2)}, {slot(1, 2, 1), slot(1, 2, 1)}, {slot(1, 2, 1), {}}, {{}, slot(1, 2, 1)}, row(api.MaxSlots + 1)}
	for _, s := range badSpans() {
		l = append(l, []api.Slot{{Span: s, Owner: 1}})
	}
	for _, owner := range badOwners() {
		l = append(l, []api.Slot{slot(3, 4, owner)})
	}
	return l
}

// badSets are sets below n that may not be: without a word, with one too few or too many, and with a bit beyond.
func badSets(n int) []api.Set {
	long := len(bits(n))
	l := []api.Set{nil, {}, make(api.Set, long+1), make(api.Set, long+100)}
	if long > 1 {
		l = append(l, make(api.Set, long-1))
	}
	for beyond := n; beyond < 64*long; beyond++ {
		l = append(l, bits(64*long, beyond))
	}
	return append(l, append(bits(n, 0), 0))
}

// badYards are machines' calendars that may not be.
func badYards() []api.Yard {
	var l []api.Yard
	for _, d := range badDims() {
		l = append(l, api.Yard{Dims: d}, api.Yard{Dims: d, Nodes: make([][]api.Slot, 1), Links: make([][]api.Slot, 3)})
	}
	for _, d := range []api.Dims{{1, 1, 1}, {2, 3, 1}, {16, 16, 16}} {
		n := d[0] * d[1] * d[2]
		for _, many := range [][2]int{{0, 0}, {n, 0}, {0, 3 * n}, {n - 1, 3 * n}, {n + 1, 3 * n}, {n, 3*n - 1}, {n, 3*n + 1}, {3 * n, n}, {n, n}, {3 * n, 3 * n}, {n - 1, 3*n - 3}, {n + 1, 3*n + 3}, {n - 1, 3*n + 1}} {
			l = append(l, api.Yard{Dims: d, Nodes: make([][]api.Slot, many[0]), Links: make([][]api.Slot, many[1])})
		}
	}
	d := api.Dims{2, 3, 1}
	good := []api.Slot{slot(1, 3, 7), slot(5, 9, 8)}
	for _, c := range badCalendars() {
		for _, k := range []int{0, 2, 5} {
			l = append(l, yard(d, map[int][]api.Slot{k: c}, nil), yard(d, map[int][]api.Slot{1: good, k: c}, map[int][]api.Slot{0: good}))
		}
		for _, k := range []int{0, 4, 6, 17} {
			l = append(l, yard(d, nil, map[int][]api.Slot{k: c}), yard(d, map[int][]api.Slot{0: good, 5: good}, map[int][]api.Slot{1: good, k: c}))
		}
	}
	return l
}

// goodYards are machines' calendars that may be, at the edges.
func goodYards() []api.Yard {
	d, big := api.Dims{2, 3, 1}, api.Dims{16, 16, 16}
	return []api.Yard{
		yard(api.Dims{1, 1, 1}, nil, nil), yard(d, nil, nil), yard(big, nil, nil),
		yard(api.Dims{1, 1, 1}, map[int][]api.Slot{0: {slot(0, most, 1)}}, map[int][]api.Slot{0: {slot(0, 1, most)}, 2: {slot(most-1, most, 1)}}),
		yard(d, map[int][]api.Slot{0: {slot(0, 1, 1), slot(1, 2, 1)}, 5: {slot(1, 3, 7), slot(5, 9, 8)}}, map[int][]api.Slot{17: {slot(1, 3, 7)}, 0: {slot(4, 5, 6)}}),
		yard(d, map[int][]api.Slot{0: row(api.MaxSlots - 1), 5: row(api.MaxSlots)}, map[int][]api.Slot{0: row(api.MaxSlots), 17: row(api.MaxSlots - 1)}),
		yard(big, map[int][]api.Slot{4095: {slot(1, 3, 7)}}, map[int][]api.Slot{12287: {slot(1, 3, 7)}}),
		{Dims: api.Dims{1, 1, 1}, Nodes: [][]api.Slot{{}}, Links: [][]api.Slot{{}, nil, {}}},
	}
}

// P9.1: a machine's calendars are as many as its midplanes, and three times as many, all empty.
func TestNew(t *testing.T) {
	for _, d := range goodDims() {
		y, e := New(d)
		sameYard(t, "New", y, e, yard(d, nil, nil))
		if e := Check(y); e != api.OK {
			t.Error(d, e)
		}
	}
	for _, d := range badDims() {
		y, e := New(d)
		refusedYard(t, "New", y, e, api.ErrBad)
	}
}

// P9.1: calendars that may be.
func TestCheckGood(t *testing.T) {
	for i, y := range goodYards() {
		if e := Check(y); e != api.OK {
			t.Error(i, e)
		}
	}
}

// P9.1 to P9.3: calendars that may not be are told by each call but Same, ahead of all else that is wrong, with all else zero.
func TestBadYards(t *testing.T) {
	one, three := bits(6, 0), bits(18, 0)
	for i, y := range badYards() {
		if e := Check(y); e != api.ErrBad {
			t.Error("Check", i, e)
		}
		got, e := Put(y, 5, one, three, span(100, 101))
		refusedYard(t, "Put", got, e, api.ErrBad)
		got, e = Put(y, 0, bits(6), bits(18), span(4, 4))
		refusedYard(t, "Put, with a wrong slot", got, e, api.ErrBad)
		got, e = Put(y, 5, nil, nil, span(1, 2))
		refusedYard(t, "Put, with wrong sets", got, e, api.ErrBad)
		for _, n := range []int{math.MinInt, -1, 0, 1, 7, most, math.MaxInt} {
			got, e = Take(y, n)
			refusedYard(t, "Take", got, e, api.ErrBad)
			got, e = Cut(y, n, 5)
			refusedYard(t, "Cut", got, e, api.ErrBad)
			got, e = Cut(y, 7, n)
			refusedYard(t, "Cut", got, e, api.ErrBad)
			mids, links, e := Owned(y, 7, n)
			refusedSets(t, "Owned", mids, links, e, api.ErrBad)
			mids, links, e = Owned(y, n, 1)
			refusedSets(t, "Owned", mids, links, e, api.ErrBad)
		}
		for _, s := range []api.Span{span(0, 1), span(0, most), {}, span(-1, 4)} {
			mids, links, e := Busy(y, s)
			refusedSets(t, "Busy", mids, links, e, api.ErrBad)
		}
	}
}

// P9.1: a machine is the same as itself, and as a copy, with lists that are nil or empty; and not as one that differs in one thing alone.
func TestSame(t *testing.T) {
	for i, y := range append(goodYards(), badYards()...) {
		if !Same(y, y) || !Same(y, copied(y)) || !Same(copied(y), y) {
			t.Error("itself", i)
		}
	}
	one := api.Dims{1, 1, 1}
	empty := api.Yard{Dims: one, Nodes: [][]api.Slot{{}}, Links: [][]api.Slot{{}, nil, make([]api.Slot, 0, 4)}}
	if none := yard(one, nil, nil); !Same(none, empty) || !Same(empty, none) {
		t.Error("nil and empty")
	}
	if !Same(api.Yard{}, api.Yard{Nodes: [][]api.Slot{}, Links: [][]api.Slot{}}) {
		t.Error("nil and empty lists of calendars")
	}
	for i, a := range goodYards() {
		for j, b := range goodYards() {
			want := i == j || equal(a, b)
			if Same(a, b) != want {
				t.Error(i, j, want)
			}
		}
	}
}

// P9.1: what differs in one field, one slot, one calendar, or the dimensions alone, is not the same.
func TestSameDiffers(t *testing.T) {
	c := []api.Slot{slot(1, 3, 7), slot(5, 9, 8)}
	y := yard(api.Dims{2, 3, 1}, map[int][]api.Slot{0: c, 5: c}, map[int][]api.Slot{0: c, 17: c})
	lists := []func(y *api.Yard) *[][]api.Slot{
		func(y *api.Yard) *[][]api.Slot { return &y.Nodes },
		func(y *api.Yard) *[][]api.Slot { return &y.Links },
	}
	var changes []func(y *api.Yard)
	for _, d := range []api.Dims{{3, 2, 1}, {2, 1, 3}, {1, 2, 3}, {6, 1, 1}, {}, {2, 3, 2}, {-2, -3, 1}} {
		changes = append(changes, func(y *api.Yard) { y.Dims = d })
	}
	for _, list := range lists {
		last := len(*list(&y)) - 1
		for _, k := range []int{0, last} {
			for i := range c {
				changes = append(changes,
					func(y *api.Yard) { (*list(y))[k][i].Span.From-- },
					func(y *api.Yard) { (*list(y))[k][i].Span.To++ },
					func(y *api.Yard) { (*list(y))[k][i].Owner++ },
					func(y *api.Yard) { (*list(y))[k] = slices.Delete((*list(y))[k], i, i+1) },
				)
			}
			changes = append(changes,
				func(y *api.Yard) { (*list(y))[k] = append((*list(y))[k], slot(9, 10, 8)) },
				func(y *api.Yard) { (*list(y))[k] = append((*list(y))[k], api.Slot{}) },
				func(y *api.Yard) { slices.Reverse((*list(y))[k]) },
				func(y *api.Yard) { (*list(y))[k] = nil },
			)
		}
		changes = append(changes,
			func(y *api.Yard) { l := *list(y); l[0], l[1] = l[1], l[0] },
			func(y *api.Yard) { *list(y) = (*list(y))[:last] },
			func(y *api.Yard) { *list(y) = (*list(y))[1:] },
			func(y *api.Yard) { *list(y) = append(*list(y), nil) },
			func(y *api.Yard) { *list(y) = nil },
		)
	}
	changes = append(changes, func(y *api.Yard) { y.Nodes, y.Links = y.Links, y.Nodes })
	for i, change := range changes {
		other := copied(y)
		change(&other)
		if Same(y, other) || Same(other, y) {
			t.Error("differs", i, other)
		}
	}
}

// P9.2: what is put stands in the calendars of its midplanes and cables alone: none, one, several and all of them, the first and the last.
func TestPutSets(t *testing.T) {
	for _, d := range goodDims() {
		n := d[0] * d[1] * d[2]
		midLists := [][]int{nil, {0}, {n - 1}, {0, n - 1}, {n / 2}, upTo(n)}
		linkLists := [][]int{nil, {0}, {3*n - 1}, {n - 1, n, 2 * n}, upTo(3 * n)}
		for i, mids := range midLists {
			for j, links := range linkLists {
				if n > 1000 && i != j {
					continue
				}
				want := yard(d, nil, nil)
				for _, k := range mids {
					want.Nodes[k] = []api.Slot{slot(4, 6, 9)}
				}
				for _, k := range links {
					want.Links[k] = []api.Slot{slot(4, 6, 9)}
				}
				got, e := Put(yard(d, nil, nil), 9, bits(n, mids...), bits(3*n, links...), span(4, 6))
				sameYard(t, "Put", got, e, want)
			}
		}
	}
}

// P9.2: spans that touch slots, of one moment, from 0 on and up to MaxTime; owners 1 and MaxTime; what else stands in a calendar stays.
func TestPutSpans(t *testing.T) {
	d := api.Dims{2, 1, 1}
	c := []api.Slot{slot(2, 4, 7), slot(6, 9, 8)}
	y := yard(d, map[int][]api.Slot{0: c, 1: {slot(2, 3, 1)}}, map[int][]api.Slot{3: c, 5: {slot(0, most, 3)}})
	for _, x := range []struct {
		owner int
		s     api.Span
		at    int // where it stands in the longer calendar
	}{
		{1, span(0, 1), 0}, {most, span(0, 2), 0}, {7, span(1, 2), 0}, {8, span(4, 6), 1}, {9, span(4, 5), 1}, {9, span(5, 6), 1},
		{1, span(9, 10), 2}, {most, span(9, most), 2}, {7, span(most-1, most), 2},
	} {
		s := api.Slot{Span: x.s, Owner: x.owner}
		want := copied(y)
		want.Nodes[0] = slices.Insert(want.Nodes[0], x.at, s)
		want.Links[3] = slices.Insert(want.Links[3], x.at, s)
		want.Links[0] = []api.Slot{s}
		got, e := Put(y, x.owner, bits(2, 0), bits(6, 0, 3), x.s)
		sameYard(t, "Put", got, e, want)
	}
	all, e := Put(yard(d, nil, nil), most, bits(2, 1), bits(6), span(0, most))
	sameYard(t, "all of time", all, e, yard(d, map[int][]api.Slot{1: {slot(0, most, most)}}, nil))
}

// P9.2: no midplane and no cable: all is as it was, whatever is taken and full.
func TestPutNothing(t *testing.T) {
	for _, y := range goodYards() {
		n := len(y.Nodes)
		for _, s := range []api.Span{span(0, 1), span(0, most), span(1, 2)} {
			got, e := Put(y, 1, bits(n), bits(3*n), s)
			sameYard(t, "Put", got, e, y)
		}
	}
}

// P9.2: one calendar that is not free through the span, among several, whoever has it; those that are not asked for are nobody's care.
func TestPutTaken(t *testing.T) {
	d := api.Dims{2, 3, 1}
	everyMid, everyLink := bits(6, upTo(6)...), bits(18, upTo(18)...)
	c := []api.Slot{slot(4, 6, 5)}
	for _, x := range []struct {
		s     api.Span
		taken bool
	}{
		{span(3, 5), true}, {span(4, 5), true}, {span(5, 6), true}, {span(5, 9), true}, {span(0, most), true}, {span(4, 6), true},
		{span(0, 4), false}, {span(3, 4), false}, {span(6, 7), false}, {span(6, most), false},
	} {
		for _, owner := range []int{5, 6, 1, most} {
			for k := range 6 {
				y := yard(d, map[int][]api.Slot{k: c}, nil)
				for _, mids := range []api.Set{bits(6, k), bits(6, 0, k), bits(6, k, 5), everyMid} {
					taken(t, y, owner, mids, bits(18), x.s, x.taken)
					taken(t, y, owner, mids, everyLink, x.s, x.taken)
				}
				taken(t, y, owner, bits(6, (k+1)%6), everyLink, x.s, false)
			}
			for k := range 18 {
				y := yard(d, nil, map[int][]api.Slot{k: c})
				for _, links := range []api.Set{bits(18, k), bits(18, 0, k), bits(18, k, 17), everyLink} {
					taken(t, y, owner, bits(6), links, x.s, x.taken)
					taken(t, y, owner, everyMid, links, x.s, x.taken)
				}
				taken(t, y, owner, everyMid, bits(18, (k+1)%18), x.s, false)
			}
		}
	}
}

// taken asks whether Put is refused for somebody has it then.
func taken(t *testing.T, y api.Yard, owner int, mids, links api.Set, s api.Span, want bool) {
	t.Helper()
	got, e := Put(y, owner, mids, links, s)
	if want {
		refusedYard(t, "Put", got, e, api.ErrTaken)
	} else if e != api.OK || Check(got) != api.OK {
		t.Error("Put", owner, mids, links, s, e)
	}
}

// P9.2: calendars with MaxSlots - 1 slots have room for one, those with MaxSlots for none, first or last among several, unless they are not asked for.
func TestPutFull(t *testing.T) {
	d := api.Dims{2, 3, 1}
	full, almost := row(api.MaxSlots), row(api.MaxSlots-1)
	everyMid, everyLink := bits(6, upTo(6)...), bits(18, upTo(18)...)
	for _, s := range []api.Span{span(0, 1), span(2, 3), span(most-1, most)} {
		for _, k := range []int{0, 3, 5} {
			y := yard(d, map[int][]api.Slot{k: full}, nil)
			for _, mids := range []api.Set{bits(6, k), everyMid} {
				got, e := Put(y, 9, mids, bits(18), s)
				refusedYard(t, "a full midplane", got, e, api.ErrMany)
				got, e = Put(y, 9, mids, everyLink, s)
				refusedYard(t, "a full midplane", got, e, api.ErrMany)
			}
			if _, e := Put(y, 9, bits(6, 1), everyLink, s); e != api.OK {
				t.Error("not asked for", e)
			}
		}
		for _, k := range []int{0, 6, 17} {
			y := yard(d, nil, map[int][]api.Slot{k: full})
			for _, links := range []api.Set{bits(18, k), everyLink} {
				got, e := Put(y, 9, bits(6), links, s)
				refusedYard(t, "a full cable", got, e, api.ErrMany)
				got, e = Put(y, 9, everyMid, links, s)
				refusedYard(t, "a full cable", got, e, api.ErrMany)
			}
			if _, e := Put(y, 9, everyMid, bits(18, 1), s); e != api.OK {
				t.Error("not asked for", e)
			}
		}
		y := yard(d, map[int][]api.Slot{2: almost}, map[int][]api.Slot{2: almost})
		got, e := Put(y, 9, everyMid, everyLink, s)
		if e != api.OK || len(got.Nodes[2]) != api.MaxSlots || len(got.Links[2]) != api.MaxSlots || Check(got) != api.OK {
			t.Error("room for one", e)
		}
		got, e = Put(got, 9, bits(6, 2), bits(18), span(4, 5))
		refusedYard(t, "and no more", got, e, api.ErrMany)
	}
}

// P9.2: sets that may not be, of midplanes and of cables, on machines of one word and of several.
func TestPutBadSets(t *testing.T) {
	for _, d := range []api.Dims{{1, 1, 1}, {2, 3, 1}, {7, 3, 1}, {4, 4, 4}, {5, 13, 1}, {16, 16, 16}} {
		n := d[0] * d[1] * d[2]
		y := yard(d, map[int][]api.Slot{0: {slot(4, 6, 5)}}, nil)
		for _, mids := range badSets(n) {
			got, e := Put(y, 9, mids, bits(3*n), span(1, 2))
			refusedYard(t, "midplanes", got, e, api.ErrBad)
			got, e = Put(y, 9, mids, nil, span(1, 2))
			refusedYard(t, "both", got, e, api.ErrBad)
		}
		for _, links := range badSets(3 * n) {
			got, e := Put(y, 9, bits(n), links, span(1, 2))
			refusedYard(t, "cables", got, e, api.ErrBad)
		}
	}
}

// P9.2: slots that may not be, by their span, their owner or both, even if there is no calendar to put them to.
func TestPutBadSlots(t *testing.T) {
	y := yard(api.Dims{2, 3, 1}, map[int][]api.Slot{0: {slot(4, 6, 5)}}, nil)
	for _, mids := range []api.Set{bits(6), bits(6, 1), bits(6, 0, 5)} {
		for _, links := range []api.Set{bits(18), bits(18, 0, 17)} {
			for _, s := range badSpans() {
				for _, owner := range append(badOwners(), 1, 5, most) {
					got, e := Put(y, owner, mids, links, s)
					refusedYard(t, "a span", got, e, api.ErrArg)
				}
			}
			for _, owner := range badOwners() {
				got, e := Put(y, owner, mids, links, span(1, 2))
				refusedYard(t, "an owner", got, e, api.ErrArg)
			}
		}
	}
}

// P9.2: several wrong things at once are told in the document's order: the sets, the slot, what is taken, what is full.
func TestPutOrder(t *testing.T) {
	d := api.Dims{2, 3, 1}
	full, held := row(api.MaxSlots), []api.Slot{slot(0, 1, 5)}
	everyMid, everyLink := bits(6, upTo(6)...), bits(18, upTo(18)...)
	for _, y := range []api.Yard{
		yard(d, map[int][]api.Slot{0: full, 5: held}, nil), yard(d, map[int][]api.Slot{0: held, 5: full}, nil),
		yard(d, map[int][]api.Slot{0: full}, map[int][]api.Slot{17: held}), yard(d, map[int][]api.Slot{5: held}, map[int][]api.Slot{0: full}),
		yard(d, nil, map[int][]api.Slot{0: full, 17: held}), yard(d, nil, map[int][]api.Slot{0: held, 17: full}),
	} {
		got, e := Put(y, 9, everyMid, everyLink, span(0, 1))
		refusedYard(t, "taken and full", got, e, api.ErrTaken)
		got, e = Put(y, 9, everyMid, everyLink, span(2, 3))
		refusedYard(t, "full", got, e, api.ErrMany)
		got, e = Put(y, 9, everyMid, everyLink, span(1, 2))
		refusedYard(t, "full and taken in one", got, e, api.ErrTaken)
		got, e = Put(y, 0, everyMid, everyLink, span(0, 1))
		refusedYard(t, "an owner, taken and full", got, e, api.ErrArg)
		got, e = Put(y, 9, everyMid, everyLink, span(0, most+1))
		refusedYard(t, "a span, taken and full", got, e, api.ErrArg)
		for _, owner := range []int{0, 9} {
			for _, s := range []api.Span{span(0, 1), span(4, 4)} {
				got, e = Put(y, owner, bits(64, 0, 5, 6), everyLink, s)
				refusedYard(t, "midplanes, and more", got, e, api.ErrBad)
				got, e = Put(y, owner, everyMid, bits(64, 0, 17, 18), s)
				refusedYard(t, "cables, and more", got, e, api.ErrBad)
			}
		}
	}
}

// owners are owners with nothing, with one midplane, with several and with cables, and such as may not be.
func owners() []int {
	return append([]int{1, 2, 3, 4, 5, 6, 7, 8, most}, badOwners()...)
}

// several are calendars of several owners.
func several() api.Yard {
	return yard(api.Dims{2, 3, 1}, map[int][]api.Slot{
		0: {slot(0, 2, 1), slot(2, 5, 7), slot(8, 12, 7), slot(12, most, most)},
		1: {slot(3, 4, 7)},
		2: {slot(5, 9, 8), slot(9, 10, 3)},
		5: {slot(5, 9, 8), slot(11, 12, 7), slot(most-1, most, 7)},
	}, map[int][]api.Slot{
		0:  {slot(0, most, 2)},
		5:  {slot(5, 9, 8)},
		6:  {slot(1, 3, 4), slot(3, 6, 7)},
		17: {slot(5, 9, 8), slot(most-1, most, 7)},
	})
}

// P9.2: Take and Cut are cal's, of each calendar.
func TestTakeAndCut(t *testing.T) {
	for _, y := range append(goodYards(), several()) {
		for _, owner := range owners() {
			want := copied(y)
			for _, l := range [][][]api.Slot{want.Nodes, want.Links} {
				for k := range l {
					l[k], _ = cal.Take(l[k], owner)
				}
			}
			got, e := Take(y, owner)
			sameYard(t, "Take", got, e, want)
			if len(y.Nodes) > 1000 && owner != 7 {
				continue
			}
			for _, to := range []int{math.MinInt, -1, 0, 1, 2, 3, 4, 5, 6, 8, 9, 10, 11, 12, 13, most - 1, most, most + 1, math.MaxInt} {
				want := copied(y)
				for _, l := range [][][]api.Slot{want.Nodes, want.Links} {
					for k := range l {
						l[k], _ = cal.Cut(l[k], owner, to)
					}
				}
				got, e := Cut(y, owner, to)
				sameYard(t, "Cut", got, e, want)
			}
		}
	}
}

// P9.2: what is taken, and cut ahead of a slot, within it, at its end, at 0, at MaxTime and later.
func TestTakeAndCutByHand(t *testing.T) {
	d := api.Dims{2, 1, 1}
	y := yard(d, map[int][]api.Slot{0: {slot(2, 5, 7), slot(6, 9, 8)}, 1: {slot(4, 9, 7)}}, map[int][]api.Slot{0: {slot(2, 5, 7)}, 5: {slot(7, most, 7)}})
	without := yard(d, map[int][]api.Slot{0: {slot(6, 9, 8)}}, nil)
	got, e := Take(y, 7)
	sameYard(t, "Take", got, e, without)
	got, e = Take(y, 8)
	sameYard(t, "Take", got, e, yard(d, map[int][]api.Slot{0: {slot(2, 5, 7)}, 1: {slot(4, 9, 7)}}, map[int][]api.Slot{0: {slot(2, 5, 7)}, 5: {slot(7, most, 7)}}))
	for _, owner := range []int{9, 1, most, 0, -7} {
		got, e = Take(y, owner)
		sameYard(t, "an owner with nothing", got, e, y)
		got, e = Cut(y, owner, 0)
		sameYard(t, "an owner with nothing", got, e, y)
	}
	for _, to := range []int{math.MinInt, -1, 0, 1, 2} {
		got, e = Cut(y, 7, to)
		sameYard(t, "as taken", got, e, without)
	}
	for _, to := range []int{most, most + 1, math.MaxInt} {
		got, e = Cut(y, 7, to)
		sameYard(t, "as it was", got, e, y)
	}
	got, e = Cut(y, 7, 3)
	sameYard(t, "within", got, e, yard(d, map[int][]api.Slot{0: {slot(2, 3, 7), slot(6, 9, 8)}}, map[int][]api.Slot{0: {slot(2, 3, 7)}}))
	got, e = Cut(y, 7, 5)
	sameYard(t, "at its end", got, e, yard(d, map[int][]api.Slot{0: {slot(2, 5, 7), slot(6, 9, 8)}, 1: {slot(4, 5, 7)}}, map[int][]api.Slot{0: {slot(2, 5, 7)}}))
	got, e = Cut(y, 7, most-1)
	sameYard(t, "one ahead of the last", got, e, yard(d, map[int][]api.Slot{0: {slot(2, 5, 7), slot(6, 9, 8)}, 1: {slot(4, 9, 7)}}, map[int][]api.Slot{0: {slot(2, 5, 7)}, 5: {slot(7, most-1, 7)}}))
}

// P9.3: what is busy through spans that touch slots, of one moment, and of all of time.
func TestBusy(t *testing.T) {
	y := several()
	for _, x := range []struct {
		s           api.Span
		mids, links []int
	}{
		{span(0, 1), []int{0}, []int{0}}, {span(0, 2), []int{0}, []int{0, 6}}, {span(2, 3), []int{0}, []int{0, 6}}, {span(3, 4), []int{0, 1}, []int{0, 6}}, {span(4, 5), []int{0}, []int{0, 6}},
		{span(4, 6), []int{0, 2, 5}, []int{0, 5, 6, 17}}, {span(5, 6), []int{2, 5}, []int{0, 5, 6, 17}}, {span(6, 8), []int{2, 5}, []int{0, 5, 17}}, {span(8, 9), []int{0, 2, 5}, []int{0, 5, 17}},
		{span(9, 10), []int{0, 2}, []int{0}}, {span(10, 11), []int{0}, []int{0}}, {span(11, 12), []int{0, 5}, []int{0}}, {span(12, 13), []int{0}, []int{0}}, {span(12, most-1), []int{0}, []int{0}},
		{span(most-1, most), []int{0, 5}, []int{0, 17}}, {span(0, most), []int{0, 1, 2, 5}, []int{0, 5, 6, 17}},
	} {
		mids, links, e := Busy(y, x.s)
		sameSets(t, "Busy", mids, links, e, bits(6, x.mids...), bits(18, x.links...))
	}
	for _, y := range append(goodYards(), y) {
		for _, s := range badSpans() {
			mids, links, e := Busy(y, s)
			refusedSets(t, "Busy", mids, links, e, api.ErrArg)
		}
	}
}

// P9.3: a slot's first moment, its last, and the one behind it; owners with nothing, with one thing and with several.
func TestOwned(t *testing.T) {
	y := several()
	for _, x := range []struct {
		owner, at   int
		mids, links []int
	}{
		{1, 0, []int{0}, nil}, {1, 1, []int{0}, nil}, {1, 2, nil, nil},
		{7, 1, nil, nil}, {7, 2, []int{0}, nil}, {7, 3, []int{0, 1}, []int{6}}, {7, 4, []int{0}, []int{6}}, {7, 5, nil, []int{6}}, {7, 6, nil, nil}, {7, 7, nil, nil}, {7, 8, []int{0}, nil}, {7, 11, []int{0, 5}, nil}, {7, 12, nil, nil}, {7, most - 1, []int{5}, []int{17}}, {7, most - 2, nil, nil},
		{8, 4, nil, nil}, {8, 5, []int{2, 5}, []int{5, 17}}, {8, 8, []int{2, 5}, []int{5, 17}}, {8, 9, nil, nil},
		{2, 0, nil, []int{0}}, {2, most - 1, nil, []int{0}}, {most, 11, nil, nil}, {most, 12, []int{0}, nil}, {most, most - 1, []int{0}, nil},
		{3, 9, []int{2}, nil}, {3, 10, nil, nil}, {4, 2, nil, []int{6}}, {5, 3, nil, nil}, {6, 0, nil, nil},
	} {
		mids, links, e := Owned(y, x.owner, x.at)
		sameSets(t, "Owned", mids, links, e, bits(6, x.mids...), bits(18, x.links...))
	}
	// Nobody's moments are not an owner's, not even that of number 0.
	for _, owner := range badOwners() {
		for _, at := range []int{0, 5, 9, most - 1} {
			mids, links, e := Owned(y, owner, at)
			sameSets(t, "no owner", mids, links, e, bits(6), bits(18))
		}
	}
	for _, y := range append(goodYards(), y) {
		for _, at := range badMoments() {
			for _, owner := range []int{0, 1, 7, most} {
				mids, links, e := Owned(y, owner, at)
				refusedSets(t, "Owned", mids, links, e, api.ErrArg)
			}
		}
	}
}

// P9.3: machines of one midplane and as great as can be, with nothing and with all of it busy.
func TestBusyAndOwnedOfMachines(t *testing.T) {
	for _, d := range goodDims() {
		n := d[0] * d[1] * d[2]
		none, every, everyLink := yard(d, nil, nil), bits(n, upTo(n)...), bits(3*n, upTo(3*n)...)
		mids, links, e := Busy(none, span(0, most))
		sameSets(t, "nothing", mids, links, e, bits(n), bits(3*n))
		mids, links, e = Owned(none, 0, 0)
		sameSets(t, "nothing", mids, links, e, bits(n), bits(3*n))
		all, e := Put(none, 9, every, everyLink, span(3, 4))
		if e != api.OK {
			t.Error(d, e)
		}
		mids, links, e = Busy(all, span(0, 4))
		sameSets(t, "all", mids, links, e, every, everyLink)
		mids, links, e = Busy(all, span(4, most))
		sameSets(t, "behind all", mids, links, e, bits(n), bits(3*n))
		mids, links, e = Owned(all, 9, 3)
		sameSets(t, "all", mids, links, e, every, everyLink)
		mids, links, e = Owned(all, 8, 3)
		sameSets(t, "another one's", mids, links, e, bits(n), bits(3*n))
	}
}

// roomy is a yard with spare room in each list, and what tells whether it, or that room, was turned.
func roomy(y api.Yard) (api.Yard, func() bool) {
	mark := slot(77, 78, 77)
	var rooms, were [][]api.Slot
	var outers, outerWere [][][]api.Slot
	each := func(l [][]api.Slot) [][]api.Slot {
		marks := []api.Slot{mark}
		room := make([][]api.Slot, 0, len(l)+2)
		for _, c := range l {
			all := append(slices.Clone(c), mark, mark)
			rooms, were = append(rooms, all), append(were, slices.Clone(all))
			room = append(room, all[:len(c)])
		}
		room = append(room, marks, marks)
		outers, outerWere = append(outers, room), append(outerWere, slices.Clone(room))
		return room[:len(l)]
	}
	y = api.Yard{Dims: y.Dims, Nodes: each(y.Nodes), Links: each(y.Links)}
	return y, func() bool {
		for i := range rooms {
			if !slices.Equal(rooms[i], were[i]) {
				return true
			}
		}
		for i := range outers {
			for k := range outers[i] {
				if len(outers[i][k]) != len(outerWere[i][k]) || !slices.Equal(outers[i][k], outerWere[i][k]) {
					return true
				}
			}
		}
		return false
	}
}

// roomySet is a set with spare room, and what tells whether it, or that room, was turned.
func roomySet(s api.Set) (api.Set, func() bool) {
	room := append(slices.Clone(s), 77, 77)
	was := slices.Clone(room)
	return room[:len(s)], func() bool { return !slices.Equal(room, was) }
}

// alone tells whether no two calendars of a yard share memory, their spare room neither: each is filled with a mark of its own. The yard is spoilt by it.
func alone(y api.Yard) bool {
	var all [][]api.Slot
	for _, l := range [][][]api.Slot{y.Nodes, y.Links} {
		for _, c := range l {
			all = append(all, c[:cap(c)])
		}
	}
	for i, c := range all {
		for k := range c {
			c[k] = slot(-i, -k, i)
		}
	}
	for i, c := range all {
		for k := range c {
			if c[k] != slot(-i, -k, i) {
				return false
			}
		}
	}
	for i, l := range [][][]api.Slot{y.Nodes, y.Links} {
		l = l[:cap(l)]
		for k := range l {
			l[k] = []api.Slot{slot(i, i, i)}
		}
	}
	return y.Nodes[0][0].Owner == 0 && y.Links[0][0].Owner == 1
}

// P9.4: what is handed in is only read, its spare room neither, and yards that are answered are new memory.
func TestMemoryOfYards(t *testing.T) {
	for _, from := range []api.Yard{several(), yard(api.Dims{2, 3, 1}, nil, nil)} {
		y, turned := roomy(from)
		mids, midsTurned := roomySet(bits(6, 0, 3))
		links, linksTurned := roomySet(bits(18, 6, 9))
		calls := []func() (api.Yard, api.Errno){
			func() (api.Yard, api.Errno) { return New(y.Dims) },
			func() (api.Yard, api.Errno) { return Put(y, 9, mids, links, span(6, 8)) },
			func() (api.Yard, api.Errno) { return Put(y, 9, bits(6), bits(18), span(6, 8)) },
			func() (api.Yard, api.Errno) { return Take(y, 7) },
			func() (api.Yard, api.Errno) { return Take(y, 9) },
			func() (api.Yard, api.Errno) { return Cut(y, 7, 4) },
			func() (api.Yard, api.Errno) { return Cut(y, 9, 0) },
			func() (api.Yard, api.Errno) { return Cut(y, 7, most) },
		}
		for i, call := range calls {
			got, e := call()
			again, _ := call()
			first := copied(got)
			if e != api.OK || !alone(got) || turned() || !equal(again, first) || midsTurned() || linksTurned() {
				t.Error(i, e, turned(), equal(again, first), midsTurned(), linksTurned())
			}
		}
	}
}

// P9.4: sets that are answered are new memory, and what is asked, or refused, is only read.
func TestMemoryOfSets(t *testing.T) {
	y, turned := roomy(several())
	mids, midsTurned := roomySet(bits(6, 0, 3))
	links, linksTurned := roomySet(bits(18, 5, 6, 9))
	calls := []func() (api.Set, api.Set, api.Errno){
		func() (api.Set, api.Set, api.Errno) { return Busy(y, span(0, 9)) },
		func() (api.Set, api.Set, api.Errno) { return Owned(y, 7, 3) },
		func() (api.Set, api.Set, api.Errno) { return Owned(y, 9, 3) },
	}
	for i, call := range calls {
		m, l, e := call()
		m2, l2, _ := call()
		firstM, firstL := slices.Clone(m), slices.Clone(l)
		for _, s := range []api.Set{m[:cap(m)], l[:cap(l)]} {
			for k := range s {
				s[k] = 1 << 60
			}
		}
		m[0] = 5
		if e != api.OK || turned() || l[0] != 1<<60 || !slices.Equal(m2, firstM) || !slices.Equal(l2, firstL) {
			t.Error(i, e, m2, firstM, l2, firstL)
		}
	}
	Check(y)
	Same(y, y)
	Put(y, 9, mids, links, span(0, most))
	Put(y, 0, mids, links, span(0, most))
	Put(y, 9, mids, mids, span(0, 1))
	Put(y, 9, links[:0], links, span(0, 1))
	if turned() || midsTurned() || linksTurned() {
		t.Error("only read")
	}
}

// world is a machine by moments: whose each calendar's moments are, of which 0 is nobody.
type world [24][12]int

// put tells who has what, with one more owner, if all of it is nobody's through the span.
func (w world) put(owner int, chosen []int, s api.Span) (world, bool) {
	for _, k := range chosen {
		for m := s.From; m < s.To; m++ {
			if w[k][m] != 0 {
				return w, false
			}
			w[k][m] = owner
		}
	}
	return w, true
}

// cut tells who has what, an owner having nothing from a moment on.
func (w world) cut(owner, to int) world {
	for k := range w {
		for m := to; m < len(w[k]); m++ {
			if w[k][m] == owner {
				w[k][m] = 0
			}
		}
	}
	return w
}

// split are numbers of a world as sets of a machine of 6 midplanes.
func split(l []int) (mids, links api.Set) {
	mids, links = bits(6), bits(18)
	for _, k := range l {
		if k < 6 {
			mids[0] |= 1 << k
		} else {
			links[0] |= 1 << (k - 6)
		}
	}
	return mids, links
}

// like asks for a yard's being as a world is: Busy through each span, and Owned at each moment. So two owners never have one thing at one moment.
func like(t *testing.T, y api.Yard, w world) {
	t.Helper()
	if e := Check(y); e != api.OK {
		t.Fatal(y, e)
	}
	for from := range len(w[0]) {
		for owner := 0; owner <= 4; owner++ {
			var l []int
			for k := range w {
				if owner != 0 && w[k][from] == owner {
					l = append(l, k)
				}
			}
			wantMids, wantLinks := split(l)
			mids, links, e := Owned(y, owner, from)
			sameSets(t, "Owned", mids, links, e, wantMids, wantLinks)
		}
		for to := from + 1; to <= len(w[0]); to++ {
			var l []int
			for k := range w {
				if slices.ContainsFunc(w[k][from:to], func(who int) bool { return who != 0 }) {
					l = append(l, k)
				}
			}
			wantMids, wantLinks := split(l)
			mids, links, e := Busy(y, span(from, to))
			sameSets(t, "Busy", mids, links, e, wantMids, wantLinks)
		}
	}
}

// P9.2, P9.3, P9.5: what is done by chance, one after another, held against the moments one by one.
func TestByMoments(t *testing.T) {
	r := rand.New(rand.NewSource(9))
	puts, refused := 0, 0
	for range 30 {
		y, _ := New(api.Dims{2, 3, 1})
		var w world
		for range 25 {
			owner := 1 + r.Intn(4)
			switch r.Intn(8) {
			case 0:
				y, _ = Take(y, owner)
				w = w.cut(owner, 0)
			case 1:
				to := r.Intn(14)
				y, _ = Cut(y, owner, to)
				w = w.cut(owner, to)
			default:
				chosen := r.Perm(24)[:r.Intn(6)]
				from := r.Intn(11)
				s := span(from, from+1+r.Intn(12-from))
				mids, links := split(chosen)
				next, e := Put(y, owner, mids, links, s)
				turned, may := w.put(owner, chosen, s)
				if !may {
					refused++
					refusedYard(t, "Put", next, e, api.ErrTaken)
					continue
				}
				puts++
				if e != api.OK {
					t.Fatal("Put", y, owner, chosen, s, e)
				}
				y, w = next, turned
			}
			like(t, y, w)
		}
	}
	if puts < 100 || refused < 100 {
		t.Error("chance was too one-sided", puts, refused)
	}
}

// P9.5: what is put is its owner's through the span, may not be put by another one then, and taken all is as it was.
func TestPutAndTaken(t *testing.T) {
	r := rand.New(rand.NewSource(95))
	for _, y := range append(goodYards(), several()) {
		n := len(y.Nodes)
		for range 4 {
			var mids, links []int
			for range 1 + r.Intn(3) {
				mids, links = append(mids, r.Intn(n)), append(links, r.Intn(3*n))
			}
			m, l := bits(n, mids...), bits(3*n, links...)
			from := r.Intn(20)
			s := span(from, from+1+r.Intn(3))
			got, e := Put(y, 99, m, l, s)
			if e != api.OK {
				continue
			}
			for at := s.From - 1; at <= s.To; at++ {
				wantMids, wantLinks := m, l
				if at < s.From || at >= s.To {
					wantMids, wantLinks = bits(n), bits(3*n)
				}
				if at >= 0 {
					ownedMids, ownedLinks, e := Owned(got, 99, at)
					sameSets(t, "Owned", ownedMids, ownedLinks, e, wantMids, wantLinks)
				}
			}
			for _, other := range []int{98, 99} {
				for at := s.From; at < s.To; at++ {
					no, e := Put(got, other, m, bits(3*n), span(at, at+1))
					refusedYard(t, "another one's midplanes", no, e, api.ErrTaken)
					no, e = Put(got, other, bits(n), l, span(at, at+1))
					refusedYard(t, "another one's cables", no, e, api.ErrTaken)
				}
			}
			back, e := Take(got, 99)
			sameYard(t, "taken", back, e, y)
			back, e = Cut(got, 99, 0)
			sameYard(t, "cut at 0", back, e, y)
			if !Same(back, y) || Same(got, y) {
				t.Error("Same")
			}
		}
	}
}

// P9.5: what is busy through a span is busy through each longer one.
func TestBusyGrows(t *testing.T) {
	y := several()
	edges := []int{0, 1, 2, 3, 4, 5, 8, 9, 12, most - 1, most}
	for i, from := range edges {
		for _, to := range edges[i+1:] {
			mids, links, _ := Busy(y, span(from, to))
			for _, less := range edges[:i+1] {
				for _, more := range edges {
					if more < to {
						continue
					}
					longMids, longLinks, e := Busy(y, span(less, more))
					if e != api.OK || mids[0]&^longMids[0] != 0 || links[0]&^longLinks[0] != 0 {
						t.Error(from, to, less, more, e)
					}
				}
			}
		}
	}
}

// The chapter's examples.
func TestExamples(t *testing.T) {
	y, e := New(api.Dims{2, 1, 1})
	if e != api.OK {
		t.Fatal(e)
	}
	y, e = Put(y, 5, api.Set{1}, api.Set{1}, span(0, 3))
	if e != api.OK {
		t.Fatal(e)
	}
	mids, links, e := Busy(y, span(2, 4))
	sameSets(t, "Busy", mids, links, e, api.Set{1}, api.Set{1})
	mids, links, e = Busy(y, span(3, 4))
	sameSets(t, "Busy", mids, links, e, api.Set{0}, api.Set{0})
	got, e := Put(y, 6, api.Set{3}, api.Set{0}, span(2, 9))
	refusedYard(t, "Put", got, e, api.ErrTaken)
}

// The limits and the errors' numbers, as the chapter tells them.
func TestNumbers(t *testing.T) {
	if api.MaxSlots != 4096 || api.MaxTime != 1<<40 || api.MaxNodes != 4096 || api.ErrArg != 2 || api.ErrMany != 4 || api.ErrBad != 8 || api.ErrTaken != 80 {
		t.Error(api.MaxSlots, api.ErrTaken)
	}
}
