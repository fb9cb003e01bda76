package when

import (
	"math"
	"math/rand"
	"slices"
	"testing"

	"tidehall/api"
	"tidehall/cals"
)

const most = 1 << 40

// span is a span.
func span(from, to int) api.Span {
	return api.Span{From: from, To: to}
}

// slot is a slot.
func slot(from, to, owner int) api.Slot {
	return api.Slot{Span: span(from, to), Owner: owner}
}

// row is a calendar of so many slots of one moment, with a moment between each two, the first one at 1, of the owners 1 to 3 by turns.
func row(n int) []api.Slot {
	c := make([]api.Slot, n)
	for i := range c {
		c[i] = slot(2*i+1, 2*i+2, i%3+1)
	}
	return c
}

// yard are calendars by hand: empty, but for those that are told, by their numbers.
func yard(d api.Dims, nodes, links map[int][]api.Slot) api.Yard {
	n := d[0] * d[1] * d[2]
	y := api.Yard{Dims: d, Nodes: make([][]api.Slot, n), Links: make([][]api.Slot, 3*n)}
	for k, c := range nodes {
		y.Nodes[k] = slices.Clone(c)
	}
	for k, c := range links {
		y.Links[k] = slices.Clone(c)
	}
	return y
}

// empty are machines' calendars without a slot, of one midplane and of as many as can be.
func empty() []api.Yard {
	return []api.Yard{
		yard(api.Dims{1, 1, 1}, nil, nil), yard(api.Dims{2, 3, 1}, nil, nil), yard(api.Dims{16, 16, 16}, nil, nil),
		{Dims: api.Dims{1, 1, 1}, Nodes: [][]api.Slot{{}}, Links: [][]api.Slot{{}, nil, {}}},
	}
}

// nodesAlone, linksAlone and both are calendars in which 5 has slots that end at 4, 6 and 9, 6 one at 4, 7 one at 6, and 8 one at MaxTime.
func nodesAlone() api.Yard {
	return yard(api.Dims{2, 3, 1}, map[int][]api.Slot{
		0: {slot(1, 4, 5), slot(4, 6, 5), slot(50, most, 8)}, 2: {slot(2, 4, 6), slot(4, 6, 7)}, 5: {slot(0, 9, 5)},
	}, nil)
}

func linksAlone() api.Yard {
	return yard(api.Dims{2, 3, 1}, nil, map[int][]api.Slot{
		0: {slot(0, 9, 5)}, 6: {slot(2, 4, 6), slot(4, 6, 7)}, 17: {slot(1, 4, 5), slot(4, 6, 5), slot(50, most, 8)},
	})
}

func both() api.Yard {
	return yard(api.Dims{2, 3, 1}, map[int][]api.Slot{
		0: {slot(1, 4, 5), slot(4, 6, 7)}, 5: {slot(0, 9, 5)},
	}, map[int][]api.Slot{
		0: {slot(2, 4, 6), slot(5, 6, 5)}, 17: {slot(1, 4, 5), slot(50, most, 8)},
	})
}

// edges are calendars in which 1 has a slot that ends at 1, 2 at MaxTime - 1, 3 at MaxTime, and MaxTime one at 7.
func edges() api.Yard {
	return yard(api.Dims{1, 1, 1}, map[int][]api.Slot{0: {slot(0, 1, 1), slot(6, 7, most)}}, map[int][]api.Slot{1: {slot(2, most-1, 2)}, 2: {slot(most-1, most, 3)}})
}

// goodYards are calendars that may be: with no slot, with one, with several, and with as many as can be.
func goodYards() []api.Yard {
	d, big := api.Dims{2, 3, 1}, api.Dims{16, 16, 16}
	return append(empty(), nodesAlone(), linksAlone(), both(), edges(),
		yard(d, map[int][]api.Slot{3: {slot(2, 5, 7)}}, nil), yard(d, nil, map[int][]api.Slot{3: {slot(2, 5, 7)}}),
		yard(api.Dims{1, 1, 1}, map[int][]api.Slot{0: {slot(0, most, most)}}, nil),
		yard(d, map[int][]api.Slot{0: row(api.MaxSlots - 1), 5: row(api.MaxSlots)}, map[int][]api.Slot{0: row(7), 17: row(api.MaxSlots)}),
		yard(big, map[int][]api.Slot{4095: {slot(1, 3, 7)}}, map[int][]api.Slot{12287: {slot(2, 5, 7), slot(most-2, most-1, 8)}}),
	)
}

// badOwners are owners that have nothing, for they may not be.
func badOwners() []int {
	return []int{math.MinInt, -most, -7, -1, 0, most + 1, math.MaxInt}
}

// badMoments are moments that nothing may be asked from.
func badMoments() []int {
	return []int{math.MinInt, -most, -1, most, most + 1, math.MaxInt}
}

// badCalendars are calendars that may not be: by a slot, by their order, and by their length.
func badCalendars() [][]api.Slot {
	l := [][]api.Slot{{slot(3, 5, 1), slot(1, 2, 1)}, {slot(1, 4, 1), slot(3, 5, 2)}, {slot(1, 2, 1), slot(1, 2, 1)}, {slot(1, 2, 1), {}}, {{}, slot(1, 2, 1)}, row(api.MaxSlots + 1)}
	for _, s := range []api.Span{{}, span(4, 4), span(4, 3), span(-1, 1), span(0, most+1), span(most, most+1), span(math.MinInt, math.MaxInt)} {
		l = append(l, []api.Slot{{Span: s, Owner: 1}})
	}
	for _, owner := range badOwners() {
		l = append(l, []api.Slot{slot(3, 4, owner)})
	}
	return l
}

// badYards are calendars that may not be: by their dimensions, by how many they are, and by one of them.
func badYards() []api.Yard {
	var l []api.Yard
	for _, d := range []api.Dims{{}, {0, 1, 1}, {1, 0, 1}, {1, 1, 0}, {-1, -1, 1}, {-1, -1, -1}, {17, 1, 1}, {1, 17, 1}, {1, 1, 17}, {math.MaxInt, math.MaxInt, math.MaxInt}, {math.MinInt, 2, 1}} {
		l = append(l, api.Yard{Dims: d}, api.Yard{Dims: d, Nodes: make([][]api.Slot, 1), Links: make([][]api.Slot, 3)})
	}
	for _, d := range []api.Dims{{1, 1, 1}, {2, 3, 1}, {16, 16, 16}} {
		n := d[0] * d[1] * d[2]
		for _, many := range [][2]int{{0, 0}, {n, 0}, {0, 3 * n}, {n - 1, 3 * n}, {n + 1, 3 * n}, {n, 3*n - 1}, {n, 3*n + 1}, {3 * n, n}, {n - 1, 3*n + 1}} {
			l = append(l, api.Yard{Dims: d, Nodes: make([][]api.Slot, many[0]), Links: make([][]api.Slot, many[1])})
		}
	}
	d := api.Dims{2, 3, 1}
	good := []api.Slot{slot(1, 3, 7), slot(5, 9, 8)}
	for _, c := range badCalendars() {
		for _, k := range []int{0, 2, 5} {
			l = append(l, yard(d, map[int][]api.Slot{k: c}, nil), yard(d, map[int][]api.Slot{1: good, k: c}, map[int][]api.Slot{0: good}))
		}
		for _, k := range []int{0, 6, 17} {
			l = append(l, yard(d, nil, map[int][]api.Slot{k: c}), yard(d, map[int][]api.Slot{0: good, 5: good}, map[int][]api.Slot{1: good, k: c}))
		}
	}
	return l
}

// told are the ends of the slots that are wanted, by a list of all of them that is put in order.
func told(y api.Yard, wanted func(s api.Slot) bool) []int {
	var l []int
	for _, c := range append(slices.Clone(y.Nodes), y.Links...) {
		for _, s := range c {
			if wanted(s) {
				l = append(l, s.Span.To)
			}
		}
	}
	slices.Sort(l)
	return slices.Compact(l)
}

// toldTimes are what Times has to tell.
func toldTimes(y api.Yard, from int) []int {
	behind := func(s api.Slot) bool { return s.Span.To > from && s.Span.To < most }
	return append([]int{from}, told(y, behind)...)
}

// sameList asks for a list without an error.
func sameList(t *testing.T, what string, got []int, e api.Errno, want []int) {
	t.Helper()
	if e != api.OK || !slices.Equal(got, want) {
		t.Error(what, got, e, "not", want)
	}
}

// sameNumber asks for a number without an error.
func sameNumber(t *testing.T, what string, got int, e api.Errno, want int) {
	t.Helper()
	if e != api.OK || got != want {
		t.Error(what, got, e, "not", want)
	}
}

// refused asks for an error and nothing beside it.
func refused(t *testing.T, what string, got []int, e, want api.Errno) {
	t.Helper()
	if e != want || len(got) != 0 {
		t.Error(what, got, e, "not", want)
	}
}

// P10.1: from 0, from a moment at which something comes free, one ahead of it and one behind it, and from behind all ends; several slots that end at one moment, of one owner and of several; of midplanes alone, of cables alone, and of both.
func TestTimes(t *testing.T) {
	for i, y := range []api.Yard{nodesAlone(), linksAlone(), both()} {
		for _, x := range []struct {
			from int
			want []int
		}{
			{0, []int{0, 4, 6, 9}}, {1, []int{1, 4, 6, 9}}, {3, []int{3, 4, 6, 9}}, {4, []int{4, 6, 9}}, {5, []int{5, 6, 9}}, {6, []int{6, 9}}, {7, []int{7, 9}}, {8, []int{8, 9}}, {9, []int{9}}, {10, []int{10}},
			{50, []int{50}}, {most - 2, []int{most - 2}}, {most - 1, []int{most - 1}},
		} {
			got, e := Times(y, x.from)
			if e != api.OK || !slices.Equal(got, x.want) {
				t.Error(i, x.from, got, e)
			}
		}
	}
}

// P10.1: from comes alone where no slot is, or all end by it.
func TestTimesAlone(t *testing.T) {
	one := yard(api.Dims{2, 3, 1}, map[int][]api.Slot{3: {slot(2, 5, 7)}}, nil)
	for _, from := range []int{0, 1, 5, 6, most - 1} {
		for _, y := range empty() {
			got, e := Times(y, from)
			sameList(t, "no slot", got, e, []int{from})
		}
		if from >= 5 {
			got, e := Times(one, from)
			sameList(t, "behind all ends", got, e, []int{from})
		}
	}
	got, e := Times(one, 4)
	sameList(t, "one slot", got, e, []int{4, 5})
}

// P10.1: slots that end at 1, at MaxTime - 1 and at MaxTime, which is no moment that is told; moments are not told in the order of calendars.
func TestTimesEdges(t *testing.T) {
	y := edges()
	for _, x := range []struct {
		from int
		want []int
	}{
		{0, []int{0, 1, 7, most - 1}}, {1, []int{1, 7, most - 1}}, {2, []int{2, 7, most - 1}}, {6, []int{6, 7, most - 1}}, {7, []int{7, most - 1}}, {8, []int{8, most - 1}},
		{most - 3, []int{most - 3, most - 1}}, {most - 2, []int{most - 2, most - 1}}, {most - 1, []int{most - 1}},
	} {
		got, e := Times(y, x.from)
		sameList(t, "Times", got, e, x.want)
	}
	all := yard(api.Dims{1, 1, 1}, map[int][]api.Slot{0: {slot(0, most, 1)}}, nil)
	for _, from := range []int{0, 5, most - 1} {
		got, e := Times(all, from)
		sameList(t, "all of time", got, e, []int{from})
	}
}

// P10.1: from below 0 and from MaxTime on.
func TestTimesBad(t *testing.T) {
	for _, y := range goodYards() {
		for _, from := range badMoments() {
			got, e := Times(y, from)
			refused(t, "Times", got, e, api.ErrArg)
		}
	}
}

// P10.1: an owner's ends, once each where several slots of theirs end, also at MaxTime, whoever else's end there; of midplanes alone, of cables alone, and of both.
func TestEnds(t *testing.T) {
	for i, y := range []api.Yard{nodesAlone(), linksAlone(), both()} {
		for _, x := range []struct {
			owner int
			want  []int
		}{{5, []int{4, 6, 9}}, {6, []int{4}}, {7, []int{6}}, {8, []int{most}}, {9, nil}, {1, nil}, {4, nil}, {most, nil}} {
			got, e := Ends(y, x.owner)
			if e != api.OK || !slices.Equal(got, x.want) {
				t.Error(i, x.owner, got, e)
			}
		}
	}
	for _, x := range []struct {
		owner int
		want  []int
	}{{1, []int{1}}, {2, []int{most - 1}}, {3, []int{most}}, {most, []int{7}}} {
		got, e := Ends(edges(), x.owner)
		sameList(t, "edges", got, e, x.want)
	}
}

// P10.1: owners that may not be, 0 too, have nothing, with slots and without one; nor has anybody, where no slot is.
func TestEndsOfNobody(t *testing.T) {
	for _, y := range goodYards() {
		for _, owner := range append(badOwners(), 999) {
			got, e := Ends(y, owner)
			sameList(t, "an owner with nothing", got, e, nil)
		}
	}
	for _, y := range empty() {
		for _, owner := range []int{1, 7, most} {
			got, e := Ends(y, owner)
			sameList(t, "no slot", got, e, nil)
		}
	}
}

// P10.1: slots of one owner that follow one another, and meet, each have an end of their own.
func TestEndsThatMeet(t *testing.T) {
	y := yard(api.Dims{1, 1, 1}, map[int][]api.Slot{0: {slot(0, 3, 5), slot(3, 5, 5), slot(5, 6, 6), slot(6, 8, 5)}}, nil)
	got, e := Ends(y, 5)
	sameList(t, "Ends", got, e, []int{3, 5, 8})
	got, e = Times(y, 1)
	sameList(t, "Times", got, e, []int{1, 3, 5, 6, 8})
	last, e := Last(y)
	sameNumber(t, "Last", last, e, 8)
}

// P10.1: the last end of all, wherever it stands, whoever's it is, also at MaxTime; 0, if there is none.
func TestLast(t *testing.T) {
	for _, y := range empty() {
		last, e := Last(y)
		sameNumber(t, "no slot", last, e, 0)
	}
	for _, y := range []api.Yard{nodesAlone(), linksAlone(), both(), edges()} {
		last, e := Last(y)
		sameNumber(t, "MaxTime", last, e, most)
	}
	d := api.Dims{2, 3, 1}
	for _, to := range []int{1, 2, 9, most - 1, most} {
		c := []api.Slot{slot(to-1, to, 7)}
		for _, k := range []int{0, 3, 5} {
			last, e := Last(yard(d, map[int][]api.Slot{k: c}, nil))
			sameNumber(t, "a midplane", last, e, to)
		}
		for _, k := range []int{0, 6, 17} {
			last, e := Last(yard(d, nil, map[int][]api.Slot{k: c}))
			sameNumber(t, "a cable", last, e, to)
		}
	}
	late, early := []api.Slot{slot(1, 2, 1), slot(5, 20, 2)}, []api.Slot{slot(7, 19, 3)}
	for _, y := range []api.Yard{
		yard(d, map[int][]api.Slot{1: late, 4: early}, nil), yard(d, map[int][]api.Slot{1: early, 4: late}, nil), yard(d, map[int][]api.Slot{2: late}, map[int][]api.Slot{2: early}), yard(d, map[int][]api.Slot{2: early}, map[int][]api.Slot{2: late}), yard(d, nil, map[int][]api.Slot{1: late, 4: early}),
	} {
		last, e := Last(y)
		sameNumber(t, "several", last, e, 20)
	}
}

// P10.1: calendars that may not be are told by each call, ahead of all else that is wrong, with all else zero.
func TestBadYards(t *testing.T) {
	for i, y := range badYards() {
		for _, n := range append(badMoments(), 0, 1, 7, most-1) {
			got, e := Times(y, n)
			refused(t, "Times", got, e, api.ErrBad)
			got, e = Ends(y, n)
			refused(t, "Ends", got, e, api.ErrBad)
		}
		if last, e := Last(y); last != 0 || e != api.ErrBad {
			t.Error("Last", i, last, e)
		}
	}
}

// P10.1: all calendars that may be, with as many slots as can be too, held against a list of all ends that is put in order.
func TestAgainstLists(t *testing.T) {
	for _, y := range goodYards() {
		for _, from := range []int{0, 1, 2, 3, 4, 5, 6, 7, 10, 4095, 8191, 8192, 8193, most - 2, most - 1} {
			got, e := Times(y, from)
			sameList(t, "Times", got, e, toldTimes(y, from))
		}
		for owner := range 10 {
			got, e := Ends(y, owner)
			sameList(t, "Ends", got, e, told(y, func(s api.Slot) bool { return s.Owner == owner }))
		}
	}
}

// P10.1: calendars by chance, held against lists of ends.
func TestByChance(t *testing.T) {
	r := rand.New(rand.NewSource(10))
	for range 300 {
		low := []int{0, 100, most - 12}[r.Intn(3)]
		y := chance(r, low, 12)
		for from := max(low-1, 0); from < min(low+14, most); from++ {
			got, e := Times(y, from)
			sameList(t, "Times", got, e, toldTimes(y, from))
		}
		for owner := range 6 {
			got, e := Ends(y, owner)
			sameList(t, "Ends", got, e, told(y, func(s api.Slot) bool { return s.Owner == owner }))
		}
		want := 0
		if l := told(y, func(api.Slot) bool { return true }); len(l) > 0 {
			want = l[len(l)-1]
		}
		last, e := Last(y)
		sameNumber(t, "Last", last, e, want)
	}
}

// chance are calendars of a machine of two midplanes, with slots of the owners 1 to 4 within n moments from low on.
func chance(r *rand.Rand, low, n int) api.Yard {
	y := yard(api.Dims{2, 1, 1}, nil, nil)
	for range r.Intn(8) {
		from := r.Intn(n)
		to := from + 1 + r.Intn(min(5, n-from))
		mids, links := api.Set{uint64(r.Intn(4))}, api.Set{uint64(r.Intn(64) & r.Intn(64))}
		// Where somebody has it already, the calendars are answered zero, and left as they are here.
		if next, e := cals.Put(y, 1+r.Intn(4), mids, links, span(low+from, low+to)); e == api.OK {
			y = next
		}
	}
	return y
}

// P10.2: what is handed in is only read, its spare room neither, and what is answered is new memory.
func TestMemory(t *testing.T) {
	for _, from := range []api.Yard{nodesAlone(), linksAlone(), both(), edges(), yard(api.Dims{2, 3, 1}, nil, nil)} {
		y, turned := roomy(from)
		calls := []func() ([]int, api.Errno){
			func() ([]int, api.Errno) { return Times(y, 0) },
			func() ([]int, api.Errno) { return Times(y, 5) },
			func() ([]int, api.Errno) { return Times(y, most-1) },
			func() ([]int, api.Errno) { return Ends(y, 5) },
			func() ([]int, api.Errno) { return Ends(y, 3) },
			func() ([]int, api.Errno) { return Ends(y, 0) },
		}
		for i, call := range calls {
			got, e := call()
			again, _ := call()
			first := slices.Clone(got)
			got = got[:cap(got)]
			for k := range got {
				got[k] = -5
			}
			third, _ := call()
			if e != api.OK || turned() || !slices.Equal(again, first) || !slices.Equal(third, first) {
				t.Error(i, e, turned(), again, third, first)
			}
		}
		Last(y)
		Times(y, -1)
		if turned() {
			t.Error("only read", y)
		}
	}
	for i, y := range badYards() {
		y, turned := roomy(y)
		Times(y, 0)
		Ends(y, 1)
		Last(y)
		if turned() {
			t.Error("refused", i)
		}
	}
}

// roomy are the same calendars with spare room in each list, and what tells whether they, or that room, were turned.
func roomy(y api.Yard) (api.Yard, func() bool) {
	mark := slot(77, 78, 77)
	var rooms, were [][]api.Slot
	var outers, outersWere [][][]api.Slot
	each := func(l [][]api.Slot) [][]api.Slot {
		var room [][]api.Slot
		for _, c := range l {
			all := append(slices.Clone(c), mark, mark)
			rooms, were = append(rooms, all), append(were, slices.Clone(all))
			room = append(room, all[:len(c)])
		}
		marks := []api.Slot{mark}
		room = append(room, marks, marks)
		outers, outersWere = append(outers, room), append(outersWere, slices.Clone(room))
		return room[:len(l)]
	}
	same := func(a, b []api.Slot) bool { return slices.Equal(a, b) }
	sameOuter := func(a, b [][]api.Slot) bool { return slices.EqualFunc(a, b, same) }
	y = api.Yard{Dims: y.Dims, Nodes: each(y.Nodes), Links: each(y.Links)}
	return y, func() bool {
		return !slices.EqualFunc(rooms, were, same) || !slices.EqualFunc(outers, outersWere, sameOuter)
	}
}

// places are some midplanes and cables of a machine of two midplanes: none, each one, a few and all.
func places() [][2]uint64 {
	l := [][2]uint64{{0, 0}, {3, 63}, {3, 0}, {0, 63}, {1, 1}, {2, 2}, {3, 3}, {1, 32}}
	for k := range 2 {
		l = append(l, [2]uint64{1 << k, 0})
	}
	for k := range 6 {
		l = append(l, [2]uint64{0, 1 << k})
	}
	return l
}

// freeAt are, by a moment from low on, those of some places that are free as long from it on; no place is where time ends ahead of it.
func freeAt(t *testing.T, y api.Yard, low, n, long int, of [][2]uint64) [][]bool {
	t.Helper()
	table := make([][]bool, n)
	for m := range table {
		table[m] = make([]bool, len(of))
		if low+m+long > most {
			continue
		}
		mids, links, e := cals.Busy(y, span(low+m, low+m+long))
		if e != api.OK {
			t.Fatal(e)
		}
		for k, p := range of {
			table[m][k] = mids[0]&p[0] == 0 && links[0]&p[1] == 0
		}
	}
	return table
}

// P10.3: what is free from a moment on, but not from the one ahead, is free from one of Times' on, and the least moment from which a place is free, or any of several, is one of them: at the beginning of time, at its end, and between.
func TestFreeFromTimesOn(t *testing.T) {
	r := rand.New(rand.NewSource(103))
	of := places()
	for range 150 {
		const n = 12
		low := []int{0, 100, most - n}[r.Intn(3)]
		y := chance(r, low, n)
		for _, long := range []int{1, 2, 3, 5, n} {
			table := freeAt(t, y, low, n, long, of)
			for from := range n {
				times, e := Times(y, low+from)
				if e != api.OK {
					t.Fatal(e)
				}
				least := n
				for k := range of {
					at := turns(t, table, low, from, k, times)
					if at < n && !slices.Contains(times, low+at) {
						t.Error("the least of one place", y, long, low+from, of[k], low+at, times)
					}
					if k > 0 {
						least = min(least, at)
					}
				}
				if least < n && !slices.Contains(times, low+least) {
					t.Error("the least of several", y, long, low+from, low+least, times)
				}
			}
		}
	}
}

// turns is the least moment, as many behind low as it tells, from from on, from which a place is free, or the length of the table; it asks that each moment behind from at which the place begins to be free is one of times.
func turns(t *testing.T, table [][]bool, low, from, k int, times []int) int {
	t.Helper()
	least := len(table)
	for m := from; m < len(table); m++ {
		if !table[m][k] {
			continue
		}
		least = min(least, m)
		if m > from && !table[m-1][k] && !slices.Contains(times, low+m) {
			t.Error("begins to be free", low+from, low+m, times)
		}
	}
	return least
}

// P10.3: from Last on everything is free, through to MaxTime, and from the moment ahead of it something is not.
func TestFreeFromLastOn(t *testing.T) {
	r := rand.New(rand.NewSource(104))
	yards := goodYards()
	for range 200 {
		yards = append(yards, chance(r, []int{0, 100, most - 12}[r.Intn(3)], 12))
	}
	busy := func(y api.Yard, from int) bool {
		mids, links, e := cals.Busy(y, span(from, most))
		if e != api.OK {
			t.Error(from, e)
		}
		some := func(word uint64) bool { return word != 0 }
		return slices.ContainsFunc(mids, some) || slices.ContainsFunc(links, some)
	}
	for i, y := range yards {
		last, e := Last(y)
		if e != api.OK {
			t.Error(i, e)
		}
		if last < most && busy(y, last) {
			t.Error("from Last on", i, last)
		}
		if last > 0 && !busy(y, last-1) {
			t.Error("ahead of Last", i, last)
		}
	}
}

// The chapter's examples.
func TestExamples(t *testing.T) {
	y, e := cals.New(api.Dims{2, 1, 1})
	if e != api.OK {
		t.Fatal(e)
	}
	y, e = cals.Put(y, 5, api.Set{1}, api.Set{1}, span(0, 3))
	if e != api.OK {
		t.Fatal(e)
	}
	got, e := Times(y, 0)
	sameList(t, "Times", got, e, []int{0, 3})
	got, e = Times(y, 3)
	sameList(t, "Times", got, e, []int{3})
	got, e = Ends(y, 5)
	sameList(t, "Ends", got, e, []int{3})
	got, e = Ends(y, 6)
	sameList(t, "Ends", got, e, nil)
	last, e := Last(y)
	sameNumber(t, "Last", last, e, 3)
}

// The limits and the errors' numbers, as the chapter tells them.
func TestNumbers(t *testing.T) {
	if api.MaxTime != most || api.ErrArg != 2 || api.ErrBad != 8 {
		t.Error(api.MaxTime, api.ErrArg, api.ErrBad)
	}
}

// Slots come one by one, those of midplanes first, each once, and no more of them once nobody wants one.
func TestSlots(t *testing.T) {
	want := []api.Slot{slot(1, 4, 5), slot(4, 6, 7), slot(0, 9, 5), slot(2, 4, 6), slot(5, 6, 5), slot(1, 4, 5), slot(50, most, 8)}
	if got := slices.Collect(slots(both())); !slices.Equal(got, want) {
		t.Error(got)
	}
	for n := range len(want) {
		var got []api.Slot
		for s := range slots(both()) {
			got = append(got, s)
			if len(got) == n+1 {
				break
			}
		}
		if !slices.Equal(got, want[:n+1]) {
			t.Error(n, got)
		}
	}
}
