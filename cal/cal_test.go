package cal

import (
	"math"
	"math/rand"
	"slices"
	"testing"

	"tidehall/api"
)

const most = 1 << 40

// span is a span.
func span(from, to int) api.Span {
	return api.Span{From: from, To: to}
}

// slot is a slot.
func slot(from, to, owner int) api.Slot {
	return api.Slot{Span: span(from, to), Owner: owner}
}

// row is a calendar of so many slots of one moment, with a moment between each two.
func row(n int) []api.Slot {
	c := make([]api.Slot, n)
	for i := range c {
		c[i] = slot(2*i+1, 2*i+2, i%3+1)
	}
	return c
}

// short are all calendars of the moments below n, each of which is nobody's or one of two owners', with slots of one moment that touch and slots that are joined.
func short(n int) [][]api.Slot {
	calendars := [][]api.Slot{nil}
	for at := range n {
		var more [][]api.Slot
		for _, c := range calendars {
			more = append(more, c)
			for owner := 1; owner <= 2; owner++ {
				more = append(more, append(slices.Clone(c), slot(at, at+1, owner)))
			}
			if last := len(c) - 1; last >= 0 && c[last].Span.To == at {
				longer := slices.Clone(c)
				longer[last].Span.To++
				more = append(more, longer)
			}
		}
		calendars = more
	}
	return calendars
}

// late is a calendar, moved so that moment n comes to MaxTime.
func late(c []api.Slot, n int) []api.Slot {
	c = slices.Clone(c)
	for i := range c {
		c[i].Span.From += most - n
		c[i].Span.To += most - n
	}
	return c
}

// goodCalendars are calendars that may be, at the edges.
func goodCalendars() [][]api.Slot {
	return [][]api.Slot{
		nil, {},
		{slot(0, 1, 1)}, {slot(0, most, 1)}, {slot(0, most, most)}, {slot(most-1, most, 1)}, {slot(5, 9, most)},
		{slot(1, 3, 7), slot(5, 9, 8)},
		{slot(0, 1, 1), slot(1, 2, 1)}, {slot(0, 1, 1), slot(1, 2, 2), slot(2, most, 1)}, {slot(0, most-1, 3), slot(most-1, most, 3)},
		{slot(0, 1, 1), slot(most-1, most, most)},
		{slot(1, 2, 5), slot(4, 6, 5), slot(6, 7, 3), slot(9, 12, 5), slot(20, 21, 4)},
		row(api.MaxSlots - 1), row(api.MaxSlots),
	}
}

// badSlots are slots that may not be: empty, turned round, below 0, past MaxTime, and of owners that may not be.
func badSlots() []api.Slot {
	return []api.Slot{
		{}, slot(0, 0, 1), slot(4, 4, 1), slot(most, most, 1), slot(4, 3, 1), slot(most, 0, 1), slot(math.MaxInt, math.MinInt, 1),
		slot(-1, 1, 1), slot(-1, 0, 1), slot(-9, -1, 1), slot(math.MinInt, 1, 1), slot(-1, most, 1),
		slot(0, most+1, 1), slot(most-1, most+1, 1), slot(most, most+1, 1), slot(5, math.MaxInt, 1), slot(math.MinInt, math.MaxInt, 1),
		slot(3, 4, 0), slot(3, 4, -1), slot(3, 4, math.MinInt), slot(3, 4, most+1), slot(3, 4, math.MaxInt),
		slot(4, 4, 0), slot(-1, 1, most+1),
	}
}

// badCalendars are calendars that may not be: with such a slot, as the only one, ahead of others and behind them; that fall, that overlap, and that are too long.
func badCalendars() [][]api.Slot {
	var l [][]api.Slot
	for _, s := range badSlots() {
		l = append(l, []api.Slot{s}, []api.Slot{s, slot(20, 21, 1)}, []api.Slot{slot(1, 2, 1), s}, []api.Slot{slot(1, 2, 1), s, slot(20, 21, 1)})
	}
	l = append(l,
		[]api.Slot{slot(5, 9, 1), slot(1, 3, 1)}, []api.Slot{slot(5, 9, 1), slot(4, 5, 1)}, []api.Slot{slot(1, 2, 1), slot(0, 1, 2)},
		[]api.Slot{slot(1, 4, 1), slot(3, 5, 1)}, []api.Slot{slot(1, 4, 1), slot(3, 5, 2)}, []api.Slot{slot(1, 9, 1), slot(3, 5, 2)},
		[]api.Slot{slot(1, 2, 1), slot(1, 2, 1)}, []api.Slot{slot(1, 2, 1), slot(1, 3, 2)}, []api.Slot{slot(0, most, 1), slot(most-1, most, 1)},
		[]api.Slot{slot(0, 1, 1), slot(5, 6, 1), slot(3, 4, 1)}, []api.Slot{slot(0, 9, 1), slot(9, 12, 1), slot(8, 13, 1)},
		row(api.MaxSlots+1), make([]api.Slot, api.MaxSlots+1), row(2*api.MaxSlots),
	)
	return l
}

// owners are the owners of moments from low to below high, one by one, of which 0 is nobody.
func owners(c []api.Slot, low, high int) []int {
	l := make([]int, high-low)
	for _, s := range c {
		for m := max(s.Span.From, low); m < min(s.Span.To, high); m++ {
			l[m-low] = s.Owner
		}
	}
	return l
}

// same asks for a calendar and an error.
func same(t *testing.T, what string, got, want []api.Slot, e, wantE api.Errno) {
	t.Helper()
	if !slices.Equal(got, want) || e != wantE {
		t.Error(what, got, e, "not", want, wantE)
	}
}

// P8.1: calendars that may be: of no slot, of one, of MaxSlots and one less, that touch, and at both ends of time.
func TestCheckGood(t *testing.T) {
	for i, c := range goodCalendars() {
		if e := Check(c); e != api.OK {
			t.Error(i, e)
		}
	}
	for i, c := range short(5) {
		if e := Check(c); e != api.OK {
			t.Error(i, c, e)
		}
		if e := Check(late(c, 5)); e != api.OK {
			t.Error("late", i, c, e)
		}
	}
}

// P8.1: two slots, held against the chapter's words.
func TestCheckPairs(t *testing.T) {
	for a := range 5 {
		for b := range 5 {
			for c := range 5 {
				for d := range 5 {
					want := api.ErrBad
					if a < b && c < d && b <= c {
						want = api.OK
					}
					if e := Check([]api.Slot{slot(a, b, 1), slot(c, d, 1)}); e != want {
						t.Error(a, b, c, d, e)
					}
				}
			}
		}
	}
}

// P8.1, P8.2: a calendar that may not be is told by each call, ahead of what else is wrong, with all else zero.
func TestBadCalendars(t *testing.T) {
	for i, c := range badCalendars() {
		if e := Check(c); e != api.ErrBad {
			t.Error("Check", i, e)
		}
		for _, s := range []api.Slot{slot(50, 51, 1), slot(1, 2, 1), {}, slot(-1, 4, 0)} {
			got, e := Put(c, s)
			same(t, "Put", got, nil, e, api.ErrBad)
			if is, e := Free(c, s.Span); is || e != api.ErrBad {
				t.Error("Free", i, s, is, e)
			}
		}
		for _, n := range []int{math.MinInt, -1, 0, 1, 5, 1 << 39, most, math.MaxInt} {
			got, e := Take(c, n)
			same(t, "Take", got, nil, e, api.ErrBad)
			got, e = Cut(c, n, 5)
			same(t, "Cut", got, nil, e, api.ErrBad)
			got, e = Cut(c, 1, n)
			same(t, "Cut", got, nil, e, api.ErrBad)
			if who, e := At(c, n); who != 0 || e != api.ErrBad {
				t.Error("At", i, n, who, e)
			}
			if at, e := Next(c, n, 1); at != 0 || e != api.ErrBad {
				t.Error("Next", i, n, at, e)
			}
			if at, e := Next(c, 0, n); at != 0 || e != api.ErrBad {
				t.Error("Next", i, n, at, e)
			}
		}
	}
}

// P8.1: slots that are put ahead of all, between two, behind all, and that touch; and those of which a moment is somebody's.
func TestPut(t *testing.T) {
	c := []api.Slot{slot(1, 3, 7), slot(5, 9, 8), slot(12, 14, 7)}
	for _, x := range []struct {
		s    api.Slot
		want []api.Slot
		e    api.Errno
	}{
		{slot(0, 1, 7), []api.Slot{slot(0, 1, 7), slot(1, 3, 7), slot(5, 9, 8), slot(12, 14, 7)}, api.OK},
		{slot(3, 4, 1), []api.Slot{slot(1, 3, 7), slot(3, 4, 1), slot(5, 9, 8), slot(12, 14, 7)}, api.OK},
		{slot(4, 5, most), []api.Slot{slot(1, 3, 7), slot(4, 5, most), slot(5, 9, 8), slot(12, 14, 7)}, api.OK},
		{slot(3, 5, 8), []api.Slot{slot(1, 3, 7), slot(3, 5, 8), slot(5, 9, 8), slot(12, 14, 7)}, api.OK},
		{slot(10, 11, 9), []api.Slot{slot(1, 3, 7), slot(5, 9, 8), slot(10, 11, 9), slot(12, 14, 7)}, api.OK},
		{slot(14, most, 7), []api.Slot{slot(1, 3, 7), slot(5, 9, 8), slot(12, 14, 7), slot(14, most, 7)}, api.OK},
		{slot(most-1, most, 2), []api.Slot{slot(1, 3, 7), slot(5, 9, 8), slot(12, 14, 7), slot(most-1, most, 2)}, api.OK},
		{slot(0, 2, 9), nil, api.ErrTaken}, {slot(2, 3, 7), nil, api.ErrTaken}, {slot(2, 4, 9), nil, api.ErrTaken}, {slot(1, 3, 7), nil, api.ErrTaken},
		{slot(4, 6, 9), nil, api.ErrTaken}, {slot(6, 8, 9), nil, api.ErrTaken}, {slot(8, 10, 8), nil, api.ErrTaken}, {slot(13, 20, 9), nil, api.ErrTaken},
		{slot(0, most, 9), nil, api.ErrTaken}, {slot(3, 13, 9), nil, api.ErrTaken}, {slot(3, 12, 9), nil, api.ErrTaken},
	} {
		got, e := Put(c, x.s)
		same(t, "Put", got, x.want, e, x.e)
	}
}

// P8.1: a slot that may not be is told ahead of its being somebody's, and of there being no room.
func TestPutBadSlots(t *testing.T) {
	for _, c := range goodCalendars() {
		for _, s := range badSlots() {
			got, e := Put(c, s)
			same(t, "Put", got, nil, e, api.ErrArg)
		}
	}
}

// P8.1: the last slot that there is room for, and one more; who has it is told ahead of there being no room.
func TestPutFull(t *testing.T) {
	for _, s := range []api.Slot{slot(0, 1, 9), slot(4000, 4001, 9), slot(3*api.MaxSlots, most, 9)} {
		c := row(api.MaxSlots - 1)
		full, e := Put(c, s)
		want := append(slices.Clone(c), s)
		slices.SortFunc(want, func(a, b api.Slot) int { return a.Span.From - b.Span.From })
		same(t, "room for one", full, want, e, api.OK)
		if e := Check(full); e != api.OK || len(full) != api.MaxSlots {
			t.Error("it may be", len(full), e)
		}
		got, e := Put(full, slot(2*api.MaxSlots+4, 2*api.MaxSlots+5, 9))
		same(t, "no room", got, nil, e, api.ErrMany)
		got, e = Put(full, s)
		same(t, "taken, and no room", got, nil, e, api.ErrTaken)
		got, e = Put(row(api.MaxSlots), s)
		same(t, "full", got, nil, e, api.ErrMany)
	}
	got, e := Put(row(api.MaxSlots), slot(1, 2, 9))
	same(t, "taken, and full", got, nil, e, api.ErrTaken)
	got, e = Put(row(api.MaxSlots), slot(1, 1, 9))
	same(t, "no slot, and full", got, nil, e, api.ErrArg)
}

// P8.1, P8.4: each slot put to each short calendar, held against the moments one by one; what is put is its owner's, nothing else turns, and taken again it is as it was.
func TestPutEach(t *testing.T) {
	const n = 5
	for _, c := range short(n) {
		for from := range n {
			for to := from + 1; to <= n; to++ {
				s := slot(from, to, 9)
				was := owners(c, 0, n)
				got, e := Put(c, s)
				if slices.ContainsFunc(was[from:to], func(who int) bool { return who != 0 }) {
					same(t, "taken", got, nil, e, api.ErrTaken)
					continue
				}
				for m := from; m < to; m++ {
					was[m] = 9
				}
				if e != api.OK || !slices.Equal(owners(got, 0, n), was) || len(got) != len(c)+1 || !slices.Contains(got, s) || Check(got) != api.OK {
					t.Error("Put", c, s, got, e)
				}
				back, e := Take(got, 9)
				same(t, "taken again", back, c, e, api.OK)
			}
		}
	}
}

// P8.1: an owner with no slot, with one, with several; owners that may not be have none.
func TestTake(t *testing.T) {
	c := []api.Slot{slot(1, 3, 7), slot(3, 4, 7), slot(5, 9, 8), slot(10, 12, 7), slot(12, 13, 1), slot(13, most, most)}
	for _, x := range []struct {
		owner int
		want  []api.Slot
	}{
		{7, []api.Slot{slot(5, 9, 8), slot(12, 13, 1), slot(13, most, most)}},
		{8, []api.Slot{slot(1, 3, 7), slot(3, 4, 7), slot(10, 12, 7), slot(12, 13, 1), slot(13, most, most)}},
		{1, []api.Slot{slot(1, 3, 7), slot(3, 4, 7), slot(5, 9, 8), slot(10, 12, 7), slot(13, most, most)}},
		{most, []api.Slot{slot(1, 3, 7), slot(3, 4, 7), slot(5, 9, 8), slot(10, 12, 7), slot(12, 13, 1)}},
		{9, c}, {0, c}, {-1, c}, {math.MinInt, c}, {math.MaxInt, c}, {most + 1, c},
	} {
		got, e := Take(c, x.owner)
		same(t, "Take", got, x.want, e, api.OK)
	}
	got, e := Take([]api.Slot{slot(0, 4, 2), slot(4, 5, 2)}, 2)
	same(t, "all of them", got, nil, e, api.OK)
	got, e = Take(nil, 2)
	same(t, "of none", got, nil, e, api.OK)
}

// P8.1: cuts ahead of a slot, at its beginning, within it, at its end, between slots, at both ends of time, and beyond.
func TestCut(t *testing.T) {
	c := []api.Slot{slot(1, 3, 7), slot(5, 9, 8), slot(9, 12, 7), slot(14, most, 7)}
	for _, x := range []struct {
		owner, to int
		want      []api.Slot
	}{
		{7, 13, []api.Slot{slot(1, 3, 7), slot(5, 9, 8), slot(9, 12, 7)}},
		{7, 14, []api.Slot{slot(1, 3, 7), slot(5, 9, 8), slot(9, 12, 7)}},
		{7, 15, []api.Slot{slot(1, 3, 7), slot(5, 9, 8), slot(9, 12, 7), slot(14, 15, 7)}},
		{7, 12, []api.Slot{slot(1, 3, 7), slot(5, 9, 8), slot(9, 12, 7)}},
		{7, 11, []api.Slot{slot(1, 3, 7), slot(5, 9, 8), slot(9, 11, 7)}},
		{7, 10, []api.Slot{slot(1, 3, 7), slot(5, 9, 8), slot(9, 10, 7)}},
		{7, 9, []api.Slot{slot(1, 3, 7), slot(5, 9, 8)}},
		{7, 3, []api.Slot{slot(1, 3, 7), slot(5, 9, 8)}},
		{7, 2, []api.Slot{slot(1, 2, 7), slot(5, 9, 8)}},
		{7, 1, []api.Slot{slot(5, 9, 8)}}, {7, 0, []api.Slot{slot(5, 9, 8)}}, {7, -1, []api.Slot{slot(5, 9, 8)}}, {7, math.MinInt, []api.Slot{slot(5, 9, 8)}},
		{7, most - 1, []api.Slot{slot(1, 3, 7), slot(5, 9, 8), slot(9, 12, 7), slot(14, most-1, 7)}},
		{7, most, c}, {7, most + 1, c}, {7, math.MaxInt, c},
		{8, 6, []api.Slot{slot(1, 3, 7), slot(5, 6, 8), slot(9, 12, 7), slot(14, most, 7)}},
		{8, 5, []api.Slot{slot(1, 3, 7), slot(9, 12, 7), slot(14, most, 7)}},
		{8, 9, c}, {8, 10, c}, {9, 0, c}, {0, 0, c}, {-1, -1, c}, {math.MaxInt, math.MinInt, c},
	} {
		got, e := Cut(c, x.owner, x.to)
		same(t, "Cut", got, x.want, e, api.OK)
	}
}

// P8.1, P8.4: each cut of each short calendar, held against the moments one by one; at MaxTime or later it is as it was, at 0 or ahead as taken.
func TestCutEach(t *testing.T) {
	const n = 5
	for _, c := range append(short(n), goodCalendars()...) {
		for owner := 0; owner <= 3; owner++ {
			taken, _ := Take(c, owner)
			for _, to := range []int{math.MinInt, -1, 0} {
				got, e := Cut(c, owner, to)
				same(t, "as taken", got, taken, e, api.OK)
			}
			for _, to := range []int{most, most + 1, math.MaxInt} {
				got, e := Cut(c, owner, to)
				same(t, "as it was", got, c, e, api.OK)
			}
			for to := 0; to <= n; to++ {
				want := owners(c, 0, n)
				for m := to; m < n; m++ {
					if want[m] == owner {
						want[m] = 0
					}
				}
				got, e := Cut(c, owner, to)
				if e != api.OK || Check(got) != api.OK || !slices.Equal(owners(got, 0, n), want) {
					t.Error("Cut", c, owner, to, got, e)
				}
			}
		}
	}
}

// P8.2: spans that are free, that touch, and of which a moment is somebody's.
func TestFree(t *testing.T) {
	c := []api.Slot{slot(1, 3, 7), slot(5, 9, 8), slot(9, 10, 8)}
	for _, x := range []struct {
		s  api.Span
		is bool
	}{
		{span(0, 1), true}, {span(0, 2), false}, {span(2, 3), false}, {span(1, 3), false}, {span(2, 4), false}, {span(3, 4), true}, {span(3, 5), true}, {span(4, 5), true}, {span(3, 6), false},
		{span(8, 10), false}, {span(9, 10), false}, {span(9, 11), false}, {span(10, 11), true}, {span(10, most), true}, {span(most-1, most), true}, {span(0, most), false}, {span(0, 12), false},
	} {
		if is, e := Free(c, x.s); is != x.is || e != api.OK {
			t.Error(x, is, e)
		}
	}
	for _, none := range [][]api.Slot{nil, {}} {
		if is, e := Free(none, span(0, most)); !is || e != api.OK {
			t.Error("all of time", is, e)
		}
	}
	if is, e := Free([]api.Slot{slot(most-1, most, 1)}, span(0, most)); is || e != api.OK {
		t.Error("the last moment", is, e)
	}
	if is, e := Free([]api.Slot{slot(0, 1, 1)}, span(1, most)); !is || e != api.OK {
		t.Error("all but the first moment", is, e)
	}
}

// P8.2: spans that may not be.
func TestFreeBadSpans(t *testing.T) {
	for _, c := range goodCalendars() {
		for _, s := range badSlots() {
			if s.Span == span(3, 4) {
				continue // wrong by its owner alone
			}
			if is, e := Free(c, s.Span); is || e != api.ErrArg {
				t.Error(s.Span, is, e)
			}
		}
	}
}

// P8.2: a slot's first moment, its last, and the one behind it; at both ends of time.
func TestAt(t *testing.T) {
	c := []api.Slot{slot(0, 1, 1), slot(2, 5, 7), slot(5, 6, most), slot(8, 10, 7), slot(most-1, most, 3)}
	for at, want := range []int{1, 0, 7, 7, 7, most, 0, 0, 7, 7, 0} {
		wantE := api.OK
		if want == 0 {
			wantE = api.ErrNone
		}
		if who, e := At(c, at); who != want || e != wantE {
			t.Error(at, who, e)
		}
	}
	if who, e := At(c, most-1); who != 3 || e != api.OK {
		t.Error("the last moment", who, e)
	}
	if who, e := At(c, most-2); who != 0 || e != api.ErrNone {
		t.Error("the one ahead of it", who, e)
	}
	for _, c := range goodCalendars() {
		for _, at := range []int{math.MinInt, -most, -1, most, most + 1, math.MaxInt} {
			if who, e := At(c, at); who != 0 || e != api.ErrArg {
				t.Error("no moment", at, who, e)
			}
		}
	}
	if who, e := At(nil, 0); who != 0 || e != api.ErrNone {
		t.Error("of none", who, e)
	}
	if who, e := At([]api.Slot{slot(0, most, 5)}, most/2); who != 5 || e != api.OK {
		t.Error("of all of time", who, e)
	}
}

// P8.2: gaps that are just long enough, and one too short; the last moments; lengths as great as can be.
func TestNext(t *testing.T) {
	c := []api.Slot{slot(1, 3, 7), slot(5, 9, 8), slot(9, 10, 7), slot(13, 14, 7), slot(most-5, most-3, 8)}
	for _, x := range []struct {
		from, long, want int
		e                api.Errno
	}{
		{0, 1, 0, api.OK}, {0, 2, 3, api.OK}, {0, 3, 10, api.OK}, {0, 4, 14, api.OK},
		{1, 1, 3, api.OK}, {2, 2, 3, api.OK}, {3, 2, 3, api.OK}, {4, 1, 4, api.OK}, {4, 2, 10, api.OK}, {5, 1, 10, api.OK}, {8, 1, 10, api.OK}, {9, 1, 10, api.OK}, {10, 3, 10, api.OK}, {11, 2, 11, api.OK}, {11, 3, 14, api.OK}, {13, 1, 14, api.OK},
		{0, most - 19, 14, api.OK}, {0, most - 18, 0, api.ErrNone}, {14, most - 19, 14, api.OK}, {15, most - 19, 0, api.ErrNone},
		{most - 5, 1, most - 3, api.OK}, {most - 4, 3, most - 3, api.OK}, {most - 4, 4, 0, api.ErrNone}, {most - 3, 3, most - 3, api.OK}, {most - 2, 2, most - 2, api.OK}, {most - 2, 3, 0, api.ErrNone}, {most - 1, 1, most - 1, api.OK}, {most - 1, 2, 0, api.ErrNone},
		{0, most, 0, api.ErrNone}, {0, math.MaxInt, 0, api.ErrNone}, {most - 1, math.MaxInt, 0, api.ErrNone},
	} {
		if at, e := Next(c, x.from, x.long); at != x.want || e != x.e {
			t.Error(x, at, e)
		}
	}
	for _, x := range [][3]int{{0, 1, 0}, {0, most, 0}, {5, most - 5, 5}, {most - 1, 1, most - 1}} {
		if at, e := Next(nil, x[0], x[1]); at != x[2] || e != api.OK {
			t.Error("of none", x, at, e)
		}
	}
	for _, x := range [][2]int{{0, most + 1}, {1, most}, {5, most - 4}, {0, math.MaxInt}} {
		if at, e := Next(nil, x[0], x[1]); at != 0 || e != api.ErrNone {
			t.Error("of none", x, at, e)
		}
	}
	for _, from := range []int{0, 5, most - 1} {
		if at, e := Next([]api.Slot{slot(0, most, 1)}, from, 1); at != 0 || e != api.ErrNone {
			t.Error("all of time is somebody's", from, at, e)
		}
		if at, e := Next([]api.Slot{slot(from, most, 1)}, from, 1); at != 0 || e != api.ErrNone {
			t.Error("to the end", from, at, e)
		}
	}
}

// P8.2: moments that may not be, and lengths of 0 and below.
func TestNextBad(t *testing.T) {
	for _, c := range goodCalendars() {
		for _, from := range []int{math.MinInt, -1, 0, most - 1, most, most + 1, math.MaxInt} {
			for _, long := range []int{math.MinInt, -1, 0, 1, most, math.MaxInt} {
				if from >= 0 && from < most && long >= 1 {
					continue
				}
				if at, e := Next(c, from, long); at != 0 || e != api.ErrArg {
					t.Error(from, long, at, e)
				}
			}
		}
	}
}

// P8.2, P8.4: Free, At and Next of each short calendar, at the end of time, held against the moments one by one; so the span from Next on is free, and no earlier one is.
func TestAskEach(t *testing.T) {
	const n, low = 5, most - 5
	for _, short := range short(n) {
		c := late(short, n)
		who := owners(c, low, most)
		isFree := func(from, long int) bool {
			return from+long <= n && !slices.ContainsFunc(who[from:from+long], func(who int) bool { return who != 0 })
		}
		for from := range n {
			wantE := api.OK
			if who[from] == 0 {
				wantE = api.ErrNone
			}
			if got, e := At(c, low+from); got != who[from] || e != wantE {
				t.Error("At", c, from, got, e)
			}
			for long := 1; long <= n+1; long++ {
				if from+long <= n {
					if is, e := Free(c, span(low+from, low+from+long)); is != isFree(from, long) || e != api.OK {
						t.Error("Free", c, from, long, is, e)
					}
				}
				want, wantE := 0, api.ErrNone
				for at := n - 1; at >= from; at-- {
					if isFree(at, long) {
						want, wantE = low+at, api.OK
					}
				}
				if at, e := Next(c, low+from, long); at != want || e != wantE {
					t.Error("Next", c, from, long, at, e)
				}
			}
		}
	}
}

// P8.4: long calendars by chance: what is put is its owner's alone; the span from Next on is free, and no earlier one is.
func TestLong(t *testing.T) {
	r := rand.New(rand.NewSource(8))
	for range 30 {
		var c []api.Slot
		at := r.Intn(3)
		for range r.Intn(60) {
			to := at + 1 + r.Intn(4)
			c = append(c, slot(at, to, 1+r.Intn(4)))
			at = to + r.Intn(5)
		}
		for range 60 {
			from, long := r.Intn(at+3), 1+r.Intn(6)
			next, e := Next(c, from, long)
			if is, _ := Free(c, span(next, next+long)); e != api.OK || !is || next < from {
				t.Fatal("Next", c, from, long, next, e)
			}
			for m := from; m < next; m++ {
				if is, _ := Free(c, span(m, m+long)); is {
					t.Fatal("an earlier one", c, from, long, next, m)
				}
			}
			got, e := Put(c, slot(next, next+long, 5))
			if e != api.OK || Check(got) != api.OK {
				t.Fatal("Put", c, got, e)
			}
			for m := range at + 10 {
				who, _ := At(got, m)
				want, _ := At(c, m)
				if m >= next && m < next+long {
					want = 5
				}
				if who != want {
					t.Fatal("something else turns", c, got, m, who, want)
				}
			}
			back, e := Take(got, 5)
			same(t, "taken again", back, c, e, api.OK)
		}
	}
}

// P8.3: what is handed in is only read, its spare room neither, and what is answered is new memory.
func TestMemory(t *testing.T) {
	mark := slot(77, 78, 77)
	good := []api.Slot{slot(1, 3, 7), slot(5, 9, 8), slot(9, 12, 7)}
	for _, n := range []int{0, 1, 2, 3} {
		room := append(slices.Clone(good[:n]), mark, mark, mark)
		was := slices.Clone(room)
		c := room[:n]
		calls := []func() ([]api.Slot, api.Errno){
			func() ([]api.Slot, api.Errno) { return Put(c, slot(0, 1, 9)) },
			func() ([]api.Slot, api.Errno) { return Put(c, slot(3, 5, 9)) },
			func() ([]api.Slot, api.Errno) { return Put(c, slot(20, 21, 9)) },
			func() ([]api.Slot, api.Errno) { return Take(c, 7) },
			func() ([]api.Slot, api.Errno) { return Take(c, 9) },
			func() ([]api.Slot, api.Errno) { return Cut(c, 7, 2) },
			func() ([]api.Slot, api.Errno) { return Cut(c, 7, most) },
			func() ([]api.Slot, api.Errno) { return Cut(c, 9, 0) },
		}
		for i, call := range calls {
			got, e := call()
			again, _ := call()
			first := slices.Clone(got)
			got = got[:cap(got)]
			for k := range got {
				got[k] = slot(0, 0, -5)
			}
			if e != api.OK || !slices.Equal(room, was) || !slices.Equal(again, first) {
				t.Error(n, i, e, room, again, first)
			}
		}
		Check(c)
		Free(c, span(0, 20))
		At(c, 6)
		Next(c, 0, 4)
		Put(c, slot(0, 20, 9))
		if !slices.Equal(room, was) {
			t.Error("only read", n, room)
		}
	}
}

// The chapter's examples.
func TestExamples(t *testing.T) {
	c := []api.Slot{slot(1, 3, 7), slot(5, 9, 8)}
	got, e := Put(c, slot(3, 5, 9))
	same(t, "Put", got, []api.Slot{slot(1, 3, 7), slot(3, 5, 9), slot(5, 9, 8)}, e, api.OK)
	got, e = Put(c, slot(4, 6, 9))
	same(t, "Put", got, nil, e, api.ErrTaken)
	for _, x := range [][3]int{{0, 1, 0}, {0, 2, 3}, {2, 3, 9}} {
		if at, e := Next(c, x[0], x[1]); at != x[2] || e != api.OK {
			t.Error("Next", x, at, e)
		}
	}
	if who, e := At(c, 2); who != 7 || e != api.OK {
		t.Error("At", who, e)
	}
	if who, e := At(c, 3); who != 0 || e != api.ErrNone {
		t.Error("At", who, e)
	}
	got, e = Cut(c, 8, 6)
	same(t, "Cut", got, []api.Slot{slot(1, 3, 7), slot(5, 6, 8)}, e, api.OK)
	got, e = Cut(c, 8, 5)
	same(t, "Cut", got, []api.Slot{slot(1, 3, 7)}, e, api.OK)
	got, e = Take(c, 7)
	same(t, "Take", got, []api.Slot{slot(5, 9, 8)}, e, api.OK)
}

// The limits and the errors' numbers, as the chapter tells them.
func TestNumbers(t *testing.T) {
	if api.MaxSlots != 4096 || api.MaxTime != 1<<40 || api.ErrArg != 2 || api.ErrMany != 4 || api.ErrNone != 6 || api.ErrBad != 8 || api.ErrTaken != 80 {
		t.Error(api.MaxSlots, api.ErrTaken)
	}
}

// What stays is told of things of any kind.
func TestKeep(t *testing.T) {
	halves := keep([]int{1, 2, 3, 4}, func(n int) (int, bool) { return n / 2, n%2 == 0 })
	if !slices.Equal(halves, []int{1, 2}) {
		t.Error(halves)
	}
	words := keep([]string{"a", "", "b"}, func(s string) (string, bool) { return s + s, s != "" })
	if !slices.Equal(words, []string{"aa", "bb"}) {
		t.Error(words)
	}
}
