package time

import (
	"math"
	"testing"

	"tidehall/api"
)

const most = 1 << 40

// numbers are moments at all edges, and numbers that are none, the least and the greatest int among them.
var numbers = []int{
	math.MinInt, math.MinInt + 1, -most - 1, -most, -1 << 32, -5, -1,
	0, 1, 2, 3, 1 << 31, 1 << 32, most/2 - 1, most / 2, most/2 + 1, most - 2, most - 1, most,
	most + 1, most + 2, 2 * most, math.MaxInt - 1, math.MaxInt,
}

// of is a span.
func of(from, to int) api.Span {
	return api.Span{From: from, To: to}
}

// brought is a number brought within, told by the chapter's words.
func brought(n int) int {
	return min(max(n, 0), most)
}

// small are all spans that may be, of the moments from 0 to n.
func small(n int) []api.Span {
	var l []api.Span
	for from := range n {
		for to := from + 1; to <= n; to++ {
			l = append(l, of(from, to))
		}
	}
	return l
}

// late are the small spans, moved so that the last ones go to MaxTime.
func late(n int) []api.Span {
	l := small(n)
	for i := range l {
		l[i].From += most - n
		l[i].To += most - n
	}
	return l
}

// goodSpans are spans that may be: of one moment, at both ends, of all moments, and others.
func goodSpans() []api.Span {
	return []api.Span{of(0, 1), of(1, 2), of(0, most), of(1, most), of(0, most-1), of(most-1, most), of(most-2, most-1), of(3, 9), of(1<<31, 1<<32), of(1, most-1)}
}

// badSpans are spans that may not be: empty, turned round, that begin below 0, or go past MaxTime.
func badSpans() []api.Span {
	return []api.Span{
		{}, of(1, 1), of(3, 3), of(most-1, most-1), of(most, most), of(most+1, most+1), of(-1, -1),
		of(1, 0), of(4, 3), of(9, 1), of(most, 0), of(most, most-1), of(math.MaxInt, math.MinInt), of(math.MaxInt, 0), of(0, math.MinInt),
		of(-1, 0), of(-1, 1), of(-1, 3), of(-1, most), of(-9, -1), of(math.MinInt, 1), of(math.MinInt, most), of(math.MinInt, -1), of(math.MinInt, math.MinInt+1),
		of(0, most+1), of(1, most+1), of(most-1, most+1), of(most, most+1), of(most+1, most+2), of(0, math.MaxInt), of(most, math.MaxInt), of(math.MaxInt-1, math.MaxInt),
		of(-1, most+1), of(math.MinInt, math.MaxInt),
	}
}

// P7.1: both are brought within, and then their sum, of each pair of numbers.
func TestPlus(t *testing.T) {
	for _, a := range numbers {
		for _, b := range numbers {
			want := brought(brought(a) + brought(b))
			if n := Plus(a, b); n != want {
				t.Error(a, b, n, want)
			}
		}
	}
}

// P7.1: sums told by hand, at the edges.
func TestPlusByHand(t *testing.T) {
	for _, c := range [][3]int{
		{0, 0, 0}, {0, 1, 1}, {1, 0, 1}, {1, 1, 2}, {2, 3, 5},
		{most - 1, 0, most - 1}, {most - 1, 1, most}, {most - 1, 2, most}, {most - 2, 1, most - 1},
		{most, 0, most}, {most, 1, most}, {most, most, most}, {most + 1, 0, most}, {0, most + 1, most},
		{-1, 0, 0}, {-1, 1, 1}, {-1, most, most}, {-1, most + 1, most}, {-5, 3, 3}, {-1, -1, 0},
		{math.MinInt, math.MinInt, 0}, {math.MinInt, 7, 7}, {math.MinInt, math.MaxInt, most}, {math.MaxInt, math.MaxInt, most}, {math.MaxInt, 1, most}, {math.MaxInt, -1, most},
		{most / 2, most / 2, most}, {most / 2, most/2 - 1, most - 1},
	} {
		if n := Plus(c[0], c[1]); n != c[2] {
			t.Error(c, n)
		}
		if n := Plus(c[1], c[0]); n != c[2] {
			t.Error("the other way round", c, n)
		}
	}
}

// P7.3: sums do not hang on their order, of three neither; they do not fall; and they stop at MaxTime.
func TestSums(t *testing.T) {
	for i, a := range numbers {
		for _, b := range numbers {
			sum := Plus(a, b)
			if back := Plus(b, a); back != sum {
				t.Error("order", a, b, sum, back)
			}
			if sum < brought(a) || sum < brought(b) || sum > most {
				t.Error("falls, or goes on", a, b, sum)
			}
			if i > 0 && sum < Plus(numbers[i-1], b) {
				t.Error("falls with what is added", a, b, sum)
			}
			for _, c := range numbers {
				if left, right := Plus(sum, c), Plus(a, Plus(b, c)); left != right {
					t.Error("order of three", a, b, c, left, right)
				}
			}
		}
	}
}

// P7.1: a span from each moment on, of each length.
func TestFrom(t *testing.T) {
	for _, at := range numbers {
		for _, long := range numbers {
			want, wantE := api.Span{}, api.ErrArg
			if at >= 0 && at < most && long >= 1 {
				want, wantE = of(at, brought(at+brought(long))), api.OK
			}
			s, e := From(at, long)
			if s != want || e != wantE {
				t.Error(at, long, s, e)
			}
			if e == api.OK && (Check(s) != api.OK || s.To != Plus(at, long)) {
				t.Error("no span, or not to the sum", at, long, s)
			}
		}
	}
}

// P7.1: spans told by hand, at the edges.
func TestFromByHand(t *testing.T) {
	for _, c := range []struct {
		at, long int
		want     api.Span
		e        api.Errno
	}{
		{0, 1, of(0, 1), api.OK}, {0, most - 1, of(0, most-1), api.OK}, {0, most, of(0, most), api.OK}, {0, most + 1, of(0, most), api.OK},
		{1, most - 1, of(1, most), api.OK}, {1, most, of(1, most), api.OK}, {1, math.MaxInt, of(1, most), api.OK},
		{most - 2, 1, of(most-2, most-1), api.OK}, {most - 1, 1, of(most-1, most), api.OK}, {most - 1, math.MaxInt, of(most-1, most), api.OK},
		{most, 1, api.Span{}, api.ErrArg}, {most + 1, 1, api.Span{}, api.ErrArg}, {math.MaxInt, 1, api.Span{}, api.ErrArg},
		{-1, 1, api.Span{}, api.ErrArg}, {-1, 2, api.Span{}, api.ErrArg}, {math.MinInt, math.MaxInt, api.Span{}, api.ErrArg},
		{5, 0, api.Span{}, api.ErrArg}, {5, -1, api.Span{}, api.ErrArg}, {0, 0, api.Span{}, api.ErrArg}, {5, math.MinInt, api.Span{}, api.ErrArg},
		{-1, 0, api.Span{}, api.ErrArg}, {most, 0, api.Span{}, api.ErrArg},
	} {
		if s, e := From(c.at, c.long); s != c.want || e != c.e {
			t.Error(c, s, e)
		}
	}
}

// P7.2: spans of each pair of numbers, whether they may be, and how many moments they have.
func TestCheckAndLong(t *testing.T) {
	for _, from := range numbers {
		for _, to := range numbers {
			s, long, want := of(from, to), 0, api.ErrArg
			if from >= 0 && to <= most && from < to {
				long, want = to-from, api.OK
			}
			if e := Check(s); e != want {
				t.Error("Check", s, e)
			}
			if n, e := Long(s); n != long || e != want {
				t.Error("Long", s, n, e)
			}
		}
	}
}

// P7.2: spans that may be, told by hand.
func TestGoodSpans(t *testing.T) {
	for _, s := range goodSpans() {
		if e := Check(s); e != api.OK {
			t.Error(s, e)
		}
		if again, e := From(s.From, s.To-s.From); again != s || e != api.OK {
			t.Error("from its length", s, again, e)
		}
	}
	for s, want := range map[api.Span]int{of(0, 1): 1, of(most-1, most): 1, of(0, most): most, of(1, most): most - 1, of(3, 9): 6} {
		if n, e := Long(s); n != want || e != api.OK {
			t.Error("Long", s, n, e)
		}
	}
}

// P7.2: a span that may not be is told by each call, be it the first one, the second one or both.
func TestBadSpans(t *testing.T) {
	for _, bad := range badSpans() {
		if e := Check(bad); e != api.ErrArg {
			t.Error("Check", bad, e)
		}
		if n, e := Long(bad); n != 0 || e != api.ErrArg {
			t.Error("Long", bad, n, e)
		}
		refused(t, bad, bad)
		for _, good := range goodSpans() {
			refused(t, bad, good)
			refused(t, good, bad)
		}
	}
}

// refused asks all calls of two spans, of which one may not be.
func refused(t *testing.T, a, b api.Span) {
	t.Helper()
	if is, e := Meet(a, b); is || e != api.ErrArg {
		t.Error("Meet", a, b, is, e)
	}
	if is, e := Within(a, b); is || e != api.ErrArg {
		t.Error("Within", a, b, is, e)
	}
	if s, e := Both(a, b); s != (api.Span{}) || e != api.ErrArg {
		t.Error("Both", a, b, s, e)
	}
}

// shared are the moments that two short spans have in common, found one by one: the first one, the one behind the last, and how many.
func shared(a, b api.Span) (s api.Span, many int) {
	for m := a.From; m < a.To; m++ {
		if m < b.From || m >= b.To {
			continue
		}
		if many == 0 {
			s.From = m
		}
		s.To = m + 1
		many++
	}
	return s, many
}

// P7.2: each pair of short spans, at the beginning and at the end of time, held against their moments one by one.
func TestPairs(t *testing.T) {
	for _, l := range [][]api.Span{small(7), late(7)} {
		for _, a := range l {
			for _, b := range l {
				want, many := shared(a, b)
				pair(t, a, b, many > 0, many == a.To-a.From, want)
			}
		}
	}
}

// pair asks all calls of two spans that may be.
func pair(t *testing.T, a, b api.Span, meet, in bool, both api.Span) {
	t.Helper()
	if is, e := Meet(a, b); is != meet || e != api.OK {
		t.Error("Meet", a, b, is, e)
	}
	if is, e := Within(a, b); is != in || e != api.OK {
		t.Error("Within", a, b, is, e)
	}
	want := api.OK
	if !meet {
		want = api.ErrNone
	}
	if s, e := Both(a, b); s != both || e != want {
		t.Error("Both", a, b, s, e)
	}
}

// P7.2: pairs told by hand: that touch, have one moment in common, lie in one another, are the same; long ones, and at both ends of time; either way round.
func TestPairsByHand(t *testing.T) {
	none := api.Span{}
	for _, c := range []struct {
		a, b     api.Span
		meet     bool
		in, back bool
		both     api.Span
	}{
		{of(1, 3), of(3, 4), false, false, false, none},
		{of(0, 1), of(1, 2), false, false, false, none},
		{of(0, 1), of(5, 6), false, false, false, none},
		{of(0, 1), of(most-1, most), false, false, false, none},
		{of(0, most-1), of(most-1, most), false, false, false, none},
		{of(0, most/2), of(most/2, most), false, false, false, none},
		{of(1, 4), of(3, 9), true, false, false, of(3, 4)},
		{of(0, most-1), of(most-2, most), true, false, false, of(most-2, most-1)},
		{of(1, 5), of(3, 9), true, false, false, of(3, 5)},
		{of(3, 4), of(1, 9), true, true, false, of(3, 4)},
		{of(1, 4), of(1, 9), true, true, false, of(1, 4)},
		{of(5, 9), of(1, 9), true, true, false, of(5, 9)},
		{of(0, 1), of(0, most), true, true, false, of(0, 1)},
		{of(most-1, most), of(0, most), true, true, false, of(most-1, most)},
		{of(1, most-1), of(0, most), true, true, false, of(1, most-1)},
		{of(1, 9), of(1, 9), true, true, true, of(1, 9)},
		{of(0, 1), of(0, 1), true, true, true, of(0, 1)},
		{of(0, most), of(0, most), true, true, true, of(0, most)},
		{of(most-1, most), of(most-1, most), true, true, true, of(most-1, most)},
	} {
		pair(t, c.a, c.b, c.meet, c.in, c.both)
		pair(t, c.b, c.a, c.meet, c.back, c.both)
	}
}

// P7.3: spans meet just if what they have in common is a span, which lies in both; one lies in the other just if that is it.
func TestMeetJustIfBoth(t *testing.T) {
	all := append(append(goodSpans(), small(5)...), late(5)...)
	for _, a := range all {
		for _, b := range all {
			s, e := Both(a, b)
			back, backE := Both(b, a)
			if s != back || e != backE {
				t.Error("either way round", a, b, s, e, back, backE)
			}
			if meet, _ := Meet(a, b); meet != (e == api.OK) || meet != (Check(s) == api.OK) {
				t.Error("Meet", a, b, meet, s, e)
			}
			if in, _ := Within(a, b); in != (e == api.OK && s == a) {
				t.Error("Within", a, b, in, s, e)
			}
			if e != api.OK {
				continue
			}
			for _, whole := range []api.Span{a, b} {
				if in, e := Within(s, whole); !in || e != api.OK {
					t.Error("lies in both", a, b, s, whole)
				}
			}
		}
	}
}

// The chapter's examples.
func TestExamples(t *testing.T) {
	for _, c := range [][3]int{{2, 3, 5}, {most, 1, most}, {-5, 3, 3}, {math.MaxInt, math.MaxInt, most}} {
		if n := Plus(c[0], c[1]); n != c[2] {
			t.Error("Plus", c, n)
		}
	}
	if s, e := From(5, 3); s != of(5, 8) || e != api.OK {
		t.Error("From", s, e)
	}
	if s, e := From(most, 1); s != (api.Span{}) || e != api.ErrArg {
		t.Error("From", s, e)
	}
	if s, e := From(most-1, 9); s != of(most-1, most) || e != api.OK {
		t.Error("From", s, e)
	}
	if s, e := Both(of(1, 5), of(3, 9)); s != of(3, 5) || e != api.OK {
		t.Error("Both", s, e)
	}
	if s, e := Both(of(1, 3), of(3, 4)); s != (api.Span{}) || e != api.ErrNone {
		t.Error("Both", s, e)
	}
}

// The limit and the errors' numbers, as the chapter tells them.
func TestNumbers(t *testing.T) {
	if api.MaxTime != 1<<40 || api.ErrArg != 2 || api.ErrNone != 6 {
		t.Error(api.MaxTime, api.ErrArg, api.ErrNone)
	}
}

// Numbers are brought within whatever their kind.
func TestBring(t *testing.T) {
	if bring(-1, 0, 9) != 0 || bring(0, 0, 9) != 0 || bring(5, 0, 9) != 5 || bring(9, 0, 9) != 9 || bring(10, 0, 9) != 9 || bring(4, 3, 3) != 3 {
		t.Error("int")
	}
	if bring("z", "a", "m") != "m" || bring(uint8(7), 8, 255) != 8 {
		t.Error("other kinds")
	}
}
