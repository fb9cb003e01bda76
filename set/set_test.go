package set

import (
	"math"
	"math/rand"
	"slices"
	"testing"

	"tidehall/api"
)

// edges are what sets may be below: the least, those about a word's end, and the most.
var edges = []int{1, 2, 5, 63, 64, 65, 70, 127, 128, 129, 4096, 12287, 12288}

// wrongBelow is what no set may be below.
var wrongBelow = []int{0, -1, -64, 12289, 12352, math.MaxInt, math.MaxInt - 62, math.MinInt}

// byWords is the set of numbers, told by the chapter's words: bit k modulo 64 of word k / 64.
func byWords(n int, l []int) api.Set {
	is := make([]bool, n+64)
	for _, k := range l {
		is[k] = true
	}
	s := api.Set{}
	for first := 0; first < n; first += 64 {
		var w, bit uint64 = 0, 1
		for k := first; k < first+64; k++ {
			if is[k] {
				w += bit
			}
			bit *= 2
		}
		s = append(s, w)
	}
	return s
}

// upTo are the numbers from low to below high.
func upTo(low, high int) []int {
	l := []int{}
	for k := low; k < high; k++ {
		l = append(l, k)
	}
	return l
}

// lists are rising numbers below n: none, all, one alone, all but one, each second one, one word's, and some of each.
func lists(n int) [][]int {
	some := rand.New(rand.NewSource(int64(n)))
	all := [][]int{{}, {0}, {n - 1}, {n / 2}, upTo(0, n), upTo(1, n), upTo(0, n-1), upTo(0, min(n, 64)), upTo(min(n, 64), n)}
	for _, share := range []float64{0.02, 0.3, 0.5, 0.9} {
		l := []int{}
		for k := range n {
			if some.Float64() < share {
				l = append(l, k)
			}
		}
		all = append(all, l)
	}
	odd := []int{}
	for k := 1; k < n; k += 2 {
		odd = append(odd, k)
	}
	return append(all, odd)
}

// kept are the numbers of a that are in b, or that aren't.
func kept(a, b []int, in bool) []int {
	l := []int{}
	for _, k := range a {
		if _, is := slices.BinarySearch(b, k); is == in {
			l = append(l, k)
		}
	}
	return l
}

// bads are sets that may not be below n: a word too few or too many, a bit at n or beyond.
func bads(n int) []api.Set {
	w := (n + 63) / 64
	l := []api.Set{make(api.Set, w-1), make(api.Set, w+1), make(api.Set, 2*w+1), append(byWords(n, upTo(0, n)), 1)}
	if w == 1 {
		l = append(l, nil)
	}
	for k := n; k < 64*w; k++ {
		none, all := make(api.Set, w), byWords(n, upTo(0, n))
		none[w-1] |= 1 << (k % 64)
		all[w-1] |= 1 << (k % 64)
		l = append(l, none, all)
	}
	return l
}

// must is the set of numbers that may be.
func must(t *testing.T, n int, l []int) api.Set {
	t.Helper()
	s, e := Of(n, l)
	if e != api.OK {
		t.Fatal(n, e)
	}
	return s
}

// joined is a call that makes a set of two; asked is one that asks of two.
type joined func(n int, a, b api.Set) (api.Set, api.Errno)
type asked func(n int, a, b api.Set) (bool, api.Errno)

func TestOfIsByWords(t *testing.T) {
	for _, n := range edges {
		for i, l := range lists(n) {
			want := byWords(n, l)
			if s, e := Of(n, l); e != api.OK || !slices.Equal(s, want) {
				t.Errorf("Of(%d, list %d) = %x, %v, want %x", n, i, s, e, want)
			}
			turned := slices.Clone(l)
			slices.Reverse(turned)
			if s, e := Of(n, append(turned, l...)); e != api.OK || !slices.Equal(s, want) {
				t.Errorf("Of(%d, list %d, twice) = %x, %v, want %x", n, i, s, e, want)
			}
		}
		if s, e := Of(n, nil); e != api.OK || !slices.Equal(s, make(api.Set, (n+63)/64)) {
			t.Error(n, s, e)
		}
	}
}

func TestOfManyNumbers(t *testing.T) {
	for _, n := range []int{1, 64, 65, 12288} {
		l := make([]int, 65536)
		for i := range l {
			l[i] = i % n
		}
		if s, e := Of(n, l); e != api.OK || !slices.Equal(s, byWords(n, upTo(0, n))) {
			t.Error(n, e)
		}
		// One number too many is told ahead of a number that may not be.
		for _, last := range []int{0, -1, n} {
			if s, e := Of(n, append(slices.Clone(l), last)); e != api.ErrMany || s != nil {
				t.Error(n, last, s, e)
			}
			more := append([]int{last}, make([]int, 70000)...)
			if s, e := Of(n, more); e != api.ErrMany || s != nil {
				t.Error(n, last, s, e)
			}
		}
		l[65535] = n
		if s, e := Of(n, l); e != api.ErrArg || s != nil {
			t.Error(n, s, e)
		}
	}
}

func TestOfWrongNumbers(t *testing.T) {
	for _, n := range edges {
		for _, k := range []int{-1, -n, -64, n, n + 1, n + 64, 12288, math.MinInt, math.MaxInt} {
			for i, l := range [][]int{{k}, {0, k}, {k, 0}, {0, k, n - 1}} {
				if s, e := Of(n, l); e != api.ErrArg || s != nil {
					t.Errorf("Of(%d, %d in list %d) = %x, %v", n, k, i, s, e)
				}
			}
		}
	}
}

func TestCheck(t *testing.T) {
	for _, n := range edges {
		for i, l := range lists(n) {
			if e := Check(n, byWords(n, l)); e != api.OK {
				t.Error(n, i, e)
			}
		}
		for i, s := range bads(n) {
			if e := Check(n, s); e != api.ErrBad {
				t.Error(n, i, e)
			}
		}
	}
	// As many words as fit another n are wrong for this one, whichever way n is rounded.
	for n := 1; n <= 260; n++ {
		for w := range 7 {
			want := api.ErrBad
			if 64*(w-1) < n && n <= 64*w {
				want = api.OK
			}
			if e := Check(n, make(api.Set, w)); e != want {
				t.Error(n, w, e)
			}
		}
	}
}

// TestCheckEachBit asks of each single bit whether it may be.
func TestCheckEachBit(t *testing.T) {
	for n := 1; n <= 200; n++ {
		w := (n + 63) / 64
		for k := range 64 * w {
			s := make(api.Set, w)
			s[k/64] = 1 << (k % 64)
			want := api.OK
			if k >= n {
				want = api.ErrBad
			}
			if e := Check(n, s); e != want {
				t.Error(n, k, e)
			}
		}
	}
}

func TestListManyHas(t *testing.T) {
	for _, n := range edges {
		for i, l := range lists(n) {
			s := byWords(n, l)
			if got, e := List(n, s); e != api.OK || !slices.Equal(got, l) {
				t.Errorf("List(%d, set %d) = %v, %v, want %v", n, i, got, e, l)
			}
			if got, e := Many(n, s); e != api.OK || got != len(l) {
				t.Errorf("Many(%d, set %d) = %d, %v, want %d", n, i, got, e, len(l))
			}
			for k := range n {
				_, want := slices.BinarySearch(l, k)
				if got, e := Has(n, s, k); e != api.OK || got != want {
					t.Fatalf("Has(%d, set %d, %d) = %v, %v", n, i, k, got, e)
				}
			}
		}
	}
}

func TestHasBeyond(t *testing.T) {
	for _, n := range edges {
		full := byWords(n, upTo(0, n))
		for _, k := range []int{-1, -2, -63, -64, -65, -n, n, n + 1, n + 63, n + 64, 64 * len(full), 12288, math.MinInt, math.MaxInt} {
			if is, e := Has(n, full, k); is || e != api.OK {
				t.Error(n, k, is, e)
			}
		}
	}
}

func TestJoinsAreByLists(t *testing.T) {
	for _, n := range edges {
		all := lists(n)
		for i, a := range all {
			for j, b := range all {
				both, rest := kept(a, b, true), kept(a, b, false)
				either := slices.Sorted(slices.Values(append(kept(b, a, false), a...)))
				x, y := byWords(n, a), byWords(n, b)
				for name, c := range map[string]struct {
					do   joined
					want []int
				}{"And": {And, both}, "Or": {Or, either}, "Less": {Less, rest}} {
					if got, e := c.do(n, x, y); e != api.OK || !slices.Equal(got, byWords(n, c.want)) {
						t.Errorf("%s(%d, set %d, set %d) = %x, %v", name, n, i, j, got, e)
					}
				}
				if got, e := Meet(n, x, y); e != api.OK || got != (len(both) > 0) {
					t.Errorf("Meet(%d, set %d, set %d) = %v, %v", n, i, j, got, e)
				}
				if got, e := In(n, x, y); e != api.OK || got != (len(rest) == 0) {
					t.Errorf("In(%d, set %d, set %d) = %v, %v", n, i, j, got, e)
				}
			}
		}
	}
}

// TestSmallSetsInFull goes through all pairs of sets below five.
func TestSmallSetsInFull(t *testing.T) {
	const n = 5
	for x := uint64(0); x < 1<<n; x++ {
		for y := uint64(0); y < 1<<n; y++ {
			a, b := api.Set{x}, api.Set{y}
			for i, c := range []struct {
				do   joined
				want uint64
			}{{And, x & y}, {Or, x | y}, {Less, x - x&y}} {
				if got, e := c.do(n, a, b); e != api.OK || !slices.Equal(got, api.Set{c.want}) {
					t.Error(i, x, y, got, e)
				}
			}
			if is, e := Meet(n, a, b); e != api.OK || is != (x&y != 0) {
				t.Error(x, y, is, e)
			}
			if is, e := In(n, a, b); e != api.OK || is != (x|y == y) {
				t.Error(x, y, is, e)
			}
		}
	}
}

// wrong asks each call with one set or two, and tells of each that did not answer this error, or something beside it.
func wrong(t *testing.T, n int, a, b api.Set, want api.Errno) {
	t.Helper()
	for i, do := range []joined{And, Or, Less} {
		if s, e := do(n, a, b); e != want || s != nil {
			t.Error("joined", i, n, a, b, s, e)
		}
	}
	for i, do := range []asked{Meet, In} {
		if is, e := do(n, a, b); e != want || is {
			t.Error("asked", i, n, a, b, is, e)
		}
	}
}

// wrongAlone is wrong, of the calls with one set.
func wrongAlone(t *testing.T, n int, s api.Set, want api.Errno) {
	t.Helper()
	if e := Check(n, s); e != want {
		t.Error("Check", n, s, e)
	}
	if l, e := List(n, s); e != want || l != nil {
		t.Error("List", n, s, l, e)
	}
	if many, e := Many(n, s); e != want || many != 0 {
		t.Error("Many", n, s, many, e)
	}
	for _, k := range []int{0, 1, n - 1, n, -1, 63, 64, math.MinInt, math.MaxInt} {
		if is, e := Has(n, s, k); e != want || is {
			t.Error("Has", n, s, k, is, e)
		}
	}
}

func TestWrongBelow(t *testing.T) {
	for _, n := range wrongBelow {
		// What n may be is asked ahead of all else.
		for i, l := range [][]int{nil, {0}, {-1}, {math.MaxInt}, make([]int, 65537)} {
			if s, e := Of(n, l); e != api.ErrArg || s != nil {
				t.Error(n, i, s, e)
			}
		}
		sets := []api.Set{nil, {}, {0}, {1}, make(api.Set, 192), make(api.Set, 193)}
		for _, a := range sets {
			wrongAlone(t, n, a, api.ErrArg)
			for _, b := range sets {
				wrong(t, n, a, b, api.ErrArg)
			}
		}
	}
}

func TestWrongSets(t *testing.T) {
	for _, n := range []int{1, 5, 63, 64, 65, 128, 12288} {
		full, none := byWords(n, upTo(0, n)), byWords(n, nil)
		for _, bad := range bads(n) {
			wrongAlone(t, n, bad, api.ErrBad)
			wrong(t, n, bad, full, api.ErrBad)
			wrong(t, n, full, bad, api.ErrBad)
			wrong(t, n, bad, none, api.ErrBad)
			wrong(t, n, none, bad, api.ErrBad)
			wrong(t, n, bad, bad, api.ErrBad)
		}
	}
}

// roomy is a copy of a list with spare room behind it, and the whole of it, room too.
func roomy[E any](l []E, filler E) ([]E, []E) {
	whole := append(slices.Clone(l), filler, filler, filler)
	return whole[:len(l)], whole
}

// TestOnlyRead looks whether an argument changed, its spare room too.
func TestOnlyRead(t *testing.T) {
	const n = 130
	la, wholeList := roomy([]int{129, 3, 64, 3, 0}, 7)
	a, wholeA := roomy(byWords(n, la), 7)
	b, wholeB := roomy(byWords(n, []int{3, 65, 129}), 7)
	wantList, wantA, wantB := slices.Clone(wholeList), slices.Clone(wholeA), slices.Clone(wholeB)
	Of(n, la)
	Check(n, a)
	List(n, a)
	Many(n, a)
	Has(n, a, 3)
	for _, do := range []joined{And, Or, Less} {
		do(n, a, b)
		do(n, a, a)
	}
	for _, do := range []asked{Meet, In} {
		do(n, a, b)
		do(n, a, a)
	}
	if !slices.Equal(wholeList, wantList) || !slices.Equal(wholeA, wantA) || !slices.Equal(wholeB, wantB) {
		t.Error(wholeList, wholeA, wholeB)
	}
}

// TestNewMemory fills what was answered, room too, and looks whether anything else changed.
func TestNewMemory(t *testing.T) {
	const n = 130
	l := []int{0, 3, 64, 129}
	a, none, full := byWords(n, l), byWords(n, nil), byWords(n, upTo(0, n))
	for _, pair := range [][2]api.Set{{a, a}, {a, none}, {none, a}, {a, full}, {full, a}} {
		for i, do := range []joined{And, Or, Less} {
			first, _ := do(n, pair[0], pair[1])
			want := slices.Clone(first)
			second, _ := do(n, pair[0], pair[1])
			for k := range second[:cap(second)] {
				second[:cap(second)][k] = 99
			}
			if !slices.Equal(first, want) {
				t.Error(i, first, want)
			}
		}
	}
	if !slices.Equal(a, byWords(n, l)) || !slices.Equal(none, byWords(n, nil)) || !slices.Equal(full, byWords(n, upTo(0, n))) {
		t.Error(a, none, full)
	}
	first, _ := List(n, a)
	second, _ := List(n, a)
	second[0] = 99
	made, _ := Of(n, l)
	again, _ := Of(n, l)
	again[0] = 99
	if !slices.Equal(first, l) || !slices.Equal(made, a) {
		t.Error(first, made)
	}
}

// TestWayBack is of P3.4: List and Of are each other's way back.
func TestWayBack(t *testing.T) {
	for _, n := range edges {
		for i, l := range lists(n) {
			s := must(t, n, l)
			back, e := List(n, s)
			if e != api.OK || !slices.Equal(back, l) {
				t.Error(n, i, back, e)
			}
			if again := must(t, n, back); !slices.Equal(again, s) {
				t.Error(n, i, again, s)
			}
		}
	}
}

// TestTogether is of P3.4: what is in both and in either are together as many as both have; Less and And make up a again, and do not meet.
func TestTogether(t *testing.T) {
	for _, n := range edges {
		sets := []api.Set{}
		for _, l := range lists(n) {
			sets = append(sets, must(t, n, l))
		}
		for i, a := range sets {
			for j, b := range sets {
				both, _ := And(n, a, b)
				either, _ := Or(n, a, b)
				rest, _ := Less(n, a, b)
				sum := 0
				for _, s := range []api.Set{both, either} {
					m, e := Many(n, s)
					if e != api.OK {
						t.Error(n, i, j, e)
					}
					sum += m
				}
				ma, _ := Many(n, a)
				mb, _ := Many(n, b)
				if sum != ma+mb {
					t.Error(n, i, j, sum, ma, mb)
				}
				if up, e := Or(n, rest, both); e != api.OK || !slices.Equal(up, a) {
					t.Error(n, i, j, up, e)
				}
				if is, e := Meet(n, rest, both); e != api.OK || is {
					t.Error(n, i, j, is, e)
				}
			}
		}
	}
}

func TestExamples(t *testing.T) {
	s, e := Of(70, []int{3, 69, 3})
	if e != api.OK || !slices.Equal(s, api.Set{8, 32}) {
		t.Error(s, e)
	}
	if l, e := List(70, s); e != api.OK || !slices.Equal(l, []int{3, 69}) {
		t.Error(l, e)
	}
	if many, e := Many(70, s); e != api.OK || many != 2 {
		t.Error(many, e)
	}
	if e := Check(70, api.Set{8}); e != 8 {
		t.Error(e)
	}
	if s, e := Of(70, []int{70}); e != 2 || s != nil {
		t.Error(s, e)
	}
	if s, e := Of(70, make([]int, 65537)); e != 4 || s != nil {
		t.Error(s, e)
	}
}
