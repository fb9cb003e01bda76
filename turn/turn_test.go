package turn

import (
	"math"
	"slices"
	"testing"

	"tidehall/api"
)

// wild are numbers that are no length of a shape and no dimension, some of which are one if their high bits are lost.
var wild = []int{math.MinInt, math.MinInt + 1, -1 << 32, -17, -16, -1, 0, 17, 18, 32, 1 << 32, 1<<32 + 1, math.MaxInt - 1, math.MaxInt}

// places are the six ways to put the three axes, told one by one: the first axis lies at the first number, and so on.
var places = [][3]int{{0, 1, 2}, {0, 2, 1}, {1, 0, 2}, {2, 0, 1}, {1, 2, 0}, {2, 1, 0}}

// wants is what is asked for, its tori by letters: 't' is one.
func wants(x, y, z int, torus string, turn bool) api.Wants {
	w := api.Wants{Shape: [3]int{x, y, z}, Turn: turn}
	for i := range 3 {
		w.Torus[i] = torus[i] == 't'
	}
	return w
}

// everyWants calls f with all that may be asked for, its lengths up to some number.
func everyWants(most int, f func(w api.Wants)) {
	for n := range most * most * most {
		for bits := range 16 {
			f(api.Wants{
				Shape: [3]int{1 + n%most, 1 + n/most%most, 1 + n/most/most},
				Torus: [3]bool{bits&1 != 0, bits&2 != 0, bits&4 != 0},
				Turn:  bits&8 != 0,
			})
		}
	}
}

// everyDims calls f with all dimensions up to some number.
func everyDims(most int, f func(d api.Dims)) {
	for n := range most * most * most {
		f(api.Dims{1 + n%most, 1 + n/most%most, 1 + n/most/most})
	}
}

// key is a number by which rotations rise: the lengths first, the first axis of them first, then the tori likewise.
func key(w api.Wants) int {
	k := 0
	for _, n := range w.Shape {
		k = 100*k + n
	}
	for _, is := range w.Torus {
		k *= 2
		if is {
			k++
		}
	}
	return k
}

// byWords are the rotations of what may be, told by the chapter's words.
func byWords(w api.Wants) []api.Wants {
	if !w.Turn {
		return []api.Wants{w}
	}
	var l []api.Wants
	for _, at := range places {
		r := api.Wants{Turn: true}
		for axis, to := range at {
			r.Shape[to], r.Torus[to] = w.Shape[axis], w.Torus[axis]
		}
		if !slices.Contains(l, r) {
			l = append(l, r)
		}
	}
	slices.SortFunc(l, func(a, b api.Wants) int { return key(a) - key(b) })
	return l
}

// badWants are those with one, two or three lengths that may not be, turned or not, with and without tori.
func badWants() []api.Wants {
	l := []api.Wants{{}, {Turn: true}}
	for _, n := range wild {
		for _, good := range []int{1, 4, 16} {
			for _, s := range [][3]int{{n, good, good}, {good, n, good}, {good, good, n}, {n, n, good}, {n, good, n}, {good, n, n}, {n, n, n}} {
				for _, torus := range []string{"---", "t-t", "ttt"} {
					l = append(l, wants(s[0], s[1], s[2], torus, true), wants(s[0], s[1], s[2], torus, false))
				}
			}
		}
	}
	return l
}

// badDims are dimensions of which one, two or all three may not be.
func badDims() []api.Dims {
	var l []api.Dims
	for _, w := range badWants() {
		l = append(l, api.Dims(w.Shape))
	}
	return l
}

// P4.1: all that may be asked for, of each length from 1 to 16, with all tori, turned or not.
func TestAllIsByWords(t *testing.T) {
	everyWants(16, func(w api.Wants) {
		if e := Check(w); e != api.OK {
			t.Error("Check", w, e)
		}
		want := byWords(w)
		if l, e := All(w); e != api.OK || !slices.Equal(l, want) {
			t.Errorf("All(%v) = %v, %v, want %v", w, l, e, want)
		}
	})
}

// P4.1: some written out in full, with one, two and three lengths that are the same, and the same or other tori along them.
func TestAllInFull(t *testing.T) {
	for _, c := range []struct {
		w    api.Wants
		want []api.Wants
	}{
		{wants(1, 1, 1, "---", true), []api.Wants{wants(1, 1, 1, "---", true)}},
		{wants(16, 16, 16, "ttt", true), []api.Wants{wants(16, 16, 16, "ttt", true)}},
		{wants(5, 5, 5, "t--", true), []api.Wants{wants(5, 5, 5, "--t", true), wants(5, 5, 5, "-t-", true), wants(5, 5, 5, "t--", true)}},
		{wants(5, 5, 5, "t-t", true), []api.Wants{wants(5, 5, 5, "-tt", true), wants(5, 5, 5, "t-t", true), wants(5, 5, 5, "tt-", true)}},
		{wants(16, 1, 16, "---", true), []api.Wants{wants(1, 16, 16, "---", true), wants(16, 1, 16, "---", true), wants(16, 16, 1, "---", true)}},
		{wants(16, 1, 16, "-t-", true), []api.Wants{wants(1, 16, 16, "t--", true), wants(16, 1, 16, "-t-", true), wants(16, 16, 1, "--t", true)}},
		{wants(16, 1, 16, "t-t", true), []api.Wants{wants(1, 16, 16, "-tt", true), wants(16, 1, 16, "t-t", true), wants(16, 16, 1, "tt-", true)}},
		{wants(1, 16, 1, "tt-", true), []api.Wants{
			wants(1, 1, 16, "-tt", true), wants(1, 1, 16, "t-t", true),
			wants(1, 16, 1, "-tt", true), wants(1, 16, 1, "tt-", true),
			wants(16, 1, 1, "t-t", true), wants(16, 1, 1, "tt-", true)}},
		{wants(10, 9, 2, "t--", true), []api.Wants{
			wants(2, 9, 10, "--t", true), wants(2, 10, 9, "-t-", true),
			wants(9, 2, 10, "--t", true), wants(9, 10, 2, "-t-", true),
			wants(10, 2, 9, "t--", true), wants(10, 9, 2, "t--", true)}},
		{wants(10, 9, 2, "t--", false), []api.Wants{wants(10, 9, 2, "t--", false)}},
		{wants(2, 2, 1, "t--", false), []api.Wants{wants(2, 2, 1, "t--", false)}},
		{wants(2, 2, 2, "-t-", false), []api.Wants{wants(2, 2, 2, "-t-", false)}},
	} {
		if l, e := All(c.w); e != api.OK || !slices.Equal(l, c.want) {
			t.Errorf("All(%v) = %v, %v, want %v", c.w, l, e, c.want)
		}
	}
}

// P4.1: Of holds of each rotation, and of no other size with any tori; sizes that may not be are none's.
func TestOfIsByWords(t *testing.T) {
	everyWants(3, func(w api.Wants) {
		list := byWords(w)
		for n := range 5 * 5 * 5 {
			size := [3]int{n % 5, n / 5 % 5, n / 25}
			for bits := range 8 {
				torus := [3]bool{bits&1 != 0, bits&2 != 0, bits&4 != 0}
				want := slices.Contains(list, api.Wants{Shape: size, Torus: torus, Turn: w.Turn})
				if is, e := Of(w, size, torus); is != want || e != api.OK {
					t.Errorf("Of(%v, %v, %v) = %v, %v", w, size, torus, is, e)
				}
			}
		}
	})
}

// P4.1: Of, of lengths up to the greatest.
func TestOfEachRotation(t *testing.T) {
	everyWants(16, func(w api.Wants) {
		list := byWords(w)
		for _, at := range places {
			var size [3]int
			for axis, to := range at {
				size[to] = w.Shape[axis]
			}
			for bits := range 8 {
				torus := [3]bool{bits&1 != 0, bits&2 != 0, bits&4 != 0}
				want := slices.Contains(list, api.Wants{Shape: size, Torus: torus, Turn: w.Turn})
				if is, e := Of(w, size, torus); is != want || e != api.OK {
					t.Errorf("Of(%v, %v, %v) = %v, %v", w, size, torus, is, e)
				}
			}
		}
	})
}

// P4.1: Of, of sizes below 1 and above 16, is false and no error.
func TestOfSizeBeyond(t *testing.T) {
	for _, w := range []api.Wants{wants(1, 1, 1, "---", true), wants(1, 2, 16, "t-t", true), wants(16, 16, 16, "ttt", true), wants(1, 2, 16, "t-t", false)} {
		for _, bad := range badWants() {
			for _, torus := range [][3]bool{w.Torus, bad.Torus, {}} {
				if is, e := Of(w, bad.Shape, torus); is || e != api.OK {
					t.Errorf("Of(%v, %v, %v) = %v, %v", w, bad.Shape, torus, is, e)
				}
			}
		}
	}
}

// fitsSorted tells whether any order of lengths is at most the dimensions: just if the least is at most the least, and so on.
func fitsSorted(d api.Dims, w api.Wants) bool {
	dims, shape := d, w.Shape
	if w.Turn {
		slices.Sort(dims[:])
		slices.Sort(shape[:])
	}
	return shape[0] <= dims[0] && shape[1] <= dims[1] && shape[2] <= dims[2]
}

// P4.1: Fits, of all small shapes and dimensions; tori do not count.
func TestFitsIsByWords(t *testing.T) {
	everyDims(4, func(d api.Dims) {
		everyWants(5, func(w api.Wants) {
			if is, e := Fits(d, w); is != fitsSorted(d, w) || e != api.OK {
				t.Errorf("Fits(%v, %v) = %v, %v", d, w, is, e)
			}
		})
	})
}

// P4.1: dimensions that are just met in some order, and missed by one along each axis.
func TestFitsJustMet(t *testing.T) {
	for _, s := range [][3]int{{1, 1, 1}, {1, 2, 3}, {16, 16, 16}, {1, 16, 1}, {16, 1, 15}, {7, 16, 7}, {2, 9, 16}} {
		for _, at := range places {
			var d api.Dims
			for axis, to := range at {
				d[to] = s[axis]
			}
			for _, torus := range []string{"---", "-t-", "ttt"} {
				if is, e := Fits(d, wants(s[0], s[1], s[2], torus, true)); !is || e != api.OK {
					t.Error("turned", d, s, is, e)
				}
				if is, e := Fits(d, wants(s[0], s[1], s[2], torus, false)); is != (s == [3]int(d)) || e != api.OK {
					t.Error("not turned", d, s, is, e)
				}
			}
			for axis := range d {
				less := d
				less[axis]--
				if less[axis] == 0 {
					continue
				}
				if is, e := Fits(less, wants(s[0], s[1], s[2], "t--", true)); is || e != api.OK {
					t.Error("missed", less, s, is, e)
				}
			}
		}
	}
}

// P4.1: what may not be is refused by all calls, all else zero.
func TestBadWants(t *testing.T) {
	for _, w := range badWants() {
		if e := Check(w); e != api.ErrBad {
			t.Error("Check", w, e)
		}
		if l, e := All(w); l != nil || e != api.ErrBad {
			t.Error("All", w, l, e)
		}
		for _, d := range []api.Dims{{1, 1, 1}, {4, 3, 2}, {16, 16, 16}, api.Dims(w.Shape)} {
			if is, e := Fits(d, w); is || e != api.ErrBad {
				t.Error("Fits", d, w, is, e)
			}
		}
		for _, size := range [][3]int{w.Shape, {}, {1, 1, 1}, {16, 16, 16}} {
			if is, e := Of(w, size, w.Torus); is || e != api.ErrBad {
				t.Error("Of", w, size, is, e)
			}
		}
	}
}

// P4.1: Fits is refused, unless its dimensions may be, of a shape that is small enough too.
func TestFitsBadDims(t *testing.T) {
	for _, d := range badDims() {
		for _, w := range []api.Wants{wants(1, 1, 1, "---", true), wants(1, 1, 1, "ttt", false), wants(16, 16, 16, "---", true), wants(4, 1, 16, "t--", false)} {
			if is, e := Fits(d, w); is || e != api.ErrBad {
				t.Error(d, w, is, e)
			}
		}
	}
}

// P4.2: what is answered is new memory, its spare room too: neither what is written into it nor a later call changes another answer.
func TestNewMemory(t *testing.T) {
	everyWants(3, func(w api.Wants) {
		want := byWords(w)
		first, _ := All(w)
		second, _ := All(w)
		first = first[:cap(first)]
		for i := range first {
			first[i] = api.Wants{Shape: [3]int{-7, -7, -7}}
		}
		if !slices.Equal(second, want) {
			t.Error("written into", w, second, want)
		}
		if third, _ := All(w); !slices.Equal(third, want) {
			t.Error("asked again", w, third, want)
		}
		other := wants(4, 5, 6, "t--", w.Turn)
		All(other)
		Fits(api.Dims{4, 5, 6}, other)
		Of(other, other.Shape, other.Torus)
		if !slices.Equal(second, want) {
			t.Error("changed by a later call", w, second, want)
		}
	})
}

// tori is how many axes are tori.
func tori(w api.Wants) int {
	n := 0
	for _, is := range w.Torus {
		if is {
			n++
		}
	}
	return n
}

// P4.3: 1, 3 or 6 rotations of what may be turned, of which each has the same ones, as many midplanes and as many tori.
func TestWhatFollows(t *testing.T) {
	counts := map[int]int{}
	everyWants(7, func(w api.Wants) {
		list, e := All(w)
		if e != api.OK {
			t.Fatal(w, e)
		}
		if w.Turn {
			counts[len(list)]++
		}
		if !slices.Contains(list, w) {
			t.Error("not its own rotation", w, list)
		}
		for _, r := range list {
			if r.Turn != w.Turn || tori(r) != tori(w) {
				t.Error("tori", w, r)
			}
			if r.Shape[0]*r.Shape[1]*r.Shape[2] != w.Shape[0]*w.Shape[1]*w.Shape[2] {
				t.Error("midplanes", w, r)
			}
			if again, e := All(r); e != api.OK || !slices.Equal(again, list) {
				t.Error("other rotations", w, r, again, list)
			}
		}
	})
	if len(counts) != 3 || counts[1] == 0 || counts[3] == 0 || counts[6] == 0 {
		t.Error("how many rotations there are, and how often", counts)
	}
}

// The chapter's examples.
func TestExamples(t *testing.T) {
	for _, c := range []struct {
		w     api.Wants
		many  int
		first api.Wants
	}{
		{wants(1, 2, 3, "---", true), 6, wants(1, 2, 3, "---", true)},
		{wants(2, 2, 1, "t--", true), 6, wants(1, 2, 2, "--t", true)},
		{wants(2, 2, 2, "---", true), 1, wants(2, 2, 2, "---", true)},
		{wants(1, 2, 3, "---", false), 1, wants(1, 2, 3, "---", false)},
	} {
		if l, e := All(c.w); e != api.OK || len(l) != c.many || l[0] != c.first {
			t.Error(c.w, l, e)
		}
	}
	for _, turn := range []bool{true, false} {
		if is, e := Fits(api.Dims{3, 2, 1}, wants(1, 2, 3, "---", turn)); is != turn || e != api.OK {
			t.Error(turn, is, e)
		}
	}
}
