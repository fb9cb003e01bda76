package pos

import (
	"math"
	"testing"

	"tidehall/api"
)

// wild are numbers that are no dimension, and that overflow where they are multiplied or added without care.
var wild = []int{math.MinInt, math.MinInt + 1, -1 << 32, -16, -1, 0, 17, 18, 1 << 32, math.MaxInt - 1, math.MaxInt}

// few are dimensions of all kinds that are small enough to try each pair, or three, of their midplanes.
var few = []api.Dims{{1, 1, 1}, {2, 1, 1}, {1, 2, 1}, {1, 1, 2}, {3, 2, 1}, {4, 3, 2}, {2, 3, 4}, {1, 5, 3}, {5, 1, 4}, {2, 2, 2}, {3, 3, 3}, {16, 1, 1}, {1, 16, 2}, {1, 2, 16}}

// everyDims calls f with all dimensions that may be.
func everyDims(f func(d api.Dims)) {
	for x := 1; x <= 16; x++ {
		for y := 1; y <= 16; y++ {
			for z := 1; z <= 16; z++ {
				f(api.Dims{x, y, z})
			}
		}
	}
}

// badDims are dimensions of which one, two or all three may not be.
func badDims() []api.Dims {
	var l []api.Dims
	for _, n := range wild {
		for _, good := range []int{1, 4, 16} {
			l = append(l, api.Dims{n, good, good}, api.Dims{good, n, good}, api.Dims{good, good, n},
				api.Dims{n, n, good}, api.Dims{n, good, n}, api.Dims{good, n, n}, api.Dims{n, n, n})
		}
	}
	// Their product is one that would do.
	return append(l, api.Dims{-1, -1, 4}, api.Dims{32, 1, 1}, api.Dims{1, 1, 4096}, api.Dims{1 << 32, 1 << 32, 1})
}

// outside are numbers that are not from 0 to below n.
func outside(n int) []int {
	return []int{math.MinInt, math.MinInt + 1, -1 << 32, -n - 1, -n, -1, n, n + 1, 2 * n, 1 << 32, math.MaxInt - 1, math.MaxInt}
}

func mustStep(t *testing.T, d api.Dims, m, axis, by int) int {
	t.Helper()
	n, e := Step(d, m, axis, by)
	if e != api.OK {
		t.Fatal("Step", d, m, axis, by, e)
	}
	return n
}

func mustFar(t *testing.T, d api.Dims, a, b int) int {
	t.Helper()
	n, e := Far(d, a, b)
	if e != api.OK {
		t.Fatal("Far", d, a, b, e)
	}
	return n
}

// P1.1: Check and Many of all dimensions that may be.
func TestCheckAndMany(t *testing.T) {
	everyDims(func(d api.Dims) {
		if e := Check(d); e != api.OK {
			t.Error("Check", d, e)
		}
		if n, e := Many(d); n != d[0]*d[1]*d[2] || e != api.OK {
			t.Error("Many", d, n, e)
		}
	})
	if n, _ := Many(api.Dims{16, 16, 16}); n != api.MaxNodes {
		t.Error("the greatest machine", n)
	}
}

// P1.1, P1.2: dimensions that may not be are told by all calls, ahead of whatever else is wrong.
func TestBadDims(t *testing.T) {
	for _, d := range badDims() {
		if e := Check(d); e != api.ErrBad {
			t.Error("Check", d, e)
		}
		if n, e := Many(d); n != 0 || e != api.ErrBad {
			t.Error("Many", d, n, e)
		}
		for _, k := range []int{0, 1, -1, 5, math.MaxInt, math.MinInt} {
			if m, e := At(d, [3]int{k, k, k}); m != 0 || e != api.ErrBad {
				t.Error("At", d, k, m, e)
			}
			if p, e := Of(d, k); p != [3]int{} || e != api.ErrBad {
				t.Error("Of", d, k, p, e)
			}
			if m, e := Step(d, k, k, k); m != 0 || e != api.ErrBad {
				t.Error("Step", d, k, m, e)
			}
			if n, e := Far(d, k, -k); n != 0 || e != api.ErrBad {
				t.Error("Far", d, k, n, e)
			}
		}
	}
}

// P1.1, P1.3: midplanes are numbered by x first, then y, then z; At and Of are each other's way back.
func TestAtAndOf(t *testing.T) {
	everyDims(func(d api.Dims) {
		m := 0
		for z := range d[2] {
			for y := range d[1] {
				for x := range d[0] {
					p := [3]int{x, y, z}
					if n, e := At(d, p); n != m || e != api.OK {
						t.Fatal("At", d, p, n, e)
					}
					if q, e := Of(d, m); q != p || e != api.OK {
						t.Fatal("Of", d, m, q, e)
					}
					m++
				}
			}
		}
	})
}

// P1.1: coordinates outside, along each axis and along all.
func TestAtOutside(t *testing.T) {
	for _, d := range append(few, api.Dims{16, 16, 16}) {
		for axis := range 3 {
			for _, k := range outside(d[axis]) {
				first, last, all := [3]int{}, [3]int{d[0] - 1, d[1] - 1, d[2] - 1}, [3]int{k, k, k}
				first[axis], last[axis] = k, k
				for _, p := range [][3]int{first, last, all} {
					if m, e := At(d, p); m != 0 || e != api.ErrArg {
						t.Error("At", d, p, m, e)
					}
				}
			}
		}
	}
}

// P1.1, P1.2: numbers that are no midplane, in each argument that wants one.
func TestNoMidplane(t *testing.T) {
	for _, d := range append(few, api.Dims{16, 16, 16}) {
		n := d[0] * d[1] * d[2]
		for _, m := range outside(n) {
			if p, e := Of(d, m); p != [3]int{} || e != api.ErrArg {
				t.Error("Of", d, m, p, e)
			}
			for axis := -1; axis <= 3; axis++ {
				if k, e := Step(d, m, axis, 1); k != 0 || e != api.ErrArg {
					t.Error("Step", d, m, axis, k, e)
				}
			}
			for _, k := range []int{0, n - 1, m} {
				if far, e := Far(d, m, k); far != 0 || e != api.ErrArg {
					t.Error("Far", d, m, k, far, e)
				}
				if far, e := Far(d, k, m); far != 0 || e != api.ErrArg {
					t.Error("Far", d, k, m, far, e)
				}
			}
		}
	}
}

// P1.2: axes outside, whatever the steps.
func TestNoAxis(t *testing.T) {
	for _, d := range few {
		for _, axis := range outside(3) {
			for _, by := range []int{0, 1, -1, math.MinInt} {
				for _, m := range []int{0, d[0]*d[1]*d[2] - 1} {
					if k, e := Step(d, m, axis, by); k != 0 || e != api.ErrArg {
						t.Error("Step", d, m, axis, by, k, e)
					}
				}
			}
		}
	}
}

// P1.2: one step on or back, held against the coordinates, from each midplane along each axis.
func TestOneStep(t *testing.T) {
	for _, d := range few {
		for m := range d[0] * d[1] * d[2] {
			for axis := range 3 {
				p, _ := Of(d, m)
				p[axis]++
				if p[axis] == d[axis] {
					p[axis] = 0
				}
				on, _ := At(d, p)
				if k := mustStep(t, d, m, axis, 1); k != on {
					t.Error("on", d, m, axis, k, on)
				}
				if k := mustStep(t, d, on, axis, -1); k != m {
					t.Error("back", d, on, axis, k, m)
				}
				if k := mustStep(t, d, m, axis, 0); k != m {
					t.Error("none", d, m, axis, k)
				}
			}
		}
	}
}

// P1.2: many steps are as many single ones.
func TestStepsOneByOne(t *testing.T) {
	for _, d := range few {
		for axis := range 3 {
			on, back := 0, 0
			for by := range 3*d[axis] + 2 {
				if k := mustStep(t, d, 0, axis, by); k != on {
					t.Error("on", d, axis, by, k, on)
				}
				if k := mustStep(t, d, 0, axis, -by); k != back {
					t.Error("back", d, axis, by, k, back)
				}
				on, back = mustStep(t, d, on, axis, 1), mustStep(t, d, back, axis, -1)
			}
		}
	}
}

// P1.2: as many steps as a number holds, from the first and the last midplane of each size.
func TestStepsFar(t *testing.T) {
	for size := 1; size <= 16; size++ {
		for axis := range 3 {
			d := api.Dims{1, 1, 1}
			d[axis] = size
			for _, m := range []int{0, size - 1} {
				for _, by := range []int{math.MaxInt, math.MaxInt - 1, math.MinInt, math.MinInt + 1, 1 << 40, -1 << 40} {
					// Each part is less than a size, so that the sum holds.
					want := ((m+by%size)%size + size) % size
					if k := mustStep(t, d, m, axis, by); k != want {
						t.Error(d, m, axis, by, k, want)
					}
				}
			}
		}
	}
	// 2^63 - 1 is 1 more than a multiple of 3, and -2^63 is 1 more than one of 3 (each told by hand).
	d := api.Dims{4, 3, 2}
	if k := mustStep(t, d, 0, 1, math.MaxInt); k != 4 {
		t.Error("far on", k)
	}
	if k := mustStep(t, d, 0, 1, math.MinInt); k != 4 {
		t.Error("far back", k)
	}
}

// P1.3: steps on and as many back lead home, as many as the dimension too, and steps one after another are their sum.
func TestStepsHome(t *testing.T) {
	some := []int{-1 << 61, -1000, -17, -16, -5, -1, 0, 1, 2, 7, 15, 16, 17, 999, 1 << 61}
	for _, d := range few {
		for m := range d[0] * d[1] * d[2] {
			for axis := range 3 {
				for _, round := range []int{d[axis], -d[axis], 1000 * d[axis]} {
					if k := mustStep(t, d, m, axis, round); k != m {
						t.Error("round", d, m, axis, round, k)
					}
				}
				for _, by := range some {
					on := mustStep(t, d, m, axis, by)
					if k := mustStep(t, d, on, axis, -by); k != m {
						t.Error("home", d, m, axis, by, k)
					}
					for _, more := range some {
						if k, sum := mustStep(t, d, on, axis, more), mustStep(t, d, m, axis, by+more); k != sum {
							t.Error("sum", d, m, axis, by, more, k, sum)
						}
					}
				}
			}
		}
	}
}

// fewest are the fewest single steps from a midplane to each, found by going on from all that were reached.
func fewest(t *testing.T, d api.Dims, from int) []int {
	far := make([]int, d[0]*d[1]*d[2])
	for m := range far {
		far[m] = -1
	}
	far[from] = 0
	for reached := []int{from}; len(reached) > 0; reached = reached[1:] {
		m := reached[0]
		for axis := range 3 {
			for _, by := range []int{1, -1} {
				if k := mustStep(t, d, m, axis, by); far[k] < 0 {
					far[k] = far[m] + 1
					reached = append(reached, k)
				}
			}
		}
	}
	return far
}

// P1.2: Far is the fewest steps, on or back, along all axes.
func TestFarIsFewest(t *testing.T) {
	for _, d := range append(few, api.Dims{5, 6, 7}) {
		for a := range d[0] * d[1] * d[2] {
			for b, want := range fewest(t, d, a) {
				if far := mustFar(t, d, a, b); far != want {
					t.Error(d, a, b, far, want)
				}
			}
		}
	}
	d := api.Dims{16, 16, 16}
	for _, a := range []int{0, 2047, 4095} {
		for b, want := range fewest(t, d, a) {
			if far := mustFar(t, d, a, b); far != want {
				t.Error(d, a, b, far, want)
			}
		}
	}
}

// P1.3: Far is the same both ways, 0 just from one to itself, and no farther than by way of a third one.
func TestFarIsADistance(t *testing.T) {
	for _, d := range few {
		n := d[0] * d[1] * d[2]
		for a := range n {
			for b := range n {
				far := mustFar(t, d, a, b)
				if back := mustFar(t, d, b, a); back != far {
					t.Error("both ways", d, a, b, far, back)
				}
				if (far == 0) != (a == b) {
					t.Error("by 0", d, a, b, far)
				}
				for c := range n {
					if by := mustFar(t, d, a, c) + mustFar(t, d, c, b); far > by {
						t.Error("by way of", d, a, b, c, far, by)
					}
				}
			}
		}
	}
}

// The chapter's examples.
func TestExamples(t *testing.T) {
	d := api.Dims{4, 3, 2}
	if n, e := Many(d); n != 24 || e != api.OK {
		t.Error("Many", n, e)
	}
	if m, e := At(d, [3]int{1, 2, 1}); m != 21 || e != api.OK {
		t.Error("At", m, e)
	}
	if p, e := Of(d, 23); p != [3]int{3, 2, 1} || e != api.OK {
		t.Error("Of", p, e)
	}
	for _, c := range []struct{ m, axis, by, want int }{{0, 0, -1, 3}, {21, 1, 1, 13}} {
		if m, e := Step(d, c.m, c.axis, c.by); m != c.want || e != api.OK {
			t.Error("Step", c, m, e)
		}
	}
	for _, c := range []struct{ a, b, want int }{{0, 3, 1}, {0, 23, 3}} {
		if far, e := Far(d, c.a, c.b); far != c.want || e != api.OK {
			t.Error("Far", c, far, e)
		}
	}
}

// Axes may be left early, as each range over a function has to bear.
func TestAxesLeftEarly(t *testing.T) {
	for stop := range 3 {
		var got []int
		for axis, stride := range axes(api.Dims{4, 3, 2}) {
			got = append(got, stride)
			if axis == stop {
				break
			}
		}
		if len(got) != stop+1 || got[stop] != []int{1, 4, 12}[stop] {
			t.Error(stop, got)
		}
	}
}

// What is least is told of any kind that has an order.
func TestLeast(t *testing.T) {
	if least(2, 3) != 2 || least(3, 2) != 2 || least(-1, -1) != -1 || least("b", "a") != "a" {
		t.Error("least")
	}
}
