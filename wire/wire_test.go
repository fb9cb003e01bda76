package wire

import (
	"math"
	"slices"
	"testing"

	"tidehall/api"
)

// wild are numbers that are no dimension, some of which are one if their high bits are lost.
var wild = []int{math.MinInt, math.MinInt + 1, -1 << 32, -17, -16, -1, 0, 17, 18, 32, 1 << 32, 1<<32 + 1, math.MaxInt - 1, math.MaxInt}

// few are dimensions of all kinds that are small enough to try each run.
var few = []api.Dims{{1, 1, 1}, {2, 1, 1}, {1, 2, 1}, {1, 1, 2}, {2, 2, 1}, {2, 2, 2}, {3, 1, 2}, {4, 3, 1}, {4, 3, 2}, {2, 3, 4}, {3, 4, 2}, {1, 5, 3}, {5, 1, 4}, {3, 3, 3}, {16, 1, 1}, {1, 16, 1}, {1, 1, 16}, {16, 2, 1}, {1, 16, 2}, {2, 1, 16}, {15, 16, 2}, {2, 16, 15}}

// everyDims calls f with all dimensions that may be.
func everyDims(f func(d api.Dims)) {
	for n := range 16 * 16 * 16 {
		f(api.Dims{1 + n%16, 1 + n/16%16, 1 + n/256})
	}
}

// badDims are dimensions of which one, two or all three may not be.
func badDims() []api.Dims {
	l := []api.Dims{{}, {-1, -1, 4}, {32, 1, 1}, {1, 1, 4096}, {1 << 32, 1 << 32, 1}}
	for _, n := range wild {
		for _, good := range []int{1, 4, 16} {
			l = append(l, api.Dims{n, good, good}, api.Dims{good, n, good}, api.Dims{good, good, n},
				api.Dims{n, n, good}, api.Dims{n, good, n}, api.Dims{good, n, n}, api.Dims{n, n, n})
		}
	}
	return l
}

// outside are numbers that are not from 0 to below n.
func outside(n int) []int {
	return []int{math.MinInt, math.MinInt + 1, -1 << 32, -n - 1, -n, -1, n, n + 1, 2 * n, 1 << 32, 1<<32 + n - 1, math.MaxInt - 1, math.MaxInt}
}

// outsideRun are numbers that are not from 1 to n.
func outsideRun(n int) []int {
	return []int{math.MinInt, math.MinInt + 1, -1 << 32, -n, -1, 0, n + 1, n + 2, 2 * n, 2*n + 1, 1 << 32, 1<<32 + 1, math.MaxInt - 1, math.MaxInt}
}

// many is how many midplanes there are.
func many(d api.Dims) int {
	return d[0] * d[1] * d[2]
}

// next is the midplane that comes behind one, by coordinates.
func next(d api.Dims, axis, m int) int {
	p := [3]int{m % d[0], m / d[0] % d[1], m / d[0] / d[1]}
	p[axis]++
	if p[axis] == d[axis] {
		p[axis] = 0
	}
	return p[0] + d[0]*(p[1]+d[1]*p[2])
}

// nodesByWords are so many midplanes of the line through one, from it on.
func nodesByWords(d api.Dims, axis, m, long int) []int {
	l := []int{m}
	for len(l) < long {
		l = append(l, next(d, axis, l[len(l)-1]))
	}
	return l
}

// lineByWords are the cables of a line: those that go from its midplanes, if there are any.
func lineByWords(d api.Dims, axis, m int) []int {
	l := []int{}
	if d[axis] == 1 {
		return l
	}
	for _, from := range nodesByWords(d, axis, m, d[axis]) {
		l = append(l, axis*many(d)+from)
	}
	slices.Sort(l)
	return l
}

// runByWords are the cables that a run takes: none of one midplane; of a torus the line's; of a mesh those between its midplanes, which go from all but the last one.
func runByWords(d api.Dims, axis, m, long int, torus bool) []int {
	l := []int{}
	if long == 1 {
		return l
	}
	if torus {
		return lineByWords(d, axis, m)
	}
	nodes := nodesByWords(d, axis, m, long)
	for _, from := range nodes[:len(nodes)-1] {
		l = append(l, axis*many(d)+from)
	}
	slices.Sort(l)
	return l
}

// everyRun calls f with all runs, as a mesh and as a torus.
func everyRun(d api.Dims, f func(axis, m, long int, torus bool)) {
	for axis := range 3 {
		for m := range many(d) {
			for long := 1; long <= d[axis]; long++ {
				f(axis, m, long, false)
				f(axis, m, long, true)
			}
		}
	}
}

func mustLine(t *testing.T, d api.Dims, axis, m int) []int {
	t.Helper()
	l, e := Line(d, axis, m)
	if e != api.OK {
		t.Fatal("Line", d, axis, m, e)
	}
	return l
}

func mustRun(t *testing.T, d api.Dims, axis, m, long int, torus bool) []int {
	t.Helper()
	l, e := Run(d, axis, m, long, torus)
	if e != api.OK {
		t.Fatal("Run", d, axis, m, long, torus, e)
	}
	return l
}

// P5.1 and the first of P5.4: all cables of all dimensions, the first and the last ones among them, and all numbers that are nobody's.
func TestLinkAndEndsAreByWords(t *testing.T) {
	everyDims(func(d api.Dims) {
		n := many(d)
		if got, e := Many(d); got != 3*n || e != api.OK {
			t.Fatal("Many", d, got, e)
		}
		for link := range 3 * n {
			axis, m := link/n, link%n
			got, e := Link(d, axis, m)
			a, from, to, f := Ends(d, link)
			if d[axis] == 1 {
				if got != 0 || e != api.ErrNone {
					t.Fatal("Link of none", d, axis, m, got, e)
				}
				if a != 0 || from != 0 || to != 0 || f != api.ErrNone {
					t.Fatal("Ends of none", d, link, a, from, to, f)
				}
				continue
			}
			if got != link || e != api.OK {
				t.Fatal("Link", d, axis, m, got, e)
			}
			if a != axis || from != m || to != next(d, axis, m) || f != api.OK {
				t.Fatal("Ends", d, link, a, from, to, f)
			}
		}
	})
}

// P5.1: along a dimension of 2 two cables go between the same midplanes, one on and one round.
func TestLinksOfTwo(t *testing.T) {
	for axis, d := range []api.Dims{{2, 1, 1}, {1, 2, 1}, {1, 1, 2}} {
		for m := range 2 {
			if link, e := Link(d, axis, m); link != 2*axis+m || e != api.OK {
				t.Error("Link", d, axis, m, link, e)
			}
			if a, from, to, e := Ends(d, 2*axis+m); a != axis || from != m || to != 1-m || e != api.OK {
				t.Error("Ends", d, axis, m, a, from, to, e)
			}
		}
	}
}

// P5.1: the first and the last midplane and cable, written out.
func TestFirstAndLast(t *testing.T) {
	for _, c := range []struct {
		d                 api.Dims
		axis, m, link, to int
	}{
		{api.Dims{4, 3, 2}, 0, 0, 0, 1},
		{api.Dims{4, 3, 2}, 0, 23, 23, 20},
		{api.Dims{4, 3, 2}, 1, 0, 24, 4},
		{api.Dims{4, 3, 2}, 1, 23, 47, 15},
		{api.Dims{4, 3, 2}, 2, 0, 48, 12},
		{api.Dims{4, 3, 2}, 2, 23, 71, 11},
		{api.Dims{16, 16, 16}, 0, 0, 0, 1},
		{api.Dims{16, 16, 16}, 0, 4095, 4095, 4080},
		{api.Dims{16, 16, 16}, 1, 4095, 8191, 3855},
		{api.Dims{16, 16, 16}, 2, 0, 8192, 256},
		{api.Dims{16, 16, 16}, 2, 4095, 12287, 255},
	} {
		if link, e := Link(c.d, c.axis, c.m); link != c.link || e != api.OK {
			t.Error("Link", c, link, e)
		}
		if a, from, to, e := Ends(c.d, c.link); a != c.axis || from != c.m || to != c.to || e != api.OK {
			t.Error("Ends", c, a, from, to, e)
		}
	}
}

// P5.2: all lines and runs, rising.
func TestRunIsByWords(t *testing.T) {
	for _, d := range few {
		for axis := range 3 {
			for m := range many(d) {
				if l, e := Line(d, axis, m); !slices.Equal(l, lineByWords(d, axis, m)) || e != api.OK {
					t.Error("Line", d, axis, m, l, e)
				}
			}
		}
		everyRun(d, func(axis, m, long int, torus bool) {
			want := runByWords(d, axis, m, long, torus)
			if l, e := Run(d, axis, m, long, torus); !slices.Equal(l, want) || e != api.OK {
				t.Error("Run", d, axis, m, long, torus, l, e, want)
			}
		})
	}
}

// P5.2: the greatest dimensions, some runs of each line.
func TestRunIsByWordsOfTheGreatest(t *testing.T) {
	d := api.Dims{16, 16, 16}
	for axis := range 3 {
		for m := range many(d) {
			if l, e := Line(d, axis, m); !slices.Equal(l, lineByWords(d, axis, m)) || e != api.OK {
				t.Error("Line", axis, m, l, e)
			}
			for _, long := range []int{1, 2, 9, 15, 16} {
				for _, torus := range []bool{false, true} {
					want := runByWords(d, axis, m, long, torus)
					if l, e := Run(d, axis, m, long, torus); !slices.Equal(l, want) || e != api.OK {
						t.Error("Run", axis, m, long, torus, l, e, want)
					}
				}
			}
		}
	}
}

// P5.2: runs of one midplane, of two and of all of a line, and past its end, written out.
func TestRunInFull(t *testing.T) {
	d := api.Dims{4, 3, 2}
	for _, c := range []struct {
		axis, m, long int
		torus         bool
		want          []int
	}{
		{0, 0, 1, false, nil}, {0, 0, 1, true, nil},
		{0, 4, 2, false, []int{4}}, {0, 4, 2, true, []int{4, 5, 6, 7}},
		{0, 7, 2, false, []int{7}}, {0, 7, 3, false, []int{4, 7}}, {0, 6, 4, false, []int{4, 6, 7}},
		{0, 4, 4, false, []int{4, 5, 6}}, {0, 6, 4, true, []int{4, 5, 6, 7}},
		{1, 14, 1, true, nil}, {1, 14, 2, false, []int{38}}, {1, 14, 3, false, []int{38, 42}},
		{1, 22, 2, false, []int{46}}, {1, 22, 3, false, []int{38, 46}}, {1, 18, 2, true, []int{38, 42, 46}},
		{2, 23, 1, false, nil}, {2, 11, 2, false, []int{59}}, {2, 23, 2, false, []int{71}}, {2, 23, 2, true, []int{59, 71}},
	} {
		if l, e := Run(d, c.axis, c.m, c.long, c.torus); !slices.Equal(l, c.want) || e != api.OK {
			t.Error(c, l, e)
		}
	}
}

// P5.2: a line along an axis whose dimension is 1 has no cable, nor has its one run, and that is no error.
func TestLineOfOne(t *testing.T) {
	for axis := range 3 {
		for _, d := range []api.Dims{{1, 1, 1}, {16, 16, 16}, {3, 2, 4}} {
			d[axis] = 1
			for _, m := range []int{0, many(d) / 2, many(d) - 1} {
				if l, e := Line(d, axis, m); len(l) != 0 || e != api.OK {
					t.Error("Line", d, axis, m, l, e)
				}
				for _, torus := range []bool{false, true} {
					if l, e := Run(d, axis, m, 1, torus); len(l) != 0 || e != api.OK {
						t.Error("Run", d, axis, m, torus, l, e)
					}
					if l, e := Run(d, axis, m, 2, torus); l != nil || e != api.ErrArg {
						t.Error("Run of two", d, axis, m, torus, l, e)
					}
				}
			}
		}
	}
}

// refused tells of each call but Many and Ends that does not answer this error alone.
func refused(t *testing.T, d api.Dims, axis, m, long int, want api.Errno) {
	t.Helper()
	if link, e := Link(d, axis, m); link != 0 || e != want {
		t.Error("Link", d, axis, m, link, e)
	}
	if l, e := Line(d, axis, m); l != nil || e != want {
		t.Error("Line", d, axis, m, l, e)
	}
	for _, torus := range []bool{false, true} {
		if l, e := Run(d, axis, m, long, torus); l != nil || e != want {
			t.Error("Run", d, axis, m, long, torus, l, e)
		}
	}
}

// All promises: dimensions that may not be are told first, whatever else is wrong, all else zero.
func TestBadDims(t *testing.T) {
	for _, d := range badDims() {
		if n, e := Many(d); n != 0 || e != api.ErrBad {
			t.Error("Many", d, n, e)
		}
		for _, link := range []int{math.MinInt, -1, 0, 1, 36, math.MaxInt} {
			if axis, from, to, e := Ends(d, link); axis != 0 || from != 0 || to != 0 || e != api.ErrBad {
				t.Error("Ends", d, link, axis, from, to, e)
			}
		}
		for _, axis := range []int{math.MinInt, -1, 0, 1, 2, 3, math.MaxInt} {
			for _, m := range []int{math.MinInt, -1, 0, 5, math.MaxInt} {
				for _, long := range []int{-1, 0, 1, 2, math.MaxInt} {
					refused(t, d, axis, m, long, api.ErrBad)
				}
			}
		}
	}
}

// P5.1, P5.2: an axis below 0 and above 2, a midplane below 0 and past the last one, also along an axis that has no cables.
func TestWrongAxisAndNode(t *testing.T) {
	for _, d := range append(few, api.Dims{16, 16, 16}) {
		for _, axis := range outside(3) {
			for _, m := range []int{-1, 0, many(d) - 1, many(d)} {
				refused(t, d, axis, m, 1, api.ErrArg)
				refused(t, d, axis, m, 0, api.ErrArg)
			}
		}
		for axis := range 3 {
			for _, m := range outside(many(d)) {
				refused(t, d, axis, m, 1, api.ErrArg)
				refused(t, d, axis, m, d[axis]+1, api.ErrArg)
			}
		}
	}
}

// P5.1: a cable's number below 0 and past the last one, whether or not the last axis has cables.
func TestWrongLink(t *testing.T) {
	for _, d := range append(few, api.Dims{16, 16, 16}) {
		for _, link := range outside(3 * many(d)) {
			if axis, from, to, e := Ends(d, link); axis != 0 || from != 0 || to != 0 || e != api.ErrArg {
				t.Error(d, link, axis, from, to, e)
			}
		}
	}
}

// P5.2: a run below 1 and longer than the dimension.
func TestWrongRun(t *testing.T) {
	for _, d := range append(few, api.Dims{16, 16, 16}) {
		for axis := range 3 {
			for _, m := range []int{0, many(d) / 2, many(d) - 1} {
				for _, long := range outsideRun(d[axis]) {
					for _, torus := range []bool{false, true} {
						if l, e := Run(d, axis, m, long, torus); l != nil || e != api.ErrArg {
							t.Error(d, axis, m, long, torus, l, e)
						}
					}
				}
			}
		}
	}
}

// spoil writes into all of a list, its spare room too.
func spoil(l []int) {
	l = l[:cap(l)]
	for i := range l {
		l[i] = -7
	}
}

// P5.3: neither what is written into an answer, nor a later call, changes another one.
func TestNewMemory(t *testing.T) {
	for _, d := range few {
		everyRun(d, func(axis, m, long int, torus bool) {
			line, run := lineByWords(d, axis, m), runByWords(d, axis, m, long, torus)
			first, same := mustLine(t, d, axis, m), mustRun(t, d, axis, m, long, torus)
			second, again := mustLine(t, d, axis, m), mustRun(t, d, axis, m, long, torus)
			spoil(first)
			if !slices.Equal(same, run) || !slices.Equal(second, line) || !slices.Equal(again, run) {
				t.Fatal("a line was written into", d, axis, m, long, torus)
			}
			spoil(same)
			if !slices.Equal(second, line) || !slices.Equal(again, run) {
				t.Fatal("a run was written into", d, axis, m, long, torus)
			}
			other := api.Dims{16, 16, 16}
			mustLine(t, other, axis, 4000)
			mustRun(t, other, axis, 4000, 16, torus)
			if !slices.Equal(second, line) || !slices.Equal(again, run) {
				t.Fatal("changed by a later call", d, axis, m, long, torus)
			}
		})
	}
}

// P5.4: Link and Ends lead back, as the calls themselves tell it, wherever there is a cable.
func TestLinkAndEndsLeadBack(t *testing.T) {
	for _, d := range append(few, api.Dims{16, 16, 16}) {
		cables := 0
		for link := range 3 * many(d) {
			axis, from, _, e := Ends(d, link)
			if e == api.ErrNone {
				continue
			}
			cables++
			if back, f := Link(d, axis, from); back != link || e != api.OK || f != api.OK {
				t.Fatal("back to the cable", d, link, back, e, f)
			}
		}
		for axis := range 3 {
			for m := range many(d) {
				link, e := Link(d, axis, m)
				if e == api.ErrNone {
					continue
				}
				cables--
				if a, from, _, f := Ends(d, link); a != axis || from != m || e != api.OK || f != api.OK {
					t.Fatal("back to the midplane", d, axis, m, a, from, e, f)
				}
			}
		}
		if cables != 0 {
			t.Error("one has more cables than the other", d, cables)
		}
	}
}

// P5.4: each cable is just one line's, and all midplanes of that one tell the same cables.
func TestLinesAreApart(t *testing.T) {
	for _, d := range append(few, api.Dims{16, 16, 16}) {
		owner := map[int]int{}
		for axis := range 3 {
			for m := range many(d) {
				// A line is named by the least of its midplanes, and its axis.
				name := 3*slices.Min(nodesByWords(d, axis, m, d[axis])) + axis
				for _, link := range mustLine(t, d, axis, m) {
					if was, ok := owner[link]; ok && was != name {
						t.Fatal("two lines have a cable", d, axis, m, link)
					}
					owner[link] = name
				}
			}
		}
		want := 0
		for _, n := range d {
			if n > 1 {
				want += many(d)
			}
		}
		if len(owner) != want {
			t.Error("cables of all lines", d, len(owner), want)
		}
	}
}

// P5.4: a mesh takes fewer cables than a torus, unless of one midplane; both take those of their own line alone.
func TestMeshTakesFewer(t *testing.T) {
	for _, d := range few {
		everyRun(d, func(axis, m, long int, torus bool) {
			line := mustLine(t, d, axis, m)
			for _, link := range mustRun(t, d, axis, m, long, torus) {
				if !slices.Contains(line, link) {
					t.Fatal("another line's cable", d, axis, m, long, torus, link)
				}
			}
			mesh, ring := len(mustRun(t, d, axis, m, long, false)), len(mustRun(t, d, axis, m, long, true))
			if fewer := mesh < ring; fewer != (long > 1) {
				t.Fatal("mesh and torus", d, axis, m, long, mesh, ring)
			}
		})
	}
}

// The chapter's examples.
func TestExamples(t *testing.T) {
	d := api.Dims{4, 3, 1}
	if n, e := Many(d); n != 36 || e != api.OK {
		t.Error("Many", n, e)
	}
	if link, e := Link(d, 1, 5); link != 17 || e != api.OK {
		t.Error("Link", link, e)
	}
	if link, e := Link(d, 2, 5); link != 0 || e != api.ErrNone {
		t.Error("Link of none", link, e)
	}
	if axis, from, to, e := Ends(d, 3); axis != 0 || from != 3 || to != 0 || e != api.OK {
		t.Error("Ends", axis, from, to, e)
	}
	if axis, from, to, e := Ends(d, 30); axis != 0 || from != 0 || to != 0 || e != api.ErrNone {
		t.Error("Ends of none", axis, from, to, e)
	}
	if l := mustRun(t, d, 0, 3, 2, false); !slices.Equal(l, []int{3}) {
		t.Error("mesh", l)
	}
	if l := mustRun(t, d, 0, 3, 2, true); !slices.Equal(l, []int{0, 1, 2, 3}) {
		t.Error("torus", l)
	}
	if l := mustRun(t, d, 0, 3, 1, true); len(l) != 0 {
		t.Error("one midplane", l)
	}
}
