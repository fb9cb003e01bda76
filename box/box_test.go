package box

import (
	"math"
	"slices"
	"testing"

	"tidehall/api"
)

// few are dimensions of all kinds, of at most 64 midplanes, that are small enough to try each pair of their boxes.
var few = []api.Dims{{1, 1, 1}, {2, 1, 1}, {1, 2, 1}, {1, 1, 2}, {1, 3, 1}, {4, 3, 2}, {2, 3, 4}, {3, 4, 2}, {5, 3, 1}, {3, 1, 5}, {1, 4, 5}, {2, 2, 2}, {3, 3, 3}, {16, 1, 1}, {1, 16, 1}, {1, 1, 16}}

// at is a box.
func at(x, y, z, a, b, c int) api.Box {
	return api.Box{Base: [3]int{x, y, z}, Size: [3]int{a, b, c}}
}

// pick is x where it is asked for along an axis, and else y.
func pick(first bool, x, y int) int {
	if first {
		return x
	}
	return y
}

// allBoxes are all boxes that may be.
func allBoxes(d api.Dims) []api.Box {
	l := []api.Box{{}}
	for axis, n := range d {
		var longer []api.Box
		for _, b := range l {
			for base := range n {
				for size := 1; size <= n; size++ {
					b.Base[axis], b.Size[axis] = base, size
					longer = append(longer, b)
				}
			}
		}
		l = longer
	}
	return l
}

// byWords are a box's midplanes, told by the chapter's words: Base and so many more, round and round.
func byWords(d api.Dims, b api.Box) []int {
	l := []int{}
	for i := range b.Size[0] {
		for j := range b.Size[1] {
			for k := range b.Size[2] {
				x, y, z := (b.Base[0]+i)%d[0], (b.Base[1]+j)%d[1], (b.Base[2]+k)%d[2]
				l = append(l, x+d[0]*(y+d[1]*z))
			}
		}
	}
	slices.Sort(l)
	return l
}

// bits has the bit of each midplane, of at most 64.
func bits(nodes []int) uint64 {
	var w uint64
	for _, m := range nodes {
		w |= 1 << m
	}
	return w
}

// each has, of all boxes of dimensions, the midplanes as bits.
func each(d api.Dims) ([]api.Box, []uint64) {
	boxes := allBoxes(d)
	words := make([]uint64, len(boxes))
	for i, b := range boxes {
		words[i] = bits(byWords(d, b))
	}
	return boxes, words
}

// outside are numbers that are not from low to high.
func outside(low, high int) []int {
	return []int{math.MinInt, math.MinInt + 1, -1 << 32, -high - 1, low - 1, high + 1, 2*high + 1, 1 << 32, math.MaxInt - 1, math.MaxInt}
}

// badBoxes are boxes that may not be, by one number, by Base and Size along an axis, or by all.
func badBoxes(d api.Dims) []api.Box {
	l := []api.Box{{}}
	for axis, n := range d {
		for _, good := range []api.Box{at(0, 0, 0, 1, 1, 1), {Base: [3]int{d[0] - 1, d[1] - 1, d[2] - 1}, Size: d}} {
			for _, base := range outside(0, n-1) {
				b := good
				b.Base[axis] = base
				l = append(l, b, at(base, base, base, base, base, base))
			}
			for _, size := range outside(1, n) {
				b := good
				b.Size[axis] = size
				l = append(l, b)
				// The sum of both is one that would do.
				b.Base[axis] = n - size
				l = append(l, b)
			}
		}
	}
	return l
}

// badDims are dimensions of which one, two or all three may not be.
func badDims() []api.Dims {
	l := []api.Dims{{}, {-1, -1, 4}, {32, 1, 1}, {1, 1, 4096}}
	for _, n := range outside(1, 16) {
		l = append(l, api.Dims{n, 4, 4}, api.Dims{4, n, 4}, api.Dims{4, 4, n}, api.Dims{n, n, 4}, api.Dims{n, n, n})
	}
	return l
}

// refused asks all calls, with the bad box in each place where one is asked for, and holds what they answer against an error with all else zero.
func refused(t *testing.T, d api.Dims, bad, other api.Box, m int, want api.Errno) {
	t.Helper()
	if e := Check(d, bad); e != want {
		t.Error("Check", d, bad, e)
	}
	if b, e := Canon(d, bad); b != (api.Box{}) || e != want {
		t.Error("Canon", d, bad, b, e)
	}
	if n, e := Many(d, bad); n != 0 || e != want {
		t.Error("Many", d, bad, n, e)
	}
	if is, e := Has(d, bad, m); is || e != want {
		t.Error("Has", d, bad, m, is, e)
	}
	if l, e := Nodes(d, bad); len(l) != 0 || e != want {
		t.Error("Nodes", d, bad, l, e)
	}
	for _, c := range [][2]api.Box{{bad, other}, {other, bad}, {bad, bad}} {
		if is, e := Meet(d, c[0], c[1]); is || e != want {
			t.Error("Meet", d, c, is, e)
		}
		if is, e := Within(d, c[0], c[1]); is || e != want {
			t.Error("Within", d, c, is, e)
		}
	}
}

// All: ErrBad, unless d may be, ahead of whatever else is wrong.
func TestBadDims(t *testing.T) {
	one := at(0, 0, 0, 1, 1, 1)
	for _, d := range badDims() {
		for _, b := range []api.Box{one, {}, {Size: d}, {Base: d, Size: d}, at(-1, 0, 0, 1, 1, 1)} {
			for _, m := range []int{0, -1, 4096, math.MinInt, math.MaxInt} {
				refused(t, d, b, one, m, api.ErrBad)
			}
		}
	}
}

// All: ErrArg, unless each box may be.
func TestBadBoxes(t *testing.T) {
	for _, d := range append([]api.Dims{{16, 16, 16}, {16, 1, 7}}, few...) {
		one := at(0, 0, 0, 1, 1, 1)
		for _, b := range badBoxes(d) {
			for _, m := range []int{0, -1, math.MaxInt} {
				refused(t, d, b, one, m, api.ErrArg)
			}
			refused(t, d, b, api.Box{Size: d}, 0, api.ErrArg)
		}
	}
}

// P2.1: Has is refused, unless m is a midplane, of a box that has all of them too.
func TestHasOutside(t *testing.T) {
	for _, d := range append([]api.Dims{{16, 16, 16}}, few...) {
		n := d[0] * d[1] * d[2]
		for _, b := range []api.Box{at(0, 0, 0, 1, 1, 1), {Size: d}, {Base: [3]int{d[0] - 1, d[1] - 1, d[2] - 1}, Size: d}} {
			for _, m := range outside(0, n-1) {
				if is, e := Has(d, b, m); is || e != api.ErrArg {
					t.Error(d, b, m, is, e)
				}
			}
		}
	}
}

// P2.1: each box that may be, told by the chapter's words.
func TestEachBox(t *testing.T) {
	for _, d := range few {
		for _, b := range allBoxes(d) {
			oneBox(t, d, b)
		}
	}
}

// P2.1: boxes of the greatest machine, of one midplane, of all, along a line, in a plane, and that wrap.
func TestGreatest(t *testing.T) {
	d := api.Dims{16, 16, 16}
	for _, b := range []api.Box{
		at(0, 0, 0, 1, 1, 1), at(15, 15, 15, 1, 1, 1), at(0, 0, 0, 16, 16, 16), at(7, 15, 1, 16, 16, 16),
		at(15, 15, 15, 2, 2, 2), at(9, 3, 0, 16, 1, 1), at(9, 3, 8, 16, 15, 1), at(1, 1, 1, 15, 15, 15), at(8, 0, 12, 8, 16, 9),
	} {
		oneBox(t, d, b)
	}
}

// oneBox asks all calls of one box, and holds what they answer against the chapter's words.
func oneBox(t *testing.T, d api.Dims, b api.Box) {
	t.Helper()
	want := byWords(d, b)
	if e := Check(d, b); e != api.OK {
		t.Error("Check", d, b, e)
	}
	if n, e := Many(d, b); n != len(want) || e != api.OK {
		t.Error("Many", d, b, n, e)
	}
	if l, e := Nodes(d, b); !slices.Equal(l, want) || e != api.OK {
		t.Error("Nodes", d, b, l, e)
	}
	in := make([]bool, d[0]*d[1]*d[2])
	for _, m := range want {
		in[m] = true
	}
	for m := range in {
		if is, e := Has(d, b, m); is != in[m] || e != api.OK {
			t.Error("Has", d, b, m, is, e)
		}
	}
	c, e := Canon(d, b)
	if e != api.OK || c.Size != b.Size {
		t.Error("Canon", d, b, c, e)
	}
	for axis := range d {
		if base := pick(b.Size[axis] == d[axis], 0, b.Base[axis]); c.Base[axis] != base {
			t.Error("Canon", d, b, c)
		}
	}
	if l := byWords(d, c); !slices.Equal(l, want) {
		t.Error("Canon has other midplanes", d, b, c)
	}
	if again, e := Canon(d, c); again != c || e != api.OK {
		t.Error("Canon again", d, c, again, e)
	}
}

// P2.2: each pair of boxes.
func TestPairs(t *testing.T) {
	for _, d := range few {
		boxes, words := each(d)
		for i, a := range boxes {
			for j, b := range boxes {
				if is, e := Meet(d, a, b); is != (words[i]&words[j] != 0) || e != api.OK {
					t.Error("Meet", d, a, b, is, e)
				}
				if is, e := Within(d, a, b); is != (words[i]&^words[j] == 0) || e != api.OK {
					t.Error("Within", d, a, b, is, e)
				}
			}
		}
	}
}

// P2.2: boxes of the greatest machine.
func TestPairsGreatest(t *testing.T) {
	d := api.Dims{16, 16, 16}
	for i, c := range []struct {
		a, b     api.Box
		meet, in bool
	}{
		{at(0, 0, 0, 16, 16, 16), at(5, 6, 7, 16, 16, 16), true, true},
		{at(15, 15, 15, 2, 2, 2), at(0, 0, 0, 1, 1, 1), true, false},
		{at(0, 0, 0, 1, 1, 1), at(15, 15, 15, 2, 2, 2), true, true},
		{at(1, 1, 1, 1, 1, 1), at(15, 15, 15, 2, 2, 2), false, false},
		{at(8, 0, 0, 8, 16, 16), at(0, 0, 0, 8, 16, 16), false, false},
		{at(15, 0, 0, 1, 16, 16), at(8, 4, 0, 8, 16, 16), true, true},
		{at(15, 0, 0, 15, 1, 1), at(14, 0, 0, 15, 1, 1), true, false},
		{at(3, 3, 3, 9, 9, 9), at(3, 3, 12, 9, 9, 7), false, false},
	} {
		if is, e := Meet(d, c.a, c.b); is != c.meet || e != api.OK {
			t.Error(i, is, e)
		}
		if is, e := Within(d, c.a, c.b); is != c.in || e != api.OK {
			t.Error(i, is, e)
		}
	}
}

// P2.3: what is answered is new memory, its spare room too.
func TestNewMemory(t *testing.T) {
	d := api.Dims{4, 3, 2}
	for _, b := range allBoxes(d) {
		first, _ := Nodes(d, b)
		second, _ := Nodes(d, b)
		want := slices.Clone(second)
		first = first[:cap(first)]
		for i := range first {
			first[i] = -7
		}
		third, _ := Nodes(d, b)
		if !slices.Equal(second, want) || !slices.Equal(third, want) {
			t.Error(b, second, third, want)
		}
	}
}

// P2.4: two boxes have the same midplanes just if their canonical boxes are the same.
func TestSameJustIfCanonSame(t *testing.T) {
	for _, d := range few {
		boxes, words := each(d)
		canons := make([]api.Box, len(boxes))
		for i, b := range boxes {
			canons[i], _ = Canon(d, b)
		}
		for i := range boxes {
			for j := range boxes {
				if (words[i] == words[j]) != (canons[i] == canons[j]) {
					t.Error(d, boxes[i], boxes[j], canons[i], canons[j])
				}
			}
		}
	}
}

// flat is a box as it is along one axis, on a ring.
func flat(b api.Box, axis int) api.Box {
	return at(b.Base[axis], 0, 0, b.Size[axis], 1, 1)
}

// P2.4: boxes meet just if they meet along each axis.
func TestMeetAlongEachAxis(t *testing.T) {
	for _, d := range few {
		boxes := allBoxes(d)
		for _, a := range boxes {
			for _, b := range boxes {
				all := true
				for axis, n := range d {
					is, e := Meet(api.Dims{n, 1, 1}, flat(a, axis), flat(b, axis))
					if e != api.OK {
						t.Fatal(d, a, b, e)
					}
					all = all && is
				}
				if is, _ := Meet(d, a, b); is != all {
					t.Error(d, a, b, is, all)
				}
			}
		}
	}
}

// P2.4: a box within another one has at most as many, and if both are within one another they have the same midplanes.
func TestWithinHasAtMostAsMany(t *testing.T) {
	d := api.Dims{3, 4, 2}
	boxes := allBoxes(d)
	for _, a := range boxes {
		n, _ := Many(d, a)
		ours, _ := Nodes(d, a)
		for _, b := range boxes {
			in, _ := Within(d, a, b)
			k, _ := Many(d, b)
			if in && n > k {
				t.Error(a, b, n, k)
			}
			back, _ := Within(d, b, a)
			if theirs, _ := Nodes(d, b); (in && back) != slices.Equal(ours, theirs) {
				t.Error(a, b, in, back)
			}
		}
	}
}

// The chapter's examples.
func TestExamples(t *testing.T) {
	d := api.Dims{4, 3, 2}
	a, one := at(3, 0, 0, 2, 1, 1), at(0, 0, 0, 1, 1, 1)
	if l, e := Nodes(d, a); !slices.Equal(l, []int{0, 3}) || e != api.OK {
		t.Error(l, e)
	}
	if n, e := Many(d, at(0, 0, 0, 2, 3, 2)); n != 12 || e != api.OK {
		t.Error(n, e)
	}
	if b, e := Canon(d, at(1, 2, 1, 4, 3, 1)); b != at(0, 0, 1, 4, 3, 1) || e != api.OK {
		t.Error(b, e)
	}
	if is, e := Meet(d, a, one); !is || e != api.OK {
		t.Error(is, e)
	}
	if is, e := Within(d, one, a); !is || e != api.OK {
		t.Error(is, e)
	}
	if is, e := Within(d, a, one); is || e != api.OK {
		t.Error(is, e)
	}
}
