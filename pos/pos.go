// Package pos is layer 1, the midplanes of a torus: see shared/doc/01-pos.md.
package pos

import (
	"cmp"
	"iter"

	"tidehall/api"
)

// Check tells whether dimensions may be.
func Check(d api.Dims) api.Errno {
	for axis := range axes(d) {
		if d[axis] < 1 || d[axis] > api.MaxDim {
			return api.ErrBad
		}
	}
	return api.OK
}

// Many is how many midplanes there are.
func Many(d api.Dims) (int, api.Errno) {
	if e := Check(d); e != api.OK {
		return 0, e
	}
	return many(d), api.OK
}

// At is the midplane at coordinates.
func At(d api.Dims, p [3]int) (int, api.Errno) {
	if e := Check(d); e != api.OK {
		return 0, e
	}
	m := 0
	for axis, stride := range axes(d) {
		if !below(p[axis], d[axis]) {
			return 0, api.ErrArg
		}
		m += p[axis] * stride
	}
	return m, api.OK
}

// Of are the coordinates of a midplane.
func Of(d api.Dims, m int) ([3]int, api.Errno) {
	var p [3]int
	if e := checkNode(d, m); e != api.OK {
		return p, e
	}
	for axis, stride := range axes(d) {
		p[axis] = m / stride % d[axis]
	}
	return p, api.OK
}

// Step is the midplane that is some steps on along an axis; steps below 0 go back.
func Step(d api.Dims, m, axis, by int) (int, api.Errno) {
	p, e := Of(d, m)
	if e != api.OK {
		return 0, e
	}
	if !below(axis, len(d)) {
		return 0, api.ErrArg
	}
	// A whole way round leads home, so it is left out ahead of the sum, which could not hold every number of steps.
	p[axis] = around(p[axis]+by%d[axis], d[axis])
	return At(d, p)
}

// Far is how many steps two midplanes are apart.
func Far(d api.Dims, a, b int) (int, api.Errno) {
	p, e := Of(d, a)
	if e != api.OK {
		return 0, e
	}
	q, e := Of(d, b)
	if e != api.OK {
		return 0, e
	}
	far := 0
	for axis := range axes(d) {
		on := around(q[axis]-p[axis], d[axis])
		far += least(on, d[axis]-on)
	}
	return far, api.OK
}

// axes hands out each axis, with how much a midplane's number grows by one step on along it that does not go round.
func axes(d api.Dims) iter.Seq2[int, int] {
	return func(yield func(axis, stride int) bool) {
		stride := 1
		for axis, size := range d {
			if !yield(axis, stride) {
				return
			}
			stride *= size
		}
	}
}

// many is the product of dimensions that may be.
func many(d api.Dims) int {
	n := 1
	for axis := range axes(d) {
		n *= d[axis]
	}
	return n
}

// checkNode tells whether dimensions may be, and m is one of their midplanes.
func checkNode(d api.Dims, m int) api.Errno {
	n, e := Many(d)
	if e != api.OK {
		return e
	}
	if !below(m, n) {
		return api.ErrArg
	}
	return api.OK
}

// below tells whether k is from 0 to below n.
func below(k, n int) bool {
	return k >= 0 && k < n
}

// around brings k, which is more than -n, to what it is on a ring of n.
func around(k, n int) int {
	return (k + n) % n
}

// least is the lesser one of two.
func least[T cmp.Ordered](a, b T) T {
	if b < a {
		return b
	}
	return a
}
