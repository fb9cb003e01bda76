package grow

import (
	"tidehall/api"
	"tidehall/box"
	"tidehall/pos"
	"tidehall/set"
)

// machine is one some of whose midplanes are taken.
type machine struct {
	dims  api.Dims
	many  int
	taken api.Set
}

// newMachine is that of dimensions and a set of midplanes; those that may not be are refused.
func newMachine(d api.Dims, taken api.Set) (machine, api.Errno) {
	n, e := pos.Many(d)
	if e != api.OK {
		return machine{}, e
	}
	if e := set.Check(n, taken); e != api.OK {
		return machine{}, e
	}
	return machine{dims: d, many: n, taken: taken}, api.OK
}

// isFree tells whether a box that may be has nothing of what is taken.
func (m machine) isFree(b api.Box) bool {
	nodes, e := box.Nodes(m.dims, b)
	if e != api.OK {
		return false
	}
	own, e := set.Of(m.many, nodes)
	if e != api.OK {
		return false
	}
	meets, e := set.Meet(m.many, own, m.taken)
	return e == api.OK && !meets
}
