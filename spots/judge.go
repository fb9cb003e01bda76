package spots

import (
	"iter"

	"tidehall/api"
	"tidehall/free"
)

// judge tells whether places are free of two sets. It asks of runs, for what a place takes is what its runs take, and a run is one of many places': so each is asked of once, however many places there are, and however great.
type judge struct {
	dims        api.Dims
	mids, links api.Set
	known       map[api.Place]verdict
}

// verdict is what is known of a run.
type verdict struct {
	free bool
}

// newJudge is one that knows of no run.
func newJudge(d api.Dims, mids, links api.Set) judge {
	return judge{dims: d, mids: mids, links: links, known: map[api.Place]verdict{}}
}

// holds tells whether a place that may be is free of the sets.
func (j judge) holds(p api.Place) (bool, api.Errno) {
	for r := range runs(j.dims, p) {
		is, e := j.run(r)
		if e != api.OK || !is {
			return false, e
		}
	}
	return true, api.OK
}

// run tells whether a run is free of the sets.
func (j judge) run(r api.Place) (bool, api.Errno) {
	if v, had := j.known[r]; had {
		return v.free, api.OK
	}
	is, e := free.Holds(j.dims, r, j.mids, j.links)
	if e != api.OK {
		return false, e
	}
	j.known[r] = verdict{is}
	return is, api.OK
}

// runs hands out the runs of a place that may be, along each axis, as places: as long as it along that axis, and a torus there if it is one, and of one midplane along the others.
func runs(d api.Dims, p api.Place) iter.Seq[api.Place] {
	return func(yield func(r api.Place) bool) {
		for axis, size := range p.Box.Size {
			across := p.Box.Size
			across[axis] = 1
			for off := range offsets(across) {
				var r api.Place
				r.Box.Base = onward(d, p.Box.Base, off)
				r.Box.Size = [3]int{1, 1, 1}
				r.Box.Size[axis] = size
				r.Torus[axis] = p.Torus[axis]
				if !yield(r) {
					return
				}
			}
		}
	}
}

// offsets hands out how far each midplane of a box lies from its Base, along each axis.
func offsets(size [3]int) iter.Seq[[3]int] {
	return func(yield func(off [3]int) bool) {
		for z := range size[2] {
			for y := range size[1] {
				for x := range size[0] {
					if !yield([3]int{x, y, z}) {
						return
					}
				}
			}
		}
	}
}

// onward are coordinates so far on from others, round and round.
func onward(d api.Dims, from, off [3]int) [3]int {
	for axis, by := range off {
		from[axis] = (from[axis] + by) % d[axis]
	}
	return from
}
