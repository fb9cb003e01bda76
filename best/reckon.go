package best

import (
	"iter"

	"tidehall/api"
	"tidehall/pos"
	"tidehall/score"
	"tidehall/set"
)

// reckoner answers what tells the scores of places that are free of a set of midplanes. It does not ask score of each place, which goes over all that one takes, and would need more than a minute for all places of a great shape on the greatest machine: a free place has the score that all of its Size and Torus have with nothing taken, less what its midplanes' own scores lose by what is.
func reckoner(d api.Dims, mids api.Set) (func(p api.Place) (int, api.Errno), api.Errno) {
	n, e := pos.Many(d)
	if e != api.OK {
		return nil, e
	}
	none, e := set.Of(n, nil)
	if e != api.OK {
		return nil, e
	}
	lost, e := losses(d, n, none, mids)
	if e != api.OK {
		return nil, e
	}
	whole := map[api.Place]int{}
	return func(p api.Place) (int, api.Errno) {
		like := api.Place{Box: api.Box{Size: p.Box.Size}, Torus: p.Torus}
		if _, had := whole[like]; !had {
			full, e := score.Of(d, like, none)
			if e != api.OK {
				return 0, e
			}
			whole[like] = full
		}
		left := whole[like]
		for m := range nodes(d, p.Box) {
			left -= lost[m]
		}
		return left, api.OK
	}, api.OK
}

// losses are, for each midplane, how much less its score is, as a place of its own, than with nothing taken.
func losses(d api.Dims, n int, none, mids api.Set) ([]int, api.Errno) {
	one := api.Place{Box: api.Box{Size: [3]int{1, 1, 1}}}
	// With nothing taken, one midplane's score is that of each.
	full, e := score.Of(d, one, none)
	if e != api.OK {
		return nil, e
	}
	lost := make([]int, n)
	for m := range lost {
		if one.Box.Base, e = pos.Of(d, m); e != api.OK {
			return nil, e
		}
		left, e := score.Of(d, one, mids)
		if e != api.OK {
			return nil, e
		}
		lost[m] = full - left
	}
	return lost, api.OK
}

// nodes hands out the midplanes of a box that may be.
func nodes(d api.Dims, b api.Box) iter.Seq[int] {
	return func(yield func(m int) bool) {
		for z := range b.Size[2] {
			for y := range b.Size[1] {
				for x := range b.Size[0] {
					m, e := pos.At(d, onward(d, b.Base, [3]int{x, y, z}))
					if e != api.OK || !yield(m) {
						return
					}
				}
			}
		}
	}
}

// onward are coordinates so far on from others, round and round.
func onward(d api.Dims, from, off [3]int) [3]int {
	for axis, by := range off {
		from[axis] = (from[axis] + by) % d[axis]
	}
	return from
}
