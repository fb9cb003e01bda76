package grow

import (
	"tidehall/api"
	"tidehall/box"
)

// step makes a box one midplane longer along an axis: maybe longer than that axis is, and maybe not canonical.
type step func(b api.Box) api.Box

// steps are those of growing, in the order in which they are tried: along each axis at the end, then at the beginning.
func steps(d api.Dims) [6]step {
	end := func(axis int) step {
		return func(b api.Box) api.Box {
			b.Size[axis]++
			return b
		}
	}
	beginning := func(axis int) step {
		return func(b api.Box) api.Box {
			b.Base[axis] = (b.Base[axis] + d[axis] - 1) % d[axis]
			b.Size[axis]++
			return b
		}
	}
	return [6]step{end(0), beginning(0), end(1), beginning(1), end(2), beginning(2)}
}

// grown is a free canonical box, grown as far as it goes; isFree is asked of canonical boxes alone.
func grown(d api.Dims, b api.Box, isFree func(b api.Box) bool) api.Box {
	all := steps(d)
anew:
	for {
		for _, longer := range all {
			// One that comes to be longer than the axis may not be, so that Canon refuses it.
			next, e := box.Canon(d, longer(b))
			if e == api.OK && isFree(next) {
				b = next
				continue anew
			}
		}
		return b
	}
}
