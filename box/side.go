package box

import "tidehall/api"

// side is a box along one axis: where it begins on a ring of coordinates, and how many of them it has.
type side struct {
	ring int
	base int
	size int
}

// sideOf is a box's side along an axis.
func sideOf(d api.Dims, b api.Box, axis int) side {
	return side{ring: d[axis], base: b.Base[axis], size: b.Size[axis]}
}

// mayBe tells whether a side is one of a box that may be; what follows is asked of such sides alone.
func (s side) mayBe() bool {
	return s.size >= 1 && s.size <= s.ring && s.base >= 0 && s.base < s.ring
}

// after is how many steps on from the side's base a coordinate lies, round and round.
func (s side) after(k int) int {
	return (k - s.base + s.ring) % s.ring
}

// has tells whether a coordinate is one of the side's.
func (s side) has(k int) bool {
	return s.after(k) < s.size
}

// coords are the side's coordinates, rising.
func (s side) coords() []int {
	list := make([]int, 0, s.size)
	for k := range s.ring {
		if s.has(k) {
			list = append(list, k)
		}
	}
	return list
}

// meets tells whether two sides have a coordinate in common: going back from it on both, one side's base comes first, and the other side has it.
func (s side) meets(o side) bool {
	return s.has(o.base) || o.has(s.base)
}

// within tells whether all of a side's coordinates are another one's. A side that is the whole ring has no end that the other one could go past.
func (s side) within(o side) bool {
	return o.size == o.ring || o.after(s.base)+s.size <= o.size
}
