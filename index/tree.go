package index

import (
	"math/bits"

	"planisphere/api"
)

// The digits of a box are the binary digits of its four coordinates: the highest digit of each of them, then the next one of each, and so on.
// Boxes that are near to each other and of about the same size have the same first digits. A tree in which the boxes below a node have the same first digits is the same one whatever the order in which they were added, and it is nowhere deeper than there are digits.

// digits is the number of digits of a box.
const digits = 4 * 32

// node is a node of a tree with the least box around all boxes below it.
type node struct {
	api.Box
	fork int      // the first digit in which the boxes below differ; digits in a leaf
	kids [2]*node // those whose boxes have 0, and 1, as this digit; none in a leaf
	ids  []string // of a leaf: the Ids that have its box, in no order
}

// with returns the tree with a leaf for a box, which it may have had before, and this leaf.
func (n *node) with(b api.Box) (root, leaf *node) {
	if n == nil {
		leaf = &node{Box: b, fork: digits}
		return leaf, leaf
	}
	// The box around others has those first digits that are the same in all of them.
	fork := differ(n.Box, b)
	switch {
	case fork < n.fork:
		leaf = &node{Box: b, fork: digits}
		root = &node{Box: around(n.Box, b), fork: fork}
		root.kids[digit(n.Box, fork)], root.kids[digit(b, fork)] = n, leaf
		return root, leaf
	case n.fork == digits:
		return n, n
	}
	kid := &n.kids[digit(b, n.fork)]
	*kid, leaf = (*kid).with(b)
	n.Box = around(n.Box, b)
	return n, leaf
}

// without returns the tree without the leaf for a box, which it has.
func (n *node) without(b api.Box) *node {
	if n.fork == digits {
		return nil
	}
	side := digit(b, n.fork)
	n.kids[side] = n.kids[side].without(b)
	if n.kids[side] == nil {
		return n.kids[1-side]
	}
	n.Box = around(n.kids[0].Box, n.kids[1].Box)
	return n
}

// coordinates returns the coordinates of a box as numbers that are not negative.
func coordinates(b api.Box) [4]uint32 {
	return [4]uint32{uint32(b.Min.X + bound), uint32(b.Min.Y + bound), uint32(b.Max.X + bound), uint32(b.Max.Y + bound)}
}

// digit returns a digit of a box.
func digit(b api.Box, i int) int {
	return int(coordinates(b)[i%4] >> (31 - i/4) & 1)
}

// differ returns the first digit in which two boxes differ; digits if they are equal.
func differ(a, b api.Box) int {
	first := digits
	other := coordinates(b)
	for i, c := range coordinates(a) {
		first = min(first, 4*bits.LeadingZeros32(c^other[i])+i)
	}
	return first
}

// isNear reports whether the coordinates of a point are within the bound.
func isNear(p api.Point) bool {
	return min(p.X, p.Y) >= -bound && max(p.X, p.Y) <= bound
}

// isValid reports whether a box is valid.
func isValid(b api.Box) bool {
	return isNear(b.Min) && isNear(b.Max) && b.Min.X <= b.Max.X && b.Min.Y <= b.Max.Y
}

// meet reports whether two boxes have a common point.
func meet(a, b api.Box) bool {
	return a.Min.X <= b.Max.X && b.Min.X <= a.Max.X && a.Min.Y <= b.Max.Y && b.Min.Y <= a.Max.Y
}

// around returns the least box around two boxes.
func around(a, b api.Box) api.Box {
	return api.Box{
		Min: api.Point{X: min(a.Min.X, b.Min.X), Y: min(a.Min.Y, b.Min.Y)},
		Max: api.Point{X: max(a.Max.X, b.Max.X), Y: max(a.Max.Y, b.Max.Y)},
	}
}

// square returns the squared distance of a box from a point.
func square(b api.Box, p api.Point) int {
	x := max(b.Min.X-p.X, p.X-b.Max.X, 0)
	y := max(b.Min.Y-p.Y, p.Y-b.Max.Y, 0)
	return x*x + y*y
}
