package rope

import (
	"iter"
	"slices"

	"colophon/api"
	"colophon/ucd"
)

// node is a tree of numbers. It never changes, so that trees may share it. Its sides differ in height by one at most: that keeps a tree of the height h at 2^(h/2) - 1 numbers or more.
type node struct {
	sides  [2]*node // what stands ahead of the number, and behind it
	number rune
	high   int
	size   int
	breaks int
}

// side names a side of a node: what is done at the one is done at the other, mirrored.
type side int

const (
	front side = 0
	back  side = 1
)

func (n *node) deep() int {
	if n == nil {
		return 0
	}
	return n.high
}

func (n *node) len() int {
	if n == nil {
		return 0
	}
	return n.size
}

func (n *node) seps() int {
	if n == nil {
		return 0
	}
	return n.breaks
}

// own is 1 where the node's number is a separator. It is told from the counts, so that a class is asked for once alone, when a number comes in.
func (n *node) own() int { return n.breaks - n.sides[front].seps() - n.sides[back].seps() }

// grow makes a tree of a list, as low as there is one.
func grow(l []rune) *node {
	if len(l) == 0 {
		return nil
	}
	mid := len(l) / 2
	n := node{number: l[mid]}
	if ucd.Class(n.number) == api.B {
		n.breaks = 1
	}
	return front.over(&n, grow(l[:mid]), grow(l[mid+1:]))
}

// over makes a node with n's number over two trees: near at the side, far at the other.
func (s side) over(n, near, far *node) *node {
	made := &node{
		number: n.number,
		high:   max(near.deep(), far.deep()) + 1,
		size:   near.len() + far.len() + 1,
		breaks: near.seps() + far.seps() + n.own(),
	}
	made.sides[s], made.sides[1-s] = near, far
	return made
}

// hang makes a node like top with low at the side, and turns it where low is too high for that.
func (s side) hang(top, low *node) *node {
	far := top.sides[1-s]
	if low.deep() <= far.deep()+1 {
		return s.over(top, low, far)
	}
	outer, inner := low.sides[s], low.sides[1-s]
	if inner.deep() <= outer.deep() {
		return s.over(low, outer, s.over(top, inner, far))
	}
	return s.over(inner, s.over(low, outer, inner.sides[s]), s.over(top, inner.sides[1-s], far))
}

// climb goes up a path from its lower end, and puts what was made below under each node by the hand that it is given.
func climb(path []*node, low *node, hand func(top, low *node) *node) *node {
	for _, top := range slices.Backward(path) {
		low = hand(top, low)
	}
	return low
}

// graft puts m's number and the tree low to the side of the tree high: so far down that the heights fit.
func (s side) graft(high, m, low *node) *node {
	var path []*node
	for high.deep() > low.deep()+1 {
		path = append(path, high)
		high = high.sides[s]
	}
	return climb(path, s.over(m, low, high), s.hang)
}

// join makes a tree of a, m's number and b.
func join(a, m, b *node) *node {
	if a.deep() > b.deep() {
		return back.graft(a, m, b)
	}
	return front.graft(b, m, a)
}

// split makes two trees: of those ahead of a place, and of the others.
func split(n *node, at int) (*node, *node) {
	if at <= 0 {
		return nil, n
	}
	if at >= n.len() {
		return n, nil
	}
	a, b := n.sides[front], n.sides[back]
	if at <= a.len() {
		first, rest := split(a, at)
		return first, join(rest, n, b)
	}
	rest, last := split(b, at-a.len()-1)
	return join(a, n, rest), last
}

// concat makes a tree of a, and b behind it.
func concat(a, b *node) *node {
	if a == nil {
		return b
	}
	if b == nil {
		return a
	}
	rest, last := split(a, a.len()-1)
	return join(rest, last, b)
}

// from goes through the numbers from a place on.
func (n *node) from(place int) iter.Seq[rune] {
	return func(yield func(rune) bool) { n.walk(place, yield) }
}

// walk hands on all numbers but the first skip ones; false tells that no more are wanted.
func (n *node) walk(skip int, yield func(rune) bool) bool {
	if skip >= n.len() {
		return true
	}
	k := n.sides[front].len()
	return n.sides[front].walk(skip, yield) &&
		(skip > k || yield(n.number)) &&
		n.sides[back].walk(max(skip-k-1, 0), yield)
}

// sepsAhead counts the separators ahead of a place.
func (n *node) sepsAhead(place int) int {
	count := 0
	for place > 0 {
		k := n.sides[front].len()
		if place <= k {
			n = n.sides[front]
			continue
		}
		count += n.sides[front].seps() + n.own()
		n, place = n.sides[back], place-k-1
	}
	return count
}

// behindSep tells the place behind separator k, counted from 1 on: 0 for none, the end where there are fewer.
func (n *node) behindSep(k int) int {
	place := 0
	for n != nil {
		seps := n.sides[front].seps()
		if k <= seps {
			n = n.sides[front]
			continue
		}
		place += n.sides[front].len() + 1
		k -= seps + n.own()
		n = n.sides[back]
	}
	return place
}
