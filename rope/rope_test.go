package rope

import (
	"math"
	"math/bits"
	"slices"
	"testing"

	"colophon/api"
)

// separators are the numbers of the class B, as the table of chapter 3 has them.
var separators = []rune{0x0a, 0x0d, 0x1c, 0x1d, 0x1e, 0x85, 0x2029}

// lists are what ropes are made of: scalar values and others, separators at all kinds of places.
var lists = [][]rune{
	nil,
	{},
	{97},
	{0x2029},
	{97, 98},
	{97, 0x0a},
	{0x0a, 97},
	{0x0d, 0x0a},
	{97, 98, 0x2029, 99},
	{0x1c, 0x1d, 0x1e, 0x85, 0x2029},
	{0x1b, 0x1f, 0x84, 0x86, 0x2028, 0x202a, 0x09, 0x0b, 0x0c, 0x0e},
	{0x0a, 97, 0x0a, 0x0a, 98, 99, 0x2029, 0x5d0, 0x5d1, 0x0a},
	{math.MinInt32, math.MaxInt32, -1, 0, -0x0a, -0x2029, 55296, 57343, 1114111, 1114112, 1<<24 + 0x0a, 1<<21 + 0x2029},
	{97, -1, 0x0d, 55296, 0x0d, 1114112},
}

// outside are numbers that are far from being a place.
var outside = []int{math.MinInt, math.MinInt + 1, math.MinInt32, -4097, -2, -1, math.MaxInt32, math.MaxInt - 1, math.MaxInt}

// dice makes the same numbers each time, so that a test that fails fails again.
type dice uint64

func (d *dice) below(n int) int {
	*d = *d*6364136223846793005 + 1442695040888963407
	return int(uint64(*d)>>33) % n
}

func (d *dice) numbers(length int) []rune {
	l := make([]rune, length)
	for i := range l {
		l[i] = rune(d.below(0x700))
		if d.below(5) == 0 {
			l[i] = separators[d.below(len(separators))]
		}
	}
	return l
}

// stretch is two places of a list of that length, the first not above the second.
func (d *dice) stretch(length int) (int, int) {
	a, b := d.below(length+1), d.below(length+1)
	return min(a, b), max(a, b)
}

// joined is a new list of some others.
func joined(pieces ...[]rune) []rune { return slices.Concat(pieces...) }

// paraByWords goes through the list as the chapter's words do.
func paraByWords(l []rune, i int) (number, from, to int) {
	to = len(l)
	for place, r := range l {
		if !slices.Contains(separators, r) {
			continue
		}
		if place < i {
			number, from = number+1, place+1
		} else {
			return number, from, place + 1
		}
	}
	return number, from, to
}

func checkAt(t *testing.T, r *Rope, i int, want rune, wantE api.Errno) {
	t.Helper()
	if n, e := r.At(i); n != want || e != wantE {
		t.Errorf("At(%d): %d, %d; wanted %d, %d", i, n, e, want, wantE)
	}
}

func checkSlice(t *testing.T, r *Rope, from, to int, want []rune) {
	t.Helper()
	if l, e := r.Slice(from, to); !slices.Equal(l, want) || e != api.OK {
		t.Errorf("Slice(%d, %d): %x, %d; wanted %x", from, to, l, e, want)
	}
}

func checkPara(t *testing.T, r *Rope, i, number, from, to int, wantE api.Errno) {
	t.Helper()
	if n, a, b, e := r.Para(i); n != number || a != from || b != to || e != wantE {
		t.Errorf("Para(%d): %d, %d, %d, %d; wanted %d, %d, %d, %d", i, n, a, b, e, number, from, to, wantE)
	}
}

func checkAll(t *testing.T, r *Rope, want []rune) {
	t.Helper()
	var l []rune
	for i, n := range r.All() {
		if i != len(l) {
			t.Fatalf("All: the place %d behind %d numbers", i, len(l))
		}
		l = append(l, n)
	}
	if !slices.Equal(l, want) {
		t.Errorf("All: %x; wanted %x", l, want)
	}
}

// checkDeep holds Deep against P4.4.
func checkDeep(t *testing.T, r *Rope) {
	t.Helper()
	deep, length := r.Deep(), r.Len()
	if (deep == 0) != (length == 0) || deep < 0 {
		t.Errorf("Deep of %d numbers: %d", length, deep)
	}
	if d := deep / 2; d >= bits.Len(uint(length)+1) {
		t.Errorf("Deep of %d numbers: %d: 2^%d is above Len + 1", length, deep, d)
	}
}

// check holds all that a rope tells against a list.
func check(t *testing.T, r *Rope, want []rune) {
	t.Helper()
	if r == nil {
		t.Fatalf("no rope; wanted one of %x", want)
	}
	if r.Len() != len(want) {
		t.Fatalf("Len: %d; wanted %d", r.Len(), len(want))
	}
	checkAll(t, r, want)
	checkDeep(t, r)
	checkSlice(t, r, 0, len(want), want)
	for i, n := range want {
		checkAt(t, r, i, n, api.OK)
	}
	checkAt(t, r, -1, 0, api.ErrRange)
	checkAt(t, r, len(want), 0, api.ErrRange)
	checkBreaks(t, r, want)
}

func checkBreaks(t *testing.T, r *Rope, want []rune) {
	t.Helper()
	breaks := 0
	for _, n := range want {
		if slices.Contains(separators, n) {
			breaks++
		}
	}
	if r.Breaks() != breaks {
		t.Errorf("Breaks of %x: %d; wanted %d", want, r.Breaks(), breaks)
	}
	step := 1 + len(want)/200 // the words' way through a long list is long
	for i := 0; i <= len(want); i += step {
		number, from, to := paraByWords(want, i)
		checkPara(t, r, i, number, from, to, api.OK)
	}
}

// must answers the rope of a call that has to succeed.
func must(t *testing.T) func(r *Rope, e api.Errno) *Rope {
	return func(r *Rope, e api.Errno) *Rope {
		t.Helper()
		if e != api.OK || r == nil {
			t.Fatalf("a rope was wanted: %v, %d", r, e)
		}
		return r
	}
}

// halves answers the two ropes of a Split that has to succeed.
func halves(t *testing.T, r *Rope, at int) (*Rope, *Rope) {
	t.Helper()
	a, b, e := r.Split(at)
	if e != api.OK || a == nil || b == nil {
		t.Fatalf("Split(%d): %v, %v, %d", at, a, b, e)
	}
	return a, b
}

func TestExamples(t *testing.T) {
	first := New([]rune{'a', 'b', 0x2029, 'c'})
	if first.Len() != 4 || first.Breaks() != 1 {
		t.Errorf("Len, Breaks: %d, %d", first.Len(), first.Breaks())
	}
	checkPara(t, first, 2, 0, 0, 3, api.OK)
	checkPara(t, first, 3, 1, 3, 4, api.OK)
	checkPara(t, first, 5, 0, 0, 0, api.ErrRange)
	check(t, must(t)(first.Insert(1, []rune{'x', 'y'})), []rune{'a', 'x', 'y', 'b', 0x2029, 'c'})
	check(t, first, []rune{'a', 'b', 0x2029, 'c'})
}

func TestP4_1NewTellsItsList(t *testing.T) {
	for _, l := range lists {
		check(t, New(l), l)
	}
	for length := range 130 {
		d := dice(length)
		l := d.numbers(length)
		check(t, New(l), l)
	}
}

func TestP4_1SliceAtAllPlaces(t *testing.T) {
	d := dice(41)
	for _, l := range append(lists, d.numbers(33)) {
		r := New(l)
		for to := range len(l) + 1 {
			for from := range to + 1 {
				checkSlice(t, r, from, to, l[from:to])
			}
		}
	}
}

func TestP4_1AtOutside(t *testing.T) {
	for _, l := range lists {
		r := New(l)
		for _, i := range append([]int{len(l), len(l) + 1}, outside...) {
			checkAt(t, r, i, 0, api.ErrRange)
		}
	}
}

// wrongStretches are pairs of places that no list of that length has between them.
func wrongStretches(length int) [][2]int {
	list := [][2]int{{-1, 0}, {-1, length}, {0, length + 1}, {length, length + 1}, {length + 1, length + 1}, {-1, -1}, {1, 0}, {length, length - 1}, {length + 1, length}, {length + 1, 0}}
	for _, n := range outside {
		list = append(list, [2]int{n, n}, [2]int{n, -n})
		if n < 0 {
			list = append(list, [2]int{n, 0}, [2]int{n, length}, [2]int{0, n}, [2]int{length, n}, [2]int{math.MaxInt, n}, [2]int{n, math.MaxInt})
		} else {
			list = append(list, [2]int{0, n}, [2]int{length, n}, [2]int{n, 0}, [2]int{n, length})
		}
	}
	return list
}

func TestP4_1SliceOutside(t *testing.T) {
	for _, l := range lists {
		for _, x := range wrongStretches(len(l)) {
			if s, e := New(l).Slice(x[0], x[1]); len(s) != 0 || e != api.ErrRange {
				t.Errorf("Slice(%d, %d) of %d numbers: %x, %d", x[0], x[1], len(l), s, e)
			}
		}
	}
}

func TestP4_1AllIsLeftAndBegunAgain(t *testing.T) {
	d := dice(42)
	l := d.numbers(40)
	all := New(l).All()
	for stop := range len(l) {
		var seen []rune
		for i, n := range all {
			seen = append(seen, n)
			if i == stop {
				break
			}
		}
		if !slices.Equal(seen, l[:stop+1]) {
			t.Errorf("left at %d: %x", stop, seen)
		}
	}
	for i, a := range all {
		for j, b := range all {
			if a != l[i] || b != l[j] {
				t.Fatalf("one range within another: %x, %x at %d, %d", a, b, i, j)
			}
		}
	}
}

func TestP4_2InsertAtAllPlaces(t *testing.T) {
	for _, l := range lists {
		r := New(l)
		for _, more := range lists {
			for at := range len(l) + 1 {
				check(t, must(t)(r.Insert(at, more)), joined(l[:at], more, l[at:]))
			}
		}
		check(t, r, l)
	}
}

func TestP4_2DeleteAllStretches(t *testing.T) {
	d := dice(43)
	for _, l := range append(lists, d.numbers(24)) {
		r := New(l)
		for to := range len(l) + 1 {
			for from := range to + 1 {
				check(t, must(t)(r.Delete(from, to)), joined(l[:from], l[to:]))
			}
		}
		check(t, r, l)
	}
}

func TestP4_2SplitAtAllPlaces(t *testing.T) {
	d := dice(44)
	for _, l := range append(lists, d.numbers(100)) {
		r := New(l)
		for at := range len(l) + 1 {
			a, b := halves(t, r, at)
			check(t, a, l[:at])
			check(t, b, l[at:])
		}
		check(t, r, l)
	}
}

func TestP4_2ConcatOfAllPairs(t *testing.T) {
	d := dice(45)
	many := append(lists, d.numbers(3), d.numbers(15), d.numbers(16), d.numbers(200))
	for _, l := range many {
		for _, m := range many {
			a, b := New(l), New(m)
			check(t, must(t)(Concat(a, b)), joined(l, m))
			check(t, a, l)
			check(t, b, m)
		}
		a := New(l)
		check(t, must(t)(Concat(a, a)), joined(l, l))
	}
}

func TestP4_2Outside(t *testing.T) {
	for _, l := range lists {
		r := New(l)
		for _, at := range append([]int{len(l) + 1, len(l) + 2}, outside...) {
			for _, more := range [][]rune{nil, {97}} {
				if made, e := r.Insert(at, more); made != nil || e != api.ErrRange {
					t.Errorf("Insert(%d) into %d numbers: %v, %d", at, len(l), made, e)
				}
			}
			if a, b, e := r.Split(at); a != nil || b != nil || e != api.ErrRange {
				t.Errorf("Split(%d) of %d numbers: %v, %v, %d", at, len(l), a, b, e)
			}
		}
		for _, x := range wrongStretches(len(l)) {
			if made, e := r.Delete(x[0], x[1]); made != nil || e != api.ErrRange {
				t.Errorf("Delete(%d, %d) of %d numbers: %v, %d", x[0], x[1], len(l), made, e)
			}
		}
		check(t, r, l)
	}
}

func TestP4_3ParaOutside(t *testing.T) {
	for _, l := range lists {
		for _, i := range append([]int{len(l) + 1, len(l) + 2}, outside...) {
			checkPara(t, New(l), i, 0, 0, 0, api.ErrRange)
		}
	}
}

func TestP4_3SeparatorsByClassAlone(t *testing.T) {
	for n := rune(-0x3000); n < 0x3000; n++ {
		want := 0
		if slices.Contains(separators, n) {
			want = 1
		}
		r := New([]rune{97, n, 98})
		if r.Breaks() != want {
			t.Errorf("Breaks of %x: %d", n, r.Breaks())
		}
		checkPara(t, r, 3, want, 2*want, 3, api.OK)
	}
}

func TestP4_3ParaOfAnEmptyRope(t *testing.T) {
	checkPara(t, New(nil), 0, 0, 0, 0, api.OK)
}

func TestP4_3ParagraphsOfALongRope(t *testing.T) {
	d := dice(46)
	l := d.numbers(3000)
	check(t, New(l), l)
	sparse := make([]rune, 3000)
	for i := range sparse {
		sparse[i] = 97
	}
	sparse[1999] = 0x2029
	r := New(sparse)
	checkPara(t, r, 0, 0, 0, 2000, api.OK)
	checkPara(t, r, 1999, 0, 0, 2000, api.OK)
	checkPara(t, r, 2000, 1, 2000, 3000, api.OK)
	checkPara(t, r, 3000, 1, 2000, 3000, api.OK)
}

func TestP4_4DeepOfOneCall(t *testing.T) {
	for length := range 70 {
		checkDeep(t, New(make([]rune, length)))
	}
	for _, length := range []int{127, 128, 1000, 1023, 1024, 4095, 4096, 5000} {
		checkDeep(t, New(make([]rune, length)))
	}
}

func TestP4_4DeepOfInsertions(t *testing.T) {
	places := []func(length int) int{
		func(length int) int { return length },
		func(length int) int { return 0 },
		func(length int) int { return length / 2 },
		func(length int) int { return length % 2 * length },
		func(length int) int { return length / 3 },
	}
	for k, place := range places {
		r := New(nil)
		var l []rune
		for n := range rune(3000) {
			at := place(len(l))
			r = must(t)(r.Insert(at, []rune{n}))
			l = slices.Insert(l, at, n)
			checkDeep(t, r)
		}
		check(t, r, l)
		checkTree(t, r.top)
		if t.Failed() {
			t.Fatalf("by the places %d", k)
		}
	}
}

func TestP4_4DeepOfDeletions(t *testing.T) {
	ends := []func(length int) int{
		func(length int) int { return length - 1 },
		func(length int) int { return 0 },
		func(length int) int { return length / 2 },
		func(length int) int { return length / 7 },
	}
	for _, end := range ends {
		d := dice(47)
		l := d.numbers(2000)
		r := New(l)
		for len(l) > 0 {
			at := end(len(l))
			r = must(t)(r.Delete(at, at+1))
			l = slices.Delete(l, at, at+1)
			checkDeep(t, r)
			if len(l)%500 == 3 {
				check(t, r, l)
				checkTree(t, r.top)
			}
		}
		check(t, r, nil)
	}
}

func TestP4_4DeepOfSplitsAndJoins(t *testing.T) {
	d := dice(48)
	lengths := []int{0, 1, 2, 3, 7, 40, 400, 3000}
	for _, m := range lengths {
		for _, n := range lengths {
			l, k := d.numbers(m), d.numbers(n)
			r := must(t)(Concat(New(l), New(k)))
			check(t, r, joined(l, k))
			checkTree(t, r.top)
			for range 20 {
				at := d.below(m + n + 1)
				a, b := halves(t, r, at)
				checkDeep(t, a)
				checkDeep(t, b)
				checkTree(t, a.top)
				checkTree(t, b.top)
				r = must(t)(Concat(b, a)) // turned about, so that unlike trees meet at each round
				checkDeep(t, r)
				checkTree(t, r.top)
			}
		}
	}
}

func TestP4_4DeepOfARopeJoinedToItself(t *testing.T) {
	r := New([]rune{97, 0x2029, 98})
	for range 28 {
		r = must(t)(Concat(r, r))
		checkDeep(t, r)
	}
	if r.Len() != 3<<28 || r.Breaks() != 1<<28 {
		t.Errorf("Len, Breaks: %d, %d", r.Len(), r.Breaks())
	}
	checkAt(t, r, 3<<28-2, 0x2029, api.OK)
	checkSlice(t, r, 3<<27-1, 3<<27+2, []rune{98, 97, 0x2029})
	checkPara(t, r, 3<<20, 1<<20, 3<<20-1, 3<<20+2, api.OK)
	a, b := halves(t, r, 3<<27+1)
	checkDeep(t, a)
	checkDeep(t, b)
	if a.Len() != 3<<27+1 || b.Len() != 3<<27-1 {
		t.Errorf("Len of the halves: %d, %d", a.Len(), b.Len())
	}
}

func TestP4_5WhatIsSplitIsJoinedAgain(t *testing.T) {
	d := dice(49)
	for _, l := range append(lists, d.numbers(200)) {
		for at := range len(l) + 1 {
			a, b := halves(t, New(l), at)
			check(t, must(t)(Concat(a, b)), l)
		}
	}
}

func TestP4_5WhatIsInsertedIsDeletedAgain(t *testing.T) {
	d := dice(50)
	l := d.numbers(120)
	r := New(l)
	for at := range len(l) + 1 {
		more := d.numbers(d.below(9))
		with := must(t)(r.Insert(at, more))
		check(t, must(t)(with.Delete(at, at+len(more))), l)
	}
}

func TestP4_5WhatIsDeletedIsInsertedAgain(t *testing.T) {
	d := dice(51)
	l := d.numbers(120)
	r := New(l)
	for range 200 {
		from, to := d.stretch(len(l))
		gone, e := r.Slice(from, to)
		if e != api.OK {
			t.Fatal(e)
		}
		without := must(t)(r.Delete(from, to))
		check(t, must(t)(without.Insert(from, gone)), l)
	}
}

// shelf keeps ropes beside the lists that they have to tell.
type shelf struct {
	ropes []*Rope
	lists [][]rune
}

func (s *shelf) put(r *Rope, l []rune) {
	s.ropes = append(s.ropes, r)
	s.lists = append(s.lists, l)
}

// grow makes another rope, or two, of those on the shelf.
func (s *shelf) grow(t *testing.T, d *dice) {
	t.Helper()
	k := d.below(len(s.ropes))
	r, l := s.ropes[k], s.lists[k]
	from, to := d.stretch(len(l))
	switch kind := d.below(4); {
	case kind == 0:
		more := d.numbers(d.below(30))
		s.put(must(t)(r.Insert(from, more)), joined(l[:from], more, l[from:]))
	case kind == 1:
		s.put(must(t)(r.Delete(from, to)), joined(l[:from], l[to:]))
	case kind == 2:
		a, b := halves(t, r, from)
		s.put(a, joined(l[:from]))
		s.put(b, joined(l[from:]))
	default:
		other := d.below(len(s.ropes))
		if len(l)+len(s.lists[other]) < 2000 {
			s.put(must(t)(Concat(r, s.ropes[other])), joined(l, s.lists[other]))
		}
	}
}

func TestP4_5NoRopeIsChangedByWhatIsMadeOfIt(t *testing.T) {
	d := dice(52)
	var s shelf
	for _, l := range lists {
		s.put(New(l), joined(l))
	}
	for range 1500 {
		s.grow(t, &d)
	}
	for k, r := range s.ropes {
		check(t, r, s.lists[k])
		checkTree(t, r.top)
	}
}

// checkTree holds the counts of a tree's nodes, and their balance, against what stands below them.
func checkTree(t *testing.T, n *node) (high, size, breaks int) {
	t.Helper()
	if n == nil {
		return 0, 0, 0
	}
	h1, s1, b1 := checkTree(t, n.sides[front])
	h2, s2, b2 := checkTree(t, n.sides[back])
	high, size, breaks = max(h1, h2)+1, s1+s2+1, b1+b2
	if slices.Contains(separators, n.number) {
		breaks++
	}
	if h1-h2 > 1 || h2-h1 > 1 {
		t.Fatalf("a node with sides of the heights %d and %d", h1, h2)
	}
	if n.high != high || n.size != size || n.breaks != breaks {
		t.Fatalf("a node with %d, %d, %d over %d, %d, %d", n.high, n.size, n.breaks, high, size, breaks)
	}
	return high, size, breaks
}

func nodesOf(n *node, into map[*node]int) {
	if n != nil {
		into[n]++
		nodesOf(n.sides[front], into)
		nodesOf(n.sides[back], into)
	}
}

func TestWhatIsMadeOfARopeSharesItsNodes(t *testing.T) {
	d := dice(53)
	r := New(d.numbers(4000))
	old := map[*node]int{}
	nodesOf(r.top, old)
	for at := 0; at <= 4000; at += 40 {
		a, b := halves(t, r, at)
		made := []*Rope{a, b, must(t)(r.Insert(at, []rune{97})), must(t)(r.Delete(at/2, at)), must(t)(Concat(r, a))}
		for k, m := range made {
			all := map[*node]int{}
			nodesOf(m.top, all)
			fresh := 0
			for n := range all {
				if old[n] == 0 {
					fresh++
				}
			}
			if fresh > 80 {
				t.Errorf("rope %d at %d has %d nodes of its own", k, at, fresh)
			}
		}
	}
}

// notMade are ropes that no call made.
func notMade() []*Rope { return []*Rope{nil, {}, new(Rope)} }

func TestRule1RopesThatNoCallMade(t *testing.T) {
	for _, r := range notMade() {
		if r.Len() != 0 || r.Breaks() != 0 || r.Deep() != 0 {
			t.Errorf("Len, Breaks, Deep: %d, %d, %d", r.Len(), r.Breaks(), r.Deep())
		}
		for i, n := range r.All() {
			t.Errorf("All: %d, %d", i, n)
		}
		for _, i := range append([]int{0, 1}, outside...) {
			checkAt(t, r, i, 0, api.ErrNil)
			checkPara(t, r, i, 0, 0, 0, api.ErrNil)
			checkRefused(t, r, i)
		}
	}
}

// checkRefused asks a rope that no call made for others.
func checkRefused(t *testing.T, r *Rope, i int) {
	t.Helper()
	if l, e := r.Slice(i, i); len(l) != 0 || e != api.ErrNil {
		t.Errorf("Slice: %x, %d", l, e)
	}
	if made, e := r.Insert(i, []rune{97}); made != nil || e != api.ErrNil {
		t.Errorf("Insert: %v, %d", made, e)
	}
	if made, e := r.Delete(i, i); made != nil || e != api.ErrNil {
		t.Errorf("Delete: %v, %d", made, e)
	}
	if a, b, e := r.Split(i); a != nil || b != nil || e != api.ErrNil {
		t.Errorf("Split: %v, %v, %d", a, b, e)
	}
}

func TestRule1ConcatOfRopesThatNoCallMade(t *testing.T) {
	for _, wrong := range notMade() {
		for _, other := range append(notMade(), New(nil), New([]rune{97})) {
			if made, e := Concat(wrong, other); made != nil || e != api.ErrNil {
				t.Errorf("Concat: %v, %d", made, e)
			}
			if made, e := Concat(other, wrong); made != nil || e != api.ErrNil {
				t.Errorf("Concat: %v, %d", made, e)
			}
		}
	}
}

func TestRule1RopesThatBecameEmptyStand(t *testing.T) {
	r := New([]rune{97})
	empty := must(t)(r.Delete(0, 1))
	a, _ := halves(t, r, 0)
	_, b := halves(t, r, 1)
	for _, x := range []*Rope{empty, a, b, New(nil), must(t)(Concat(a, b)), must(t)(empty.Insert(0, nil))} {
		check(t, x, nil)
		check(t, must(t)(x.Insert(0, []rune{98})), []rune{98})
	}
}

func TestRule4WhatIsHandedInIsNotKept(t *testing.T) {
	room := []rune{97, 0x2029, 98, 99, 100, 101}
	l := room[:3]
	r := New(l)
	with := must(t)(r.Insert(1, l))
	if !slices.Equal(room, []rune{97, 0x2029, 98, 99, 100, 101}) {
		t.Errorf("the list has become %x", room)
	}
	for i := range room {
		room[i] = 0x0a
	}
	check(t, r, []rune{97, 0x2029, 98})
	check(t, with, []rune{97, 97, 0x2029, 98, 0x2029, 98})
}

func TestRule4WhatIsHandedOutIsNew(t *testing.T) {
	d := dice(54)
	l := d.numbers(50)
	r := New(l)
	for to := range len(l) + 1 {
		for from := range to + 1 {
			s, e := r.Slice(from, to)
			if e != api.OK {
				t.Fatal(e)
			}
			s = s[:cap(s)]
			for i := range s {
				s[i] = 0x0a
			}
			if again, _ := r.Slice(from, to); !slices.Equal(again, l[from:to]) {
				t.Fatalf("Slice(%d, %d): %x", from, to, again)
			}
		}
	}
	check(t, r, l)
}
