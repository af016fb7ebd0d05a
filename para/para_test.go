package para

import (
	"math"
	"slices"
	"testing"

	"colophon/api"
	"colophon/rope"
)

// edge is the greatest number that Move and Lines take, as the promises say it.
const edge = 1099511627776

// separators are the numbers of the class B, as the table of chapter 3 has them.
var separators = []rune{0x0a, 0x0d, 0x1c, 0x1d, 0x1e, 0x85, 0x2029}

// texts have separators at all kinds of places, or none, and numbers that are no scalar values, some of which have a separator's lower bits.
var texts = [][]rune{
	nil,
	{},
	{97},
	{97, 98, 99, 0x5d0, 0x661},
	{0x2029},
	{0x0d, 0x0a},
	{0x0a, 97},
	{97, 0x0a},
	{0x0a, 97, 0x0a},
	{0x0a, 0x0a, 97, 0x0a, 0x0a, 98, 0x0a, 0x0a},
	{97, 0x2029, 98},
	{97, 0x1c, 98, 0x1d, 99, 0x1e, 100, 0x85, 101, 0x2029, 102, 0x0a, 103, 0x0d, 104},
	{0x1c, 0x1d, 0x1e, 0x85, 0x2029, 0x0a, 0x0d},
	{0x1b, 0x1f, 0x84, 0x86, 0x2028, 0x202a, 0x09, 0x0b, 0x0c, 0x0e, 0x20, 0},
	{math.MinInt32, math.MaxInt32, -1, -0x0a, -0x2029, 55296, 57343, 1114111, 1114112, 1<<24 + 0x0a, 1<<21 + 0x2029, 0x10a, 0x12029},
	{-1, 0x0d, 55296, 0x0d, 0x0d, 1114112},
	{0x0d, math.MinInt32, 0x2029, math.MaxInt32, 0x0a},
}

// outside are numbers that are far from being a place.
var outside = []int{math.MinInt, math.MinInt + 1, math.MinInt32, -4097, -2, -1, math.MaxInt32, edge, math.MaxInt - 1, math.MaxInt}

// listsOf calls do with each list of some of these numbers that is no longer than length.
func listsOf[T any](numbers []T, length int, do func([]T)) {
	var more func(l []T)
	more = func(l []T) {
		do(slices.Clone(l))
		if len(l) == length {
			return
		}
		for _, n := range numbers {
			more(append(l, n))
		}
	}
	more(make([]T, 0, length))
}

// eachText calls do with the texts above, all small ones, and a long one.
func eachText(do func([]rune)) {
	for _, l := range texts {
		do(l)
	}
	listsOf([]rune{97, 0x2029, 0x0a, -0x0a}, 5, do)
	long := make([]rune, api.MaxText)
	for i := range long {
		long[i] = rune(0x2029 - i%97)
	}
	do(long)
}

// boundsByWords asks of each place by itself whether a paragraph begins there: at 0, and right behind a separator.
func boundsByWords(l []rune) [][2]int {
	var begins []int
	for i := range len(l) + 1 {
		if i == 0 || slices.Contains(separators, l[i-1]) {
			begins = append(begins, i)
		}
	}
	bounds := make([][2]int, len(begins))
	for k, begin := range begins {
		bounds[k] = [2]int{begin, len(l)}
		if k+1 < len(begins) {
			bounds[k][1] = begins[k+1]
		}
	}
	return bounds
}

func checkFind(t *testing.T, l []rune, i, want int, wantE api.Errno) {
	t.Helper()
	if n, e := Find(l, i); n != want || e != wantE {
		t.Errorf("Find(%x, %d): %d, %d; wanted %d, %d", l, i, n, e, want, wantE)
	}
}

func checkMove(t *testing.T, i, at, gone, came, want int, wantE api.Errno) {
	t.Helper()
	if n, e := Move(i, at, gone, came); n != want || e != wantE {
		t.Errorf("Move(%d, %d, %d, %d): %d, %d; wanted %d, %d", i, at, gone, came, n, e, want, wantE)
	}
}

func checkLines(t *testing.T, from, to int, breaks []int, want [][2]int, wantE api.Errno) {
	t.Helper()
	l, e := Lines(from, to, breaks)
	if !slices.Equal(l, want) || e != wantE {
		t.Errorf("Lines(%d, %d, %v): %v, %d; wanted %v, %d", from, to, breaks, l, e, want, wantE)
	}
}

func TestP5_1BoundsAsTheExamplesHaveThem(t *testing.T) {
	for _, x := range []struct {
		l    []rune
		want [][2]int
	}{
		{[]rune{97, 0x2029, 98}, [][2]int{{0, 2}, {2, 3}}},
		{[]rune{97, 0x2029}, [][2]int{{0, 2}, {2, 2}}},
		{nil, [][2]int{{0, 0}}},
		{[]rune{}, [][2]int{{0, 0}}},
		{[]rune{97, 98}, [][2]int{{0, 2}}},
		{[]rune{0x0d, 0x0a}, [][2]int{{0, 1}, {1, 2}, {2, 2}}},
		{[]rune{0x0a, 97}, [][2]int{{0, 1}, {1, 2}}},
		{[]rune{-1, 55296, 1114112, math.MinInt32}, [][2]int{{0, 4}}},
	} {
		if b := Bounds(x.l); !slices.Equal(b, x.want) {
			t.Errorf("Bounds(%x): %v; wanted %v", x.l, b, x.want)
		}
	}
}

func TestP5_1BoundsAsTheWordsHaveThem(t *testing.T) {
	eachText(func(l []rune) {
		if b, want := Bounds(l), boundsByWords(l); !slices.Equal(b, want) {
			t.Errorf("Bounds(%x): %v; wanted %v", l, b, want)
		}
	})
}

func TestP5_1WhichNumbersAreSeparators(t *testing.T) {
	check := func(r rune) {
		want := 1
		if slices.Contains(separators, r) {
			want = 2
		}
		if b := Bounds([]rune{r}); len(b) != want {
			t.Errorf("Bounds(%x): %v", r, b)
		}
	}
	for r := rune(-0x3000); r <= 0x3000; r++ {
		check(r)
	}
	for _, s := range separators {
		for shift := 8; shift < 31; shift++ {
			check(s | 1<<shift)
			check(s | -1<<shift)
		}
	}
}

func TestP5_1FindAsTheExamplesHaveIt(t *testing.T) {
	l := []rune{97, 0x2029, 98}
	for i, want := range []int{0, 0, 1, 1} {
		checkFind(t, l, i, want, api.OK)
	}
	checkFind(t, []rune{97, 0x2029}, 2, 1, api.OK)
	checkFind(t, nil, 0, 0, api.OK)
	checkFind(t, nil, 1, 0, api.ErrRange)
}

func TestP5_1FindAtEachPlace(t *testing.T) {
	eachText(func(l []rune) {
		bounds := boundsByWords(l)
		for i := range len(l) + 1 {
			// A long text is asked for some of its places alone.
			if len(l) > 100 && i%31 != 0 && i < len(l)-100 {
				continue
			}
			want := 0
			for k, p := range bounds {
				if p[0] <= i {
					want = k
				}
			}
			checkFind(t, l, i, want, api.OK)
		}
	})
}

func TestP5_1FindOutside(t *testing.T) {
	eachText(func(l []rune) {
		for _, i := range append([]int{len(l) + 1, len(l) + 2}, outside...) {
			checkFind(t, l, i, 0, api.ErrRange)
		}
	})
	room := []rune{97, 0x2029, 98, 0x2029}
	checkFind(t, room[:1], 2, 0, api.ErrRange)
	checkFind(t, room[:1:1], 2, 0, api.ErrRange)
}

func TestP5_1ParagraphsAreThoseOfARope(t *testing.T) {
	for _, l := range texts {
		r, bounds := rope.New(l), Bounds(l)
		for i := range len(l) + 1 {
			number, from, to, e := r.Para(i)
			if e != api.OK || number >= len(bounds) || bounds[number] != [2]int{from, to} {
				t.Errorf("the rope of %x has %d, %d, %d at %d; Bounds: %v", l, number, from, to, i, bounds)
			}
			checkFind(t, l, i, number, api.OK)
		}
	}
}

func TestP5_2MoveAsTheExamplesHaveIt(t *testing.T) {
	for _, x := range [][5]int{
		{5, 3, 1, 4, 8}, {3, 3, 0, 4, 7}, {3, 3, 1, 4, 3}, {2, 3, 9, 9, 2},
		// Each of these edits at 10: below it, at it, within what is taken away, at its end, and behind it.
		{0, 10, 4, 2, 0}, {9, 10, 4, 2, 9}, {10, 10, 4, 2, 10}, {11, 10, 4, 2, 10}, {13, 10, 4, 2, 10}, {14, 10, 4, 2, 12}, {15, 10, 4, 2, 13}, {99, 10, 4, 2, 97},
		// Nothing is taken away.
		{9, 10, 0, 2, 9}, {10, 10, 0, 2, 12}, {11, 10, 0, 2, 13},
		// Nothing is put.
		{9, 10, 4, 0, 9}, {10, 10, 4, 0, 10}, {13, 10, 4, 0, 10}, {14, 10, 4, 0, 10}, {15, 10, 4, 0, 11},
		// Neither.
		{9, 10, 0, 0, 9}, {10, 10, 0, 0, 10}, {11, 10, 0, 0, 11}, {0, 0, 0, 0, 0},
	} {
		checkMove(t, x[0], x[1], x[2], x[3], x[4], api.OK)
	}
}

func TestP5_2MoveAtTheEdges(t *testing.T) {
	for _, x := range [][5]int{
		{edge, 0, 0, 0, edge}, {0, edge, 0, 0, 0}, {0, 0, edge, 0, 0}, {0, 0, 0, edge, edge},
		{edge, edge, 0, 0, edge}, {edge, edge, 0, edge, 2 * edge}, {edge, edge, edge, edge, edge}, {edge, edge, 1, edge, edge},
		{edge, 0, edge, 0, 0}, {edge, 0, edge, edge, edge}, {edge, 1, edge, edge, 1}, {edge, 0, edge - 1, 0, 1},
		{edge, 0, 0, edge, 2 * edge}, {edge - 1, edge, edge, edge, edge - 1}, {edge - 1, edge - 1, 0, 1, edge}, {0, edge, edge, edge, 0},
		{edge - 1, 0, edge, edge, 0}, {edge - 1, 0, edge - 1, edge - 1, edge - 1},
	} {
		checkMove(t, x[0], x[1], x[2], x[3], x[4], api.OK)
	}
}

// moveByWords reckons from what came, instead of from the place itself.
func moveByWords(i, at, gone, came int) int {
	switch {
	case i < at:
		return i
	case gone > 0 && i-at < gone:
		return at
	}
	return at + came + (i - at - gone)
}

func TestP5_2MoveOfAllKindsOfNumbers(t *testing.T) {
	numbers := []int{math.MinInt, math.MinInt + 1, -edge, -1, 0, 1, 2, 3, 7, edge - 1, edge, edge + 1, 2 * edge, math.MaxInt - 1, math.MaxInt}
	listsOf(numbers, 4, func(l []int) {
		if len(l) < 4 {
			return
		}
		if slices.Min(l) < 0 || slices.Max(l) > edge {
			checkMove(t, l[0], l[1], l[2], l[3], 0, api.ErrArg)
		} else {
			checkMove(t, l[0], l[1], l[2], l[3], moveByWords(l[0], l[1], l[2], l[3]), api.OK)
		}
	})
}

func TestP5_2MoveRefusesEachOfTheFour(t *testing.T) {
	for k := range 4 {
		for _, wrong := range []int{-1, edge + 1, math.MaxInt, math.MinInt} {
			l := [4]int{5, 3, 1, 4}
			l[k] = wrong
			checkMove(t, l[0], l[1], l[2], l[3], 0, api.ErrArg)
		}
	}
}

func TestP5_3LinesAsTheExampleHasThem(t *testing.T) {
	for _, x := range []struct {
		from, to int
		breaks   []int
		want     [][2]int
	}{
		{2, 9, []int{4, 7}, [][2]int{{2, 4}, {4, 7}, {7, 9}}},
		{2, 9, nil, [][2]int{{2, 9}}},
		{2, 9, []int{}, [][2]int{{2, 9}}},
		{2, 9, []int{3}, [][2]int{{2, 3}, {3, 9}}},
		{2, 9, []int{8}, [][2]int{{2, 8}, {8, 9}}},
		{0, 3, []int{1, 2}, [][2]int{{0, 1}, {1, 2}, {2, 3}}},
		{0, 0, nil, [][2]int{{0, 0}}},
		{7, 7, nil, [][2]int{{7, 7}}},
		{7, 8, nil, [][2]int{{7, 8}}},
		{0, edge, nil, [][2]int{{0, edge}}},
		{edge, edge, nil, [][2]int{{edge, edge}}},
		{0, edge, []int{1, edge - 1}, [][2]int{{0, 1}, {1, edge - 1}, {edge - 1, edge}}},
	} {
		checkLines(t, x.from, x.to, x.breaks, x.want, api.OK)
	}
}

func TestP5_3LinesOfAPlaceOutside(t *testing.T) {
	for _, x := range [][2]int{
		{-1, 5}, {-1, -1}, {-2, -1}, {math.MinInt, 5}, {math.MinInt, math.MaxInt}, {math.MinInt, math.MinInt},
		{6, 5}, {1, 0}, {0, -1}, {math.MaxInt, 0}, {edge + 1, edge}, {edge, edge - 1}, {0, math.MinInt}, {math.MaxInt, math.MinInt},
		{0, edge + 1}, {edge, edge + 1}, {edge + 1, edge + 1}, {0, math.MaxInt}, {math.MaxInt, math.MaxInt},
	} {
		// ErrRange is told first, whatever the breaks are.
		for _, breaks := range [][]int{nil, {1}, {3, 4}, {4, 3}, {0}, {-1}, {x[0]}, {x[1]}, {2, 2}, {math.MaxInt, math.MinInt}} {
			checkLines(t, x[0], x[1], breaks, nil, api.ErrRange)
		}
	}
}

func TestP5_3LinesOfBreaksThatDoNotRise(t *testing.T) {
	for _, breaks := range [][]int{
		{2}, {9}, {1}, {10}, {0}, {-1}, {math.MinInt}, {math.MaxInt}, {edge}, {edge + 1},
		{4, 4}, {7, 4}, {4, 7, 5}, {4, 7, 7}, {4, 5, 4}, {2, 4}, {4, 9}, {4, 10}, {1, 4}, {4, 2}, {4, 3, 5},
		{4, 7, math.MaxInt}, {4, 7, math.MinInt}, {math.MinInt, 4}, {math.MaxInt, 4}, {3, 4, 5, 6, 7, 8, 9},
	} {
		checkLines(t, 2, 9, breaks, nil, api.ErrForm)
	}
	for _, b := range []int{math.MinInt, -1, 0, 5, 6, 7, math.MaxInt} {
		checkLines(t, 6, 6, []int{b}, nil, api.ErrForm)
		checkLines(t, 6, 7, []int{b}, nil, api.ErrForm)
	}
	checkLines(t, 0, edge, []int{edge}, nil, api.ErrForm)
	checkLines(t, 0, edge, []int{0}, nil, api.ErrForm)
	checkLines(t, edge, edge, []int{edge}, nil, api.ErrForm)
}

// linesByWords asks of each pair of neighbours whether it rises, from from over the breaks to to.
func linesByWords(from, to int, breaks []int) ([][2]int, api.Errno) {
	if from < 0 || from > to || to > edge {
		return nil, api.ErrRange
	}
	places := slices.Concat([]int{from}, breaks, []int{to})
	var lines [][2]int
	for k := range len(places) - 1 {
		if len(breaks) > 0 && places[k] >= places[k+1] {
			return nil, api.ErrForm
		}
		lines = append(lines, [2]int{places[k], places[k+1]})
	}
	return lines, api.OK
}

func TestP5_3LinesOfAllSmallBreaks(t *testing.T) {
	listsOf([]int{-1, 0, 1, 2, 3, 4, 5}, 4, func(breaks []int) {
		for from := -1; from <= 4; from++ {
			for to := -1; to <= 4; to++ {
				want, e := linesByWords(from, to, breaks)
				checkLines(t, from, to, breaks, want, e)
			}
		}
	})
}

func TestP5_3LinesOfManyBreaks(t *testing.T) {
	const many = 5000
	breaks := make([]int, many)
	for i := range breaks {
		breaks[i] = i + 1
	}
	lines, e := Lines(0, many+1, breaks)
	if len(lines) != many+1 || e != api.OK {
		t.Fatalf("Lines: %d, %d", len(lines), e)
	}
	for i, l := range lines {
		if l != [2]int{i, i + 1} {
			t.Fatalf("the line %d: %v", i, l)
		}
	}
	checkLines(t, 0, many, breaks, nil, api.ErrForm)
}

func TestP5_4ParagraphsFollowOneAnother(t *testing.T) {
	eachText(func(l []rune) {
		bounds := Bounds(l)
		end := 0
		for k, p := range bounds {
			if p[0] != end || p[1] < p[0] || p[1] > len(l) {
				t.Fatalf("Bounds(%x): the paragraph %d is %v, behind %d", l, k, p, end)
			}
			end = p[1]
			inside := l[p[0]:p[1]]
			if k < len(bounds)-1 {
				if len(inside) == 0 || !slices.Contains(separators, inside[len(inside)-1]) {
					t.Fatalf("Bounds(%x): the paragraph %d ends without a separator", l, k)
				}
				inside = inside[:len(inside)-1]
			}
			for _, r := range inside {
				if slices.Contains(separators, r) {
					t.Fatalf("Bounds(%x): the paragraph %d has another separator", l, k)
				}
			}
		}
		if end != len(l) {
			t.Fatalf("Bounds(%x): the last paragraph ends at %d", l, end)
		}
	})
}

func TestP5_4FindTellsAParagraphThatHasThePlace(t *testing.T) {
	for _, l := range texts {
		bounds := Bounds(l)
		for i := range l {
			k, e := Find(l, i)
			if e != api.OK || i < bounds[k][0] || i >= bounds[k][1] {
				t.Errorf("Find(%x, %d): %d, %d; Bounds: %v", l, i, k, e, bounds)
			}
		}
		checkFind(t, l, len(l), len(bounds)-1, api.OK)
	}
}

// moved is where a place is that may be moved.
func moved(t *testing.T, i, at, gone, came int) int {
	t.Helper()
	n, e := Move(i, at, gone, came)
	if e != api.OK {
		t.Fatalf("Move(%d, %d, %d, %d): %d", i, at, gone, came, e)
	}
	return n
}

func TestP5_4NoPlaceIsMovedBehindAGreaterOne(t *testing.T) {
	numbers := []int{0, 1, 2, 3, 4, 5, 8, edge / 2, edge - 2, edge - 1, edge}
	listsOf(numbers, 3, func(l []int) {
		if len(l) < 3 {
			return
		}
		last := 0
		for _, i := range numbers {
			n := moved(t, i, l[0], l[1], l[2])
			if n < last {
				t.Errorf("Move(%d, %v): %d, behind which a lesser place stands, at %d", i, l, n, last)
			}
			last = n
		}
	})
}

// eachEdit calls do with every edit of a list of that length.
func eachEdit(length int, do func(at, gone, came int)) {
	for at := range length + 1 {
		for gone := range length - at + 1 {
			for came := range 5 {
				do(at, gone, came)
			}
		}
	}
}

func TestP5_4WhatWasNotTakenAwayIsFound(t *testing.T) {
	for length := range 8 {
		l := make([]rune, length)
		for i := range l {
			l[i] = rune(100 + i)
		}
		eachEdit(length, func(at, gone, came int) {
			edited := slices.Concat(l[:at], make([]rune, came), l[at+gone:])
			for i, r := range l {
				n := moved(t, i, at, gone, came)
				if i >= at && i < at+gone {
					if n != at {
						t.Errorf("Move(%d, %d, %d, %d): %d, of what was taken away", i, at, gone, came, n)
					}
				} else if n >= len(edited) || edited[n] != r {
					t.Errorf("Move(%d, %d, %d, %d): %d, where it is not", i, at, gone, came, n)
				}
			}
			if n := moved(t, length, at, gone, came); n != len(edited) {
				t.Errorf("Move(%d, %d, %d, %d): the end is moved to %d of %d", length, at, gone, came, n, len(edited))
			}
		})
	}
}

func TestRule4WhatIsHandedInStaysAsItIs(t *testing.T) {
	room := []rune{97, 0x2029, 98, 0x0a, 99, 0x0a, 100}
	before := slices.Clone(room)
	Bounds(room[:5])
	Find(room[:5], 3)
	Find(room[:5], 9)
	if !slices.Equal(room, before) {
		t.Errorf("the text has become %x", room)
	}
	places := []int{4, 7, 8, 3, 1}
	for k := range len(places) + 1 {
		Lines(2, 9, places[:k])
	}
	if !slices.Equal(places, []int{4, 7, 8, 3, 1}) {
		t.Errorf("the breaks have become %v", places)
	}
}

func TestRule4WhatLiesBehindALengthIsNotRead(t *testing.T) {
	room := []rune{97, 98, 0x2029, 99}
	if b := Bounds(room[:2]); !slices.Equal(b, [][2]int{{0, 2}}) {
		t.Errorf("Bounds: %v", b)
	}
	checkFind(t, room[:2], 2, 0, api.OK)
	places := []int{4, 7, 5}
	checkLines(t, 2, 9, places[:2], [][2]int{{2, 4}, {4, 7}, {7, 9}}, api.OK)
}

// spoil writes over a list, its spare room too.
func spoil(l [][2]int) {
	l = l[:cap(l)]
	for i := range l {
		l[i] = [2]int{-5, -5}
	}
}

func TestRule4WhatIsHandedOutIsNew(t *testing.T) {
	for _, l := range texts {
		spoil(Bounds(l))
		if b := Bounds(l); !slices.Equal(b, boundsByWords(l)) {
			t.Errorf("Bounds(%x), again: %v", l, b)
		}
	}
	breaks := []int{4, 7}
	for range 2 {
		l, e := Lines(2, 9, breaks)
		if !slices.Equal(l, [][2]int{{2, 4}, {4, 7}, {7, 9}}) || e != api.OK {
			t.Errorf("Lines: %v, %d", l, e)
		}
		spoil(l)
	}
	if !slices.Equal(breaks, []int{4, 7}) {
		t.Errorf("the breaks have become %v", breaks)
	}
}

func TestRule4WhatIsHandedInIsNotKept(t *testing.T) {
	l, breaks := []rune{97, 0x2029, 98}, []int{4, 7}
	bounds := Bounds(l)
	lines, _ := Lines(2, 9, breaks)
	l[1], breaks[0], breaks[1] = 97, 5, 6
	if !slices.Equal(bounds, [][2]int{{0, 2}, {2, 3}}) || !slices.Equal(lines, [][2]int{{2, 4}, {4, 7}, {7, 9}}) {
		t.Errorf("Bounds, Lines: %v, %v", bounds, lines)
	}
}

func TestRule8ParagraphsAreGoneThroughAgainAndLeftAnywhere(t *testing.T) {
	for _, l := range texts {
		all, want := paragraphs(l), boundsByWords(l)
		for end := range len(want) + 1 {
			var seen [][2]int
			for p := range all {
				if len(seen) == end {
					break
				}
				seen = append(seen, p)
			}
			if !slices.Equal(seen, want[:end]) {
				t.Errorf("%d paragraphs of %x: %v; wanted %v", end, l, seen, want[:end])
			}
		}
	}
}
