package mirror

import (
	"maps"
	"math"
	"slices"
	"testing"

	"colophon/api"
	"colophon/levels"
	"colophon/order"
	"colophon/utf"
)

var (
	// noScalars are numbers that are no scalar values; some have the lower bits of one that is mirrored.
	noScalars = []rune{
		math.MinInt32, math.MinInt32 + 1, math.MinInt32 + '(', -1114112, -1114111, -0x3008, -0x5d0, -256 + '(', -'(', -')', -40, -2, -1,
		55296, 55297, 55296 + '(', 56319, 56320, 57342, 57343,
		1114112, 1114113, 1114112 + '(', 1 << 24, 1<<24 + '<', 1<<30 + '(', math.MaxInt32 - 1, math.MaxInt32,
	}
	// anyLevels are numbers that Glyph takes, and Show does not.
	anyLevels   = []int{math.MinInt, math.MinInt + 1, math.MinInt32, math.MinInt32 + 1, -1 << 32, -1<<32 + 1, -257, -256, -255, -128, -127, -3, -2, 128, 129, 130, 255, 256, 257, 1 << 32, 1<<32 + 1, math.MaxInt32, math.MaxInt - 1, math.MaxInt}
	rightLevels = upTo(-1, 127)
)

// levelChoices are levels that small lists are made of.
var levelChoices = [][]int{
	{-1, 0, 1, 2, 3}, {0, 1, 2, 3, 4}, {-1, 1, 2, 4}, {-1, 0, 2, 4}, {1, 3, 5}, {0, 3, 4, 7}, {-1, 2, 5, 6}, {-1, 0, 1, 126, 127}, {-1, 124, 125, 126},
}

// mixture is what texts are cut out of: brackets, others that are mirrored, some that are not, and no scalar values.
var mixture = []rune{'a', '(', 0x5d0, ']', '<', 'b', 0x2329, ' ', 0xbb, -5, ')', 0x300b, '0', 0xd800, 0x2208, '[', 0x200b, 0x110000, '>', 0x5d1, 0x2286}

// list puts some together, as a list.
func list(some ...int) []int { return some }

// text puts some together, as a text.
func text(some ...rune) []rune { return some }

// upTo are the levels from one up to another one, it too.
func upTo(from, to int) []int {
	var l []int
	for level := from; level <= to; level++ {
		l = append(l, level)
	}
	return l
}

// textOf is a text of so many numbers out of the mixture, from one of them on.
func textOf(count, from int) []rune {
	l := make([]rune, count)
	for i := range l {
		l[i] = mixture[(from+i)%len(mixture)]
	}
	return l
}

// listsOf calls do with each list of some of these that is no longer than length.
func listsOf[T any](some []T, length int, do func([]T)) {
	var more func(l []T)
	more = func(l []T) {
		do(slices.Clone(l))
		if len(l) == length {
			return
		}
		for _, x := range some {
			more(append(l, x))
		}
	}
	more(make([]T, 0, length))
}

// mixed are long lists of some of these, always the same ones.
func mixed[T any](some []T, count, length int, do func([]T)) {
	seed := uint64(14)
	for range count {
		l := make([]T, length)
		for i := range l {
			seed = seed*6364136223846793005 + 1442695040888963407
			l[i] = some[int(seed>>33)%len(some)]
		}
		do(l)
	}
}

// linesOf calls do with each line of some of these numbers and levels that is no longer than length.
func linesOf(numbers []rune, levels []int, length int, do func(l []rune, levels []int)) {
	listsOf(upTo(0, len(numbers)*len(levels)-1), length, func(both []int) {
		l, told := make([]rune, len(both)), make([]int, len(both))
		for i, x := range both {
			l[i], told[i] = numbers[x/len(levels)], levels[x%len(levels)]
		}
		do(l, told)
	})
}

// everyNumber goes through all scalar values, and far beyond them on both sides.
func everyNumber(yield func(rune) bool) {
	for r := rune(-70000); r < 1114112+70000; r++ {
		if !yield(r) {
			return
		}
	}
}

func checkGlyph(t *testing.T, r rune, level int, want rune) {
	t.Helper()
	if got := Glyph(r, level); got != want {
		t.Fatalf("Glyph(%x, %d): %x; wanted %x", r, level, got, want)
	}
}

func checkShow(t *testing.T, l []rune, levels []int, want []rune) {
	t.Helper()
	if got, e := Show(l, levels); e != api.OK || !slices.Equal(got, want) {
		t.Fatalf("Show(%x, %v): %x, %d; wanted %x", l, levels, got, e, want)
	}
}

func checkShowError(t *testing.T, l []rune, levels []int, want api.Errno) {
	t.Helper()
	if got, e := Show(l, levels); e != want || len(got) != 0 {
		t.Fatalf("Show(%x, %v): %x, %d; wanted the error %d", l, levels, got, e, want)
	}
}

// mustShow is what is shown of a line that is not refused.
func mustShow(t *testing.T, l []rune, levels []int) []rune {
	t.Helper()
	got, e := Show(l, levels)
	if e != api.OK {
		t.Fatalf("Show(%x, %v): %x, %d", l, levels, got, e)
	}
	return got
}

func TestP14_1Examples(t *testing.T) {
	// Those of the chapter, number by number.
	checkGlyph(t, 'a', 0, 'a')
	checkGlyph(t, '(', 1, ')')
	checkGlyph(t, 'b', 1, 'b')
	checkGlyph(t, 0x5d0, 1, 0x5d0)
	checkGlyph(t, 0x200b, -1, 0x200b)
}

func TestP14_1EachThatIsMirrored(t *testing.T) {
	if len(others) != 62 {
		t.Fatalf("%d numbers are mirrored by chapter 3", len(others))
	}
	for r, other := range others {
		for level := -301; level <= 301; level++ {
			if level > 0 && level&1 != 0 {
				checkGlyph(t, r, level, other)
			} else {
				checkGlyph(t, r, level, r)
			}
		}
		for _, level := range anyLevels {
			checkGlyph(t, r, level, glyphByWords(r, level))
		}
	}
}

func TestP14_1LevelsAtTheEdges(t *testing.T) {
	for _, level := range list(math.MinInt, math.MinInt+1, math.MinInt+2, math.MinInt32, math.MinInt32+1, -1<<32-1, -1<<32+1, -129, -127, -3, -2, -1, 0, 2, 126, 128, 256, 1<<32, math.MaxInt-1) {
		checkGlyph(t, '(', level, '(')
		checkGlyph(t, '>', level, '>')
	}
	for _, level := range list(1, 3, 125, 127, 129, 255, 257, math.MaxInt32, 1<<32+1, math.MaxInt-2, math.MaxInt) {
		checkGlyph(t, '(', level, ')')
		checkGlyph(t, '>', level, '<')
	}
}

func TestP14_1EveryNumber(t *testing.T) {
	for r := range everyNumber {
		want, found := others[r]
		if !found {
			want = r
		}
		checkGlyph(t, r, 1, want)
		checkGlyph(t, r, 0, r)
		checkGlyph(t, r, -1, r)
	}
}

func TestP14_1NoScalars(t *testing.T) {
	for _, r := range noScalars {
		for _, level := range slices.Concat(rightLevels, anyLevels) {
			checkGlyph(t, r, level, r)
		}
	}
}

func TestP14_2Examples(t *testing.T) {
	checkShow(t, text('a', '(', 'b'), list(0, 1, 1), text('a', 'b', ')'))
	checkShow(t, text(0x5d0, 0x5d1), list(1, 1), text(0x5d1, 0x5d0))
	checkShow(t, text('a', 0x200b, 'b'), list(0, -1, 0), text('a', 'b'))
	// Those of the whole.
	checkShow(t, text('a', 0x5d0, 0x5d1, 'b'), list(0, 1, 1, 0), text('a', 0x5d1, 0x5d0, 'b'))
	checkShow(t, text(0x5d0, '(', 'a', ')'), list(1, 1, 2, 1), text('(', 'a', ')', 0x5d0))
}

func TestP14_2Empty(t *testing.T) {
	checkShow(t, nil, nil, nil)
	checkShow(t, []rune{}, []int{}, nil)
	checkShow(t, nil, []int{}, nil)
	checkShow(t, []rune{}, nil, nil)
}

func TestP14_2OneNumberAlone(t *testing.T) {
	for _, r := range slices.Concat(mixture, noScalars) {
		checkShow(t, text(r), list(-1), nil)
		for level := range 128 {
			checkShow(t, text(r), list(level), text(glyphByWords(r, level)))
		}
	}
	for r, other := range others {
		checkShow(t, text(r), list(1), text(other))
		checkShow(t, text(r), list(2), text(r))
	}
}

// Each of these is worked out by hand.
func TestP14_2WorkedOut(t *testing.T) {
	for _, x := range []struct {
		l      string
		levels []int
		want   string
	}{
		{"(a)", list(0, 0, 0), "(a)"},
		{"(a)", list(1, 1, 1), "(a)"},
		{"(a]", list(1, 1, 1), "[a)"},
		{"((a", list(1, 1, 1), "a))"},
		{"a<b", list(2, 1, 2), "b>a"},
		{"a(b)c", list(0, 1, 1, 1, 0), "a(b)c"},
		{"[<{(", list(0, 0, 1, 0), "[<}("},
		// What is shown to the right within what goes to the left is as it is.
		{"(ab)", list(1, 2, 2, 1), "(ab)"},
		{"a[b]", list(1, 2, 2, 1), "[[ba"},
		{"((((", list(3, 2, 1, 0), "))(("},
		{"((((", list(1, 2, 3, 4), "(())"},
		{"(<", list(127, 126), ")<"},
		// What is not seen is not shown, whatever it is, and parts nothing.
		{"(a)b", list(-1, 1, -1, -1), "a"},
		{"a(b)c", list(1, 1, -1, -1, 1), "c)a"},
		{"a<b>c", list(0, 1, -1, 1, 0), "a<>c"},
	} {
		checkShow(t, []rune(x.l), x.levels, []rune(x.want))
	}
}

// Each number has the level of its own place, wherever it is shown.
func TestP14_2LevelsGoWithTheirPlaces(t *testing.T) {
	l := slices.Repeat(text('('), 5)
	checkShow(t, l, list(0, 0, 1, 0, 0), []rune("(()(("))
	checkShow(t, l, list(1, 2, 2, 2, 2), []rune("(((()"))
	checkShow(t, l, list(1, 1, 1, 1, 2), []rune("())))"))
	checkShow(t, l, list(2, 2, 1, 1, -1), []rune("))(("))
}

func TestP14_2NoneIsSeen(t *testing.T) {
	for count := range 70 {
		checkShow(t, textOf(count, count), slices.Repeat(list(-1), count), nil)
	}
}

func TestP14_2AsTheWordsHaveIt(t *testing.T) {
	check := func(l []rune, levels []int) { checkShow(t, l, levels, showByWords(t, l, levels)) }
	for _, some := range levelChoices {
		listsOf(some, 5, func(levels []int) {
			for from := range mixture {
				check(textOf(len(levels), from), levels)
			}
		})
	}
	listsOf(rightLevels, 2, func(levels []int) {
		for _, from := range list(0, 1, 8, 14) {
			check(textOf(len(levels), from), levels)
		}
	})
	linesOf(text('a', '(', ']', 0xab, 0x5d0), list(-1, 0, 1, 2), 3, check)
	linesOf(text('a', '>', ')'), list(-1, 1, 2), 4, check)
	linesOf(text('(', -1, 0xd800, 0x110000), list(-1, 1, 2, 3), 3, check)
	linesOf(append(slices.Sorted(maps.Keys(others)), 'a'), list(1, 2), 2, check)
}

func TestP14_2LongLines(t *testing.T) {
	for _, some := range append(levelChoices, rightLevels, upTo(0, 127), upTo(0, 3), list(1, 2), list(-1, -1, -1, -1, 1, 4)) {
		mixed(some, 4, 4096, func(levels []int) {
			mixed(mixture, 2, 4096, func(l []rune) { checkShow(t, l, levels, showByWords(t, l, levels)) })
		})
	}
}

// far is how long the longest lists are; putting what is shown together anew at each place would take far too long.
const far = 1 << 18

func TestP14_2FarLines(t *testing.T) {
	l := slices.Repeat(text('a', '('), far)
	checkShow(t, l, slices.Repeat(list(0), 2*far), l)
	checkShow(t, l, slices.Repeat(list(127), 2*far), slices.Repeat(text(')', 'a'), far))
	checkShow(t, l, slices.Repeat(list(1, 2), far), slices.Repeat(text('(', 'a'), far))
	checkShow(t, l, slices.Repeat(list(-1, 1), far), slices.Repeat(text(')'), far))
	checkShow(t, l, slices.Repeat(list(-1), 2*far), nil)
}

func TestP14_2NoScalars(t *testing.T) {
	for n := range noScalars {
		l := noScalars[n:]
		checkShow(t, l, slices.Repeat(list(0), len(l)), l)
		turned := slices.Clone(l)
		slices.Reverse(turned)
		checkShow(t, l, slices.Repeat(list(1), len(l)), turned)
	}
}

func TestP14_2UnlikeLengths(t *testing.T) {
	for count := range 8 {
		for other := range 8 {
			for _, level := range list(-1, 0, 1, 127, 128, -2) {
				if count != other {
					checkShowError(t, textOf(count, 0), slices.Repeat(list(level), other), api.ErrArg)
				}
			}
		}
	}
	checkShowError(t, nil, list(0), api.ErrArg)
	checkShowError(t, text('a'), nil, api.ErrArg)
	checkShowError(t, text('a'), []int{}, api.ErrArg)
	checkShowError(t, textOf(4096, 0), slices.Repeat(list(1), 4095), api.ErrArg)
	checkShowError(t, textOf(4095, 0), slices.Repeat(list(-1), 4096), api.ErrArg)
}

func TestP14_2WrongLevels(t *testing.T) {
	for _, level := range anyLevels {
		for count := range 6 {
			for at := range count {
				levels := list(0, 1, -1, 127, 2)[:count]
				levels[at] = level
				checkShowError(t, textOf(count, 0), levels, api.ErrArg)
			}
		}
	}
}

func TestP14_2WhichLevelsMayBe(t *testing.T) {
	for level := -300; level <= 300; level++ {
		if level < -1 || level > 127 {
			checkShowError(t, text('('), list(level), api.ErrArg)
			checkShowError(t, text('a', '('), list(-1, level), api.ErrArg)
			continue
		}
		l := text('(', 'a')
		checkShow(t, l, list(level, level), showByWords(t, l, list(level, level)))
	}
	checkShow(t, text('(', '(', '('), list(-1, 127, 0), text(')', '('))
}

// Nothing is said of how long a line may be.
func TestP14_2LongerThanADocument(t *testing.T) {
	l := textOf(api.MaxText+1, 3)
	checkShow(t, l, make([]int, len(l)), l)
}

// eachLine calls do with small lines and long ones, none of which is refused.
func eachLine(do func(l []rune, levels []int)) {
	for _, some := range levelChoices {
		listsOf(some, 4, func(levels []int) { do(textOf(len(levels), len(levels)), levels) })
		mixed(some, 4, 300, func(levels []int) { do(textOf(len(levels), 5), levels) })
	}
	mixed(rightLevels, 4, 300, func(levels []int) { do(textOf(len(levels), 9), levels) })
}

func TestP14_3AsManyAsAreSeen(t *testing.T) {
	eachLine(func(l []rune, levels []int) {
		count := 0
		for _, level := range levels {
			if level >= 0 {
				count++
			}
		}
		if shown := mustShow(t, l, levels); len(shown) != count {
			t.Fatalf("Show(%x, %v): %x are %d; wanted %d", l, levels, shown, len(shown), count)
		}
	})
}

// eachText calls do with small texts and long ones.
func eachText(do func(l []rune)) {
	listsOf(text('a', '(', ')', '<', 0x5d0), 4, do)
	listsOf(append(slices.Sorted(maps.Keys(others)), 'a', -1, 0xdfff), 2, do)
	mixed(mixture, 10, 4096, do)
	do(noScalars)
	do(mixture)
}

func TestP14_3AllLevels0(t *testing.T) {
	eachText(func(l []rune) { checkShow(t, l, make([]int, len(l)), l) })
}

func TestP14_3AllLevels1(t *testing.T) {
	eachText(func(l []rune) {
		ones := slices.Repeat(list(1), len(l))
		turned := make([]rune, 0, len(l))
		for i := range l {
			turned = append(turned, glyphByWords(l[len(l)-1-i], 1))
		}
		checkShow(t, l, ones, turned)
		checkShow(t, mustShow(t, l, ones), ones, l)
	})
}

// whole tells what is shown of the places from from up to to of a paragraph, from its bytes on.
func whole(t *testing.T, bytes string, base, from, to int) []rune {
	t.Helper()
	l, _, e := utf.Decode([]byte(bytes))
	if e != api.OK {
		t.Fatalf("Decode(%x): %d", bytes, e)
	}
	level, told, e := levels.Paragraph(l, base)
	if e != api.OK {
		t.Fatalf("Paragraph(%x, %d): %d", l, base, e)
	}
	line, e := order.Line(levels.Classes(l), told, level, from, to)
	if e != api.OK {
		t.Fatalf("Line: %d", e)
	}
	return mustShow(t, l[from:to], line)
}

func TestW1ExamplesOfTheWhole(t *testing.T) {
	for _, base := range list(0, -1) {
		if got := whole(t, "a\xd7\x90\xd7\x91b", base, 0, 4); !slices.Equal(got, text('a', 0x5d1, 0x5d0, 'b')) {
			t.Errorf("the first example, base %d: %x", base, got)
		}
	}
	for _, base := range list(1, -1) {
		if got := whole(t, "\xd7\x90(a)", base, 0, 4); !slices.Equal(got, text('(', 'a', ')', 0x5d0)) {
			t.Errorf("the second example, base %d: %x", base, got)
		}
	}
}

// Each of these is worked out by hand, from the paragraph's bytes on.
func TestW1WorkedOut(t *testing.T) {
	for _, x := range []struct {
		l              string
		base, from, to int
		want           string
	}{
		{"", -1, 0, 0, ""},
		{"ab (c)", -1, 0, 6, "ab (c)"},
		{"\u05d0\u05d1", -1, 0, 2, "\u05d1\u05d0"},
		// A blank at a line's end goes to the side where the paragraph ends.
		{"\u05d0 b", 0, 0, 3, "\u05d0 b"},
		{"a \u05d0", 1, 0, 2, " a"},
		{"a \u05d0", 0, 0, 2, "a "},
		{"a \u05d0", 1, 0, 3, "\u05d0 a"},
		// Digits go to the right within what goes to the left.
		{"\u05d0 12", -1, 0, 4, "12 \u05d0"},
		{"\u05d0<12", -1, 0, 4, "12>\u05d0"},
		// What is removed is not shown; initiators and their partners are.
		{"a\u200bb", -1, 0, 3, "ab"},
		{"\u202e(a\u202c)", -1, 0, 5, "a))"},
		{"a\u2067(b\u2069", -1, 0, 5, "a\u2067b)\u2069"},
	} {
		if got := whole(t, x.l, x.base, x.from, x.to); !slices.Equal(got, []rune(x.want)) {
			t.Errorf("%q, base %d, %d to %d: %q; wanted %q", x.l, x.base, x.from, x.to, string(got), x.want)
		}
	}
}

// spoil overwrites a list, its spare room too.
func spoil[T any](l []T, with T) {
	l = l[:cap(l)]
	for i := range l {
		l[i] = with
	}
}

// samples are levels of many kinds, none of which is refused.
var samples = [][]int{nil, {}, {0}, {1}, {-1}, {0, 1, 1, 0}, {1, 2, 2, 1}, {1, -1, 0}, {3, 3, -1, 4, 127, 0}, {2, 2, 2, 2, 2}, {1, 1, 1}}

func TestRule4WhatIsHandedInStaysAsItIs(t *testing.T) {
	for _, sample := range append(samples, list(1, -2, 1), list(1, 128)) {
		levels := append(slices.Clone(sample), 5, 6, 7)
		l := textOf(len(levels), 1)
		levelsBefore, before := slices.Clone(levels), slices.Clone(l)
		Show(l[:len(sample)], levels[:len(sample)])
		Show(l, levels[:len(sample)])
		Show(l[:len(sample)], levels)
		if !slices.Equal(l, before) || !slices.Equal(levels, levelsBefore) {
			t.Errorf("%x, %v have become %x, %v", before, levelsBefore, l, levels)
		}
	}
}

func TestRule4WhatIsHandedOutIsNew(t *testing.T) {
	for _, sample := range samples {
		levels := append(slices.Clone(sample), 5, 6, 7)
		l := textOf(len(levels), 1)
		levelsBefore, before := slices.Clone(levels), slices.Clone(l)
		shown := mustShow(t, l[:len(sample)], levels[:len(sample)])
		again := mustShow(t, l[:len(sample)], levels[:len(sample)])
		want := slices.Clone(again)
		_ = append(shown, -9, -9)
		spoil(shown, -9)
		if !slices.Equal(l, before) || !slices.Equal(levels, levelsBefore) || !slices.Equal(again, want) {
			t.Errorf("%x, %v have become %x, %v, %x", before, levelsBefore, l, levels, again)
		}
	}
}

func TestRule4WhatIsHandedInIsNotKept(t *testing.T) {
	l, levels := text('a', '(', 'b'), list(0, 1, 1)
	shown := mustShow(t, l, levels)
	spoil(l, 'x')
	spoil(levels, 0)
	if !slices.Equal(shown, text('a', 'b', ')')) {
		t.Errorf("what was shown has become %x", shown)
	}
	// What was kept of a call would be seen in the next one.
	checkShow(t, text('(', ')'), list(1, 0), text(')', ')'))
	checkShow(t, text('('), list(-1), nil)
}

func TestRule8WhatLiesBehindALengthIsNotRead(t *testing.T) {
	levels := list(0, 1, 1, 128, -2, 1)
	l := text('a', '(', 'b', 'c', 'd', 'e')
	checkShow(t, l[:3], levels[:3], text('a', 'b', ')'))
	checkShow(t, l[:0], levels[:0], nil)
	checkShow(t, l[1:2], levels[1:2], text(')'))
	checkShowError(t, l[:3], levels[:2], api.ErrArg)
	checkShowError(t, l[:2], levels[:3], api.ErrArg)
	checkShowError(t, l[:4], levels[:4], api.ErrArg)
}
