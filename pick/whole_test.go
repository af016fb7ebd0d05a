package pick

import (
	"slices"
	"testing"

	"colophon/api"
	"colophon/levels"
	"colophon/mirror"
	"colophon/order"
	"colophon/para"
	"colophon/utf"
)

// decode is the text of some bytes, which are one.
func decode(t *testing.T, bytes string) []rune {
	t.Helper()
	text, at, e := utf.Decode([]byte(bytes))
	if e != api.OK {
		t.Fatalf("Decode(%x): %d, %d", bytes, at, e)
	}
	return text
}

// lineOf tells the levels of a line of a paragraph.
func lineOf(t *testing.T, paragraph []rune, base, from, to int) []int {
	t.Helper()
	level, told, e := levels.Paragraph(paragraph, base)
	if e != api.OK {
		t.Fatalf("Paragraph(%x, %d): %d", paragraph, base, e)
	}
	line, e := order.Line(levels.Classes(paragraph), told, level, from, to)
	if e != api.OK {
		t.Fatalf("Line: %d", e)
	}
	return line
}

func TestW2FourthExample(t *testing.T) {
	text := decode(t, "a\xd7\x90\xd7\x91b")
	for _, base := range list(0, -1) {
		line := lineOf(t, text, base, 0, 4)
		runs := pairs([2]int{0, 1}, [2]int{2, 3})
		checkRuns(t, line, 0, 2, runs)
		checkPlaces(t, line, runs, list(0, 1))
	}
}

// Each of these is worked out by hand, from the bytes on.
func TestW2WorkedOut(t *testing.T) {
	for _, x := range []struct {
		bytes          string
		base, from, to int
		want           [][2]int
	}{
		{"", -1, 0, 0, nil},
		{"ab", -1, 1, 2, pairs([2]int{1, 2})},
		{"ab", 1, 1, 2, pairs([2]int{1, 2})},
		{"\xd7\x90\xd7\x91", -1, 0, 1, pairs([2]int{1, 2})},
		// 5d0 ( a ) is shown as ( a ) 5d0.
		{"\xd7\x90(a)", -1, 0, 2, pairs([2]int{2, 4})},
		{"\xd7\x90(a)", -1, 1, 4, pairs([2]int{0, 3})},
		{"\xd7\x90(a)", -1, 1, 2, pairs([2]int{2, 3})},
		// Digits go to the right within what goes to the left: 1 2, a blank, 5d0.
		{"\xd7\x90 12", -1, 0, 3, pairs([2]int{0, 1}, [2]int{2, 4})},
		{"\xd7\x90 12", -1, 2, 4, pairs([2]int{0, 2})},
		// A blank at a line's end goes to the side where the line ends.
		{"a \xd7\x90 ", 1, 0, 1, pairs([2]int{3, 4})},
		{"a \xd7\x90 ", 1, 2, 4, pairs([2]int{0, 2})},
		{"\xd7\x90 ", 0, 0, 1, pairs([2]int{0, 1})},
		// What is removed has no column.
		{"a\xe2\x80\x8bb", -1, 1, 2, nil},
		{"a\xe2\x80\x8bb", -1, 0, 3, pairs([2]int{0, 2})},
		{"\xe2\x80\xae(a\xe2\x80\xac)", -1, 0, 2, pairs([2]int{1, 2})},
		{"\xe2\x80\xae(a\xe2\x80\xac)", -1, 2, 5, pairs([2]int{0, 1}, [2]int{2, 3})},
	} {
		text := decode(t, x.bytes)
		checkRuns(t, lineOf(t, text, x.base, 0, len(text)), x.from, x.to, x.want)
	}
}

// glyphs are those of the places that are seen from one up to (without) another one, sorted.
func glyphs(l []rune, line []int, from, to int) []rune {
	var told []rune
	for place := from; place < to; place++ {
		if line[place] != -1 {
			told = append(told, mirror.Glyph(l[place], line[place]))
		}
	}
	slices.Sort(told)
	return told
}

// checkPicked tells the glyphs that stand in the columns of a range's runs from those that do not: the ones are those of the range's places, the others those of the other places, each once.
func checkPicked(t *testing.T, l []rune, line []int, from, to int) {
	t.Helper()
	shown, e := mirror.Show(l, line)
	if e != api.OK {
		t.Fatalf("Show(%x, %v): %d", l, line, e)
	}
	var picked, others []rune
	end := 0
	for _, run := range mustRuns(t, line, from, to) {
		others = append(others, shown[end:run[0]]...)
		picked = append(picked, shown[run[0]:run[1]]...)
		end = run[1]
	}
	others = append(others, shown[end:]...)
	slices.Sort(picked)
	slices.Sort(others)
	rest := slices.Concat(glyphs(l, line, 0, from), glyphs(l, line, to, len(l)))
	slices.Sort(rest)
	if !slices.Equal(picked, glyphs(l, line, from, to)) || !slices.Equal(others, rest) {
		t.Fatalf("%x, the levels %v, from %d to %d: %x are picked, %x are not", l, line, from, to, picked, others)
	}
}

// eachParagraph calls do with each paragraph of each small text, from its bytes on.
func eachParagraph(t *testing.T, some []rune, length int, do func(paragraph []rune)) {
	t.Helper()
	listsOf(some, length, func(text []rune) {
		l := decode(t, string(text))
		for _, bounds := range para.Bounds(l) {
			do(l[bounds[0]:bounds[1]])
		}
	})
}

func TestW1WhatIsPickedShowsTheRange(t *testing.T) {
	some := []rune{'a', 0x5d0, '(', '>', '1', ' ', 9, 0x200b, 0x202e, 0x202c, 0x2067, 0x2069, 0x2029}
	for _, base := range list(-1, 0, 1) {
		whole := func(paragraph []rune) {
			line := lineOf(t, paragraph, base, 0, len(paragraph))
			eachRange(len(line), func(from, to int) { checkPicked(t, paragraph, line, from, to) })
		}
		eachParagraph(t, some, 3, whole)
		eachParagraph(t, []rune{'a', 0x5d0, '(', '2', ' ', 0x200b}, 4, whole)
		mixed(append(some[:len(some)-1:len(some)-1], 'b', 0x5d1, 0x627, 0x2066, 0x2068, 0x202a, 0x202b, ')', '<'), 20, 400, func(paragraph []rune) {
			line := lineOf(t, paragraph, base, 130, 290)
			for from := 0; from < len(line); from += 9 {
				checkPicked(t, paragraph[130:290], line, from, min(from+40, len(line)))
				checkPicked(t, paragraph[130:290], line, from, len(line))
			}
		})
	}
}

// Of numbers that are all unlike one another, and none of which is mirrored, a glyph tells its place.
func TestW2WhatIsPickedIsWhatIsMarked(t *testing.T) {
	text := decode(t, "ab\xd7\x90\xd7\x91 12\xe2\x81\xa73c\xd7\x92\xe2\x81\xa9\xe2\x80\x8b\xd8\xa74!d\xd7\x93\t")
	for _, base := range list(-1, 0, 1) {
		line := lineOf(t, text, base, 0, len(text))
		shown, e := mirror.Show(text, line)
		if e != api.OK {
			t.Fatalf("Show(%x, %v): %d", text, line, e)
		}
		eachRange(len(text), func(from, to int) {
			runs := mustRuns(t, line, from, to)
			places, e := Places(line, runs)
			if e != api.OK {
				t.Fatalf("Places(%v, %v): %d", line, runs, e)
			}
			columns := columnsOf(runs)
			for column, glyph := range shown {
				place := slices.Index(text, glyph)
				picked := slices.Contains(columns, column)
				if picked != (place >= from && place < to) || picked != slices.Contains(places, place) {
					t.Fatalf("base %d, from %d to %d: the columns %v, the places %v: %x", base, from, to, columns, places, glyph)
				}
			}
		})
	}
}
