package spot

import (
	"slices"
	"testing"

	"colophon/api"
	"colophon/levels"
	"colophon/mirror"
	"colophon/order"
	"colophon/para"
	"colophon/utf"
)

// decode is the text of some bytes, which are one.
func decode(t *testing.T, bytes string) []rune {
	t.Helper()
	text, at, e := utf.Decode([]byte(bytes))
	if e != api.OK {
		t.Fatalf("Decode(%x): %d, %d", bytes, at, e)
	}
	return text
}

// lineOf tells the levels of a line of a paragraph, and the paragraph's level.
func lineOf(t *testing.T, paragraph []rune, base, from, to int) (line []int, level int) {
	t.Helper()
	level, told, e := levels.Paragraph(paragraph, base)
	if e != api.OK {
		t.Fatalf("Paragraph(%x, %d): %d", paragraph, base, e)
	}
	line, e = order.Line(levels.Classes(paragraph), told, level, from, to)
	if e != api.OK {
		t.Fatalf("Line: %d", e)
	}
	return line, level
}

// walk tells which places a cursor comes to, from one on, till there is no further stop. It is the one that it starts at, too.
func walk(t *testing.T, spots []complex128, place, by int) []int {
	t.Helper()
	places, e := list(place), api.OK
	for {
		if place, e = Step(spots, place, by); e != api.OK {
			break
		}
		if places = append(places, place); len(places) > len(spots) {
			t.Fatalf("%v has too many steps: %v", spots, places)
		}
	}
	if e != api.ErrEdge || place != 0 {
		t.Fatalf("the last step of %v: %d, %d", spots, place, e)
	}
	return places
}

func TestW2ThirdExample(t *testing.T) {
	text := decode(t, "a\xd7\x90\xd7\x91b")
	for _, base := range list(0, -1) {
		line, level := lineOf(t, text, base, 0, 4)
		told := mustSpots(t, line, level)
		if got := walk(t, told, 4, -1); !slices.Equal(got, list(4, 3, 1, 2, 0)) {
			t.Errorf("base %d: to the left: %v", base, got)
		}
		if got := walk(t, told, 0, 1); !slices.Equal(got, list(0, 2, 1, 3, 4)) {
			t.Errorf("base %d: to the right: %v", base, got)
		}
	}
}

// Each of these is worked out by hand, from the bytes on: the places that a cursor comes to from the left.
func TestW2WorkedOut(t *testing.T) {
	for _, x := range []struct {
		bytes          string
		base, from, to int
		want           []int
	}{
		{"", -1, 0, 0, list(0)},
		{"ab", -1, 0, 2, list(0, 1, 2)},
		{"ab", 1, 0, 2, list(2, 0, 1)},
		{"\xd7\x90\xd7\x91", -1, 0, 2, list(2, 1, 0)},
		{"\xd7\x90\xd7\x91", 0, 0, 2, list(1, 0, 2)},
		{"\xd7\x90(a)", -1, 0, 4, list(4, 3, 2, 1, 0)},
		// Digits go to the right within what goes to the left.
		{"\xd7\x90 12", -1, 0, 4, list(4, 2, 3, 1, 0)},
		// A blank at a line's end goes to the side where the line ends.
		{"a \xd7\x90", 1, 0, 2, list(2, 1, 0)},
		{"a \xd7\x90", 1, 0, 3, list(3, 2, 1, 0)},
		{"a\xd7\x90 b", 0, 0, 3, list(0, 1, 2, 3)},
		{"\xd7\x90 b", 0, 0, 3, list(0, 1, 2, 3)},
		// What is removed is passed over.
		{"a\xe2\x80\x8bb", -1, 0, 3, list(0, 2, 3)},
		{"\xd7\x90\xe2\x80\x8b", -1, 0, 2, list(2, 0)},
		{"\xe2\x80\xae(a\xe2\x80\xac)", -1, 0, 5, list(2, 1, 4, 5)},
	} {
		line, level := lineOf(t, decode(t, x.bytes), x.base, x.from, x.to)
		told := mustSpots(t, line, level)
		place, e := Offset(told, 0+1i)
		if got := walk(t, told, place, 1); e != api.OK || !slices.Equal(got, x.want) {
			t.Errorf("%q, base %d, %d to %d: %v, %d; wanted %v", x.bytes, x.base, x.from, x.to, got, e, x.want)
		}
	}
}

// checkWalks goes through a line from each edge: each place that is come to shows what is shown next, and the line's end alone nothing.
func checkWalks(t *testing.T, l []rune, line []int, level int) {
	t.Helper()
	shown, e := mirror.Show(l, line)
	if e != api.OK {
		t.Fatalf("Show(%x, %v): %d", l, line, e)
	}
	told := mustSpots(t, line, level)
	left, e := Offset(told, 0+1i)
	if e != api.OK {
		t.Fatalf("%v has no left edge: %d", told, e)
	}
	places := walk(t, told, left, 1)
	var glyphs []rune
	for _, place := range places {
		if place < len(l) {
			glyphs = append(glyphs, mirror.Glyph(l[place], line[place]))
		}
	}
	if !slices.Equal(glyphs, shown) || len(places) != len(shown)+1 || !slices.Contains(places, len(l)) {
		t.Fatalf("%x, the levels %v, %d: the places %v show %x; wanted %x", l, line, level, places, glyphs, shown)
	}
	back := walk(t, told, places[len(places)-1], -1)
	slices.Reverse(back)
	if !slices.Equal(back, places) {
		t.Fatalf("%v: %v to the right, %v to the left", told, places, back)
	}
}

// eachParagraph calls do with each paragraph of each small text, from its bytes on.
func eachParagraph(t *testing.T, some []rune, length int, do func(paragraph []rune)) {
	t.Helper()
	listsOf(some, length, func(text []rune) {
		l := decode(t, string(text))
		for _, bounds := range para.Bounds(l) {
			do(l[bounds[0]:bounds[1]])
		}
	})
}

func TestW1WalksShowWhatIsShown(t *testing.T) {
	for _, base := range list(-1, 0, 1) {
		some := []rune{'a', 0x5d0, '(', '>', '1', ' ', 9, 0x200b, 0x202e, 0x202c, 0x2067, 0x2069, 0x2029}
		eachParagraph(t, some, 3, func(paragraph []rune) {
			for to := range len(paragraph) + 1 {
				for from := range to + 1 {
					line, level := lineOf(t, paragraph, base, from, to)
					checkWalks(t, paragraph[from:to], line, level)
				}
			}
		})
		eachParagraph(t, []rune{'a', 0x5d0, '(', '2', ' ', 0x200b}, 5, func(paragraph []rune) {
			line, level := lineOf(t, paragraph, base, 0, len(paragraph))
			checkWalks(t, paragraph, line, level)
		})
		mixed(append(some[:len(some)-1], 'b', 0x5d1, 0x627, 0x2066, 0x2068, 0x202a, 0x202b, ')', '<'), 20, 400, func(paragraph []rune) {
			line, level := lineOf(t, paragraph, base, 0, len(paragraph))
			checkWalks(t, paragraph, line, level)
			line, level = lineOf(t, paragraph, base, 130, 290)
			checkWalks(t, paragraph[130:290], line, level)
		})
	}
}
