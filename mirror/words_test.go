package mirror

import (
	"strconv"
	"strings"
	"testing"

	"colophon/api"
	"colophon/order"
)

// Chapter 3's pairs, as they are written there: with digits to the base 16.
const pairsByWords = `
0028 0029, 005b 005d, 007b 007d, 2045 2046, 207d 207e, 208d 208e, 2329 232a, 27e6 27e7, 27e8 27e9, 27ea 27eb, 27ec 27ed, 27ee 27ef, 3008 3009, 300a 300b, 300c 300d, 300e 300f, 3010 3011, 3014 3015, 3016 3017, 3018 3019, 301a 301b,
003c 003e, 00ab 00bb, 2039 203a, 2208 220b, 2264 2265, 2266 2267, 226a 226b, 2276 2277, 2282 2283, 2286 2287`

// others tells of each number that is mirrored the other one of its pair.
var others = readPairs()

func readPairs() map[rune]rune {
	m := map[rune]rune{}
	for entry := range strings.SplitSeq(pairsByWords, ",") {
		words := strings.Fields(entry)
		one, other := hex(words[0]), hex(words[1])
		m[one], m[other] = other, one
	}
	return m
}

func hex(word string) rune {
	n, err := strconv.ParseInt(word, 16, 32)
	if err != nil {
		panic(err)
	}
	return rune(n)
}

// oddByWords tells whether a level is odd, and not below 0, by its last digit.
func oddByWords(level int) bool {
	digits := strconv.Itoa(level)
	return digits[0] != '-' && strings.Contains("13579", digits[len(digits)-1:])
}

// glyphByWords tells how a number is shown by the chapter's words.
func glyphByWords(r rune, level int) rune {
	other, found := others[r]
	if oddByWords(level) && found {
		return other
	}
	return r
}

// showByWords tells what is shown of a line that is not refused: of each place that Order tells, its glyph.
func showByWords(t *testing.T, l []rune, levels []int) []rune {
	t.Helper()
	places, e := order.Order(levels)
	if e != api.OK {
		t.Fatalf("Order(%v): %v, %d", levels, places, e)
	}
	var shown []rune
	for _, place := range places {
		shown = append(shown, glyphByWords(l[place], levels[place]))
	}
	return shown
}
