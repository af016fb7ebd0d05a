package ucd

import (
	"math"
	"slices"
	"strconv"
	"strings"
	"testing"

	"colophon/api"
)

// The chapter's table, as it is written there: with digits to the base 16.
const (
	rangesByWords = `
0000-0008 BN, 0009 S, 000a B, 000b S, 000c WS, 000d B, 000e-001b BN, 001c-001e B, 001f S, 0020 WS,
0021-0022 ON, 0023-0025 ET, 0026-002a ON, 002b ES, 002c CS, 002d ES, 002e-002f CS, 0030-0039 EN, 003a CS, 003b-0040 ON,
005b-0060 ON, 007b-007e ON, 007f-0084 BN, 0085 B, 0086-009f BN, 00a0 CS, 00a1 ON, 00a2-00a5 ET, 00a6-00a9 ON, 00ab-00ac ON,
00ad BN, 00ae-00af ON, 00b0-00b1 ET, 00b2-00b3 EN, 00b4 ON, 00b6-00b8 ON, 00b9 EN, 00bb-00bf ON, 00d7 ON, 00f7 ON,
0300-036f NSM, 0483-0489 NSM, 0590 R, 0591-05bd NSM, 05be R, 05bf NSM, 05c0 R, 05c1-05c2 NSM, 05c3 R, 05c4-05c5 NSM,
05c6 R, 05c7 NSM, 05c8-05ff R, 0600-0605 AN, 0606-0607 ON, 0608 AL, 0609-060a ET, 060b AL, 060c CS, 060d AL,
060e-060f ON, 0610-061a NSM, 061b-064a AL, 064b-065f NSM, 0660-0669 AN, 066a ET, 066b-066c AN, 066d-066f AL, 0670 NSM, 0671-06d5 AL,
06d6-06dc NSM, 06dd AN, 06de ON, 06df-06e4 NSM, 06e5-06e6 AL, 06e7-06e8 NSM, 06e9 ON, 06ea-06ed NSM, 06ee-06ef AL, 06f0-06f9 EN,
06fa-0710 AL, 0711 NSM, 0712-072f AL, 0730-074a NSM, 074b-07a5 AL, 07a6-07b0 NSM, 07b1-07bf AL, 07c0-07ea R, 07eb-07f3 NSM, 07f4-07f5 R,
07f6-07f9 ON, 07fa-085f R, 2000-200a WS, 200b-200d BN, 200f R, 2010-2027 ON, 2028 WS, 2029 B, 202a LRE, 202b RLE,
202c PDF, 202d LRO, 202e RLO, 202f CS, 2030-2034 ET, 2035-2043 ON, 2044 CS, 2045-205e ON, 205f WS, 2060-2065 BN,
2066 LRI, 2067 RLI, 2068 FSI, 2069 PDI, 206a-206f BN, 2070 EN, 2074-2079 EN, 207a-207b ES, 207c-207e ON, 2080-2089 EN,
208a-208b ES, 208c-208e ON, 20a0-20cf ET, 20d0-20f0 NSM, 2190-2211 ON, 2212 ES, 2213 ET, 2214-2335 ON, 2500-26ab ON, 27e6-27ef ON,
3000 WS, 3001-3004 ON, 3008-3020 ON, fb1d R, fb1e NSM, fb1f-fb28 R, fb29 ES, fb2a-fb4f R, fb50-fdff AL, fe00-fe0f NSM,
fe70-fefe AL, feff BN, 10800-10fff R, 1d7ce-1d7ff EN, 1e800-1edff R, 1ee00-1eeff AL, e0100-e01ef NSM`
	bracketsByWords = `0028 0029, 005b 005d, 007b 007d, 2045 2046, 207d 207e, 208d 208e, 2329 232a, 27e6 27e7, 27e8 27e9, 27ea 27eb, 27ec 27ed, 27ee 27ef, 3008 3009, 300a 300b, 300c 300d, 300e 300f, 3010 3011, 3014 3015, 3016 3017, 3018 3019, 301a 301b`
	mirroredByWords = `003c 003e, 00ab 00bb, 2039 203a, 2208 220b, 2264 2265, 2266 2267, 226a 226b, 2276 2277, 2282 2283, 2286 2287`
)

// classNames are the classes by their names, as the table has them.
var classNames = map[string]int{
	"L": api.L, "R": api.R, "AL": api.AL, "EN": api.EN, "ES": api.ES, "ET": api.ET, "AN": api.AN, "CS": api.CS,
	"NSM": api.NSM, "BN": api.BN, "B": api.B, "S": api.S, "WS": api.WS, "ON": api.ON, "LRE": api.LRE, "LRO": api.LRO,
	"RLE": api.RLE, "RLO": api.RLO, "PDF": api.PDF, "LRI": api.LRI, "RLI": api.RLI, "FSI": api.FSI, "PDI": api.PDI,
}

// noScalars are numbers that are no scalar values, the edges among them.
var noScalars = []rune{
	math.MinInt32, math.MinInt32 + 1, -1114112, -1114111, -0x3008, -0x5d0, -97, -41, -40, -2, -1,
	55296, 55297, 56319, 56320, 57342, 57343,
	1114112, 1114113, 1114112 + 40, 1 << 24, 1<<24 + 40, 1<<30 + 40, math.MaxInt32 - 1, math.MaxInt32,
}

func hex(t *testing.T, word string) rune {
	t.Helper()
	n, err := strconv.ParseInt(word, 16, 32)
	if err != nil {
		t.Fatal(err)
	}
	return rune(n)
}

func tableByWords(t *testing.T) []api.Range {
	t.Helper()
	var list []api.Range
	for entry := range strings.SplitSeq(rangesByWords, ",") {
		words := strings.Fields(entry)
		if len(words) != 2 || classNames[words[1]] == 0 {
			t.Fatalf("%q is no entry of the table", entry)
		}
		lo, hi, found := strings.Cut(words[0], "-")
		if !found {
			hi = lo
		}
		list = append(list, api.Range{Lo: hex(t, lo), Hi: hex(t, hi), Class: classNames[words[1]]})
	}
	return list
}

func pairsByWords(t *testing.T, table string) [][2]rune {
	t.Helper()
	var list [][2]rune
	for entry := range strings.SplitSeq(table, ",") {
		words := strings.Fields(entry)
		if len(words) != 2 {
			t.Fatalf("%q is no pair", entry)
		}
		list = append(list, [2]rune{hex(t, words[0]), hex(t, words[1])})
	}
	return list
}

// everyNumber goes through all scalar values, and far beyond them on both sides.
func everyNumber(yield func(rune) bool) {
	for r := rune(-70000); r < 1114112+70000; r++ {
		if !yield(r) {
			return
		}
	}
}

func isScalar(r rune) bool { return r >= 0 && r <= 1114111 && (r < 55296 || r > 57343) }

func checkClass(t *testing.T, r rune, want int) {
	t.Helper()
	if class := Class(r); class != want {
		t.Errorf("Class(%x): %d; wanted %d", r, class, want)
	}
}

func checkBracket(t *testing.T, r rune, wantKind int, wantPair rune) {
	t.Helper()
	if kind, pair := Bracket(r); kind != wantKind || pair != wantPair {
		t.Errorf("Bracket(%x): %d, %x; wanted %d, %x", r, kind, pair, wantKind, wantPair)
	}
}

func checkCanon(t *testing.T, r, want rune) {
	t.Helper()
	if canon := Canon(r); canon != want {
		t.Errorf("Canon(%x): %x; wanted %x", r, canon, want)
	}
}

func checkMirror(t *testing.T, r, want rune, wantOk bool) {
	t.Helper()
	if m, ok := Mirror(r); m != want || ok != wantOk {
		t.Errorf("Mirror(%x): %x, %v; wanted %x, %v", r, m, ok, want, wantOk)
	}
}

func TestP3_1RangesAreTheTable(t *testing.T) {
	got, want := Ranges(), tableByWords(t)
	if len(got) != 147 || len(want) != 147 {
		t.Fatalf("%d ranges; the table has %d", len(got), len(want))
	}
	for i, r := range got {
		if r != want[i] {
			t.Errorf("range %d: %x; wanted %x", i, r, want[i])
		}
	}
}

func TestP3_1RangesRise(t *testing.T) {
	last := rune(-1)
	for _, r := range Ranges() {
		if r.Lo <= last || r.Hi < r.Lo {
			t.Errorf("the range %x does not rise behind %x", r, last)
		}
		last = r.Hi
	}
	if last > 1114111 {
		t.Errorf("the ranges end with %x", last)
	}
}

// TestP3_1ClassAtTheEdges asks for the first and the last of each range, and for what stands ahead of it and behind it.
func TestP3_1ClassAtTheEdges(t *testing.T) {
	list := tableByWords(t)
	for i, r := range list {
		checkClass(t, r.Lo, r.Class)
		checkClass(t, r.Hi, r.Class)
		ahead, behind := api.L, api.L
		if r.Lo == 0 {
			ahead = 0
		}
		if i > 0 && list[i-1].Hi == r.Lo-1 {
			ahead = list[i-1].Class
		}
		if i+1 < len(list) && list[i+1].Lo == r.Hi+1 {
			behind = list[i+1].Class
		}
		checkClass(t, r.Lo-1, ahead)
		checkClass(t, r.Hi+1, behind)
	}
}

// TestP3_1ClassOfEveryNumber holds Class against the table gone through from its beginning.
func TestP3_1ClassOfEveryNumber(t *testing.T) {
	list := tableByWords(t)
	for r := range everyNumber {
		for len(list) > 0 && list[0].Hi < r {
			list = list[1:]
		}
		want := api.L
		switch {
		case !isScalar(r):
			want = 0
		case len(list) > 0 && list[0].Lo <= r:
			want = list[0].Class
		}
		checkClass(t, r, want)
	}
}

func TestP3_1ClassOfNoScalar(t *testing.T) {
	for _, r := range noScalars {
		checkClass(t, r, 0)
	}
	for r := rune(55296); r <= 57343; r++ {
		checkClass(t, r, 0)
	}
	for _, r := range []rune{55295, 57344, 1114111} {
		checkClass(t, r, api.L)
	}
	checkClass(t, 0, api.BN)
}

func TestP3_1EveryClassIsThere(t *testing.T) {
	seen := map[int]bool{api.L: true}
	for _, r := range Ranges() {
		seen[r.Class] = true
	}
	for class := api.L; class <= api.PDI; class++ {
		if !seen[class] {
			t.Errorf("no range has the class %d", class)
		}
	}
	if len(seen) != api.PDI {
		t.Errorf("%d classes; wanted %d", len(seen), api.PDI)
	}
}

func TestP3_2Brackets(t *testing.T) {
	pairs := pairsByWords(t, bracketsByWords)
	if len(pairs) != 21 {
		t.Fatalf("%d pairs", len(pairs))
	}
	for _, p := range pairs {
		checkBracket(t, p[0], 1, p[1])
		checkBracket(t, p[1], 2, p[0])
		checkMirror(t, p[0], p[1], true)
		checkMirror(t, p[1], p[0], true)
	}
}

func TestP3_2OthersAreMirrored(t *testing.T) {
	pairs := pairsByWords(t, mirroredByWords)
	if len(pairs) != 10 {
		t.Fatalf("%d pairs", len(pairs))
	}
	for _, p := range pairs {
		checkMirror(t, p[0], p[1], true)
		checkMirror(t, p[1], p[0], true)
		checkBracket(t, p[0], 0, 0)
		checkBracket(t, p[1], 0, 0)
	}
}

func TestP3_2Canon(t *testing.T) {
	checkCanon(t, 0x2329, 0x3008)
	checkCanon(t, 0x232a, 0x3009)
	for _, r := range []rune{0, 97, 0x28, 0x29, 0x5d0, 0x2328, 0x232b, 0x3007, 0x3008, 0x3009, 0x300a, 1114111} {
		checkCanon(t, r, r)
	}
}

// TestP3_2EveryOtherNumber: of what stands in no pair all three calls know nothing.
func TestP3_2EveryOtherNumber(t *testing.T) {
	known := map[rune]bool{}
	for _, p := range slices.Concat(pairsByWords(t, bracketsByWords), pairsByWords(t, mirroredByWords)) {
		known[p[0]], known[p[1]] = true, true
	}
	for r := range everyNumber {
		if !known[r] {
			checkBracket(t, r, 0, 0)
			checkMirror(t, r, 0, false)
		}
		if r != 0x2329 && r != 0x232a {
			checkCanon(t, r, r)
		}
	}
}

func TestP3_2NoScalars(t *testing.T) {
	for _, r := range noScalars {
		checkBracket(t, r, 0, 0)
		checkMirror(t, r, 0, false)
		checkCanon(t, r, r)
	}
}

func TestP3_3NoTwoRangesMeet(t *testing.T) {
	list := Ranges()
	for i, a := range list {
		for _, b := range list[:i] {
			if a.Lo <= b.Hi && b.Lo <= a.Hi {
				t.Errorf("%x and %x meet", a, b)
			}
		}
	}
}

func TestP3_3PairsHaveTheClassON(t *testing.T) {
	brackets, others := 0, 0
	for r := range everyNumber {
		kind, pair := Bracket(r)
		m, ok := Mirror(r)
		if kind != 0 {
			brackets++
			if m != pair || !ok {
				t.Errorf("the partner of %x is %x, and it is mirrored to %x, %v", r, pair, m, ok)
			}
			if back, self := Bracket(pair); back != 3-kind || self != r {
				t.Errorf("the partner of %x is %x, whose partner is %x", r, pair, self)
			}
		}
		if !ok {
			continue
		}
		others++
		checkClass(t, r, api.ON)
		if m == r {
			t.Errorf("%x is mirrored to itself", r)
		}
		checkMirror(t, m, r, true)
	}
	if brackets != 42 || others != 62 {
		t.Errorf("%d brackets, and %d that are mirrored; wanted 42 and 62", brackets, others)
	}
}

func TestP3_3AlikeByCanon(t *testing.T) {
	all := pairsByWords(t, bracketsByWords)
	alike := 0
	for _, p := range all {
		for _, q := range all {
			if p == q || Canon(p[0]) != Canon(q[0]) {
				continue
			}
			alike++
			_, a := Bracket(p[0])
			_, b := Bracket(q[0])
			if Canon(a) != Canon(b) {
				t.Errorf("%x and %x are alike, their partners %x and %x are not", p[0], q[0], a, b)
			}
		}
		for r, partner := range map[rune]rune{p[0]: p[1], p[1]: p[0]} {
			kind, pair := Bracket(Canon(r))
			if own, _ := Bracket(r); kind != own || pair != Canon(partner) {
				t.Errorf("%x stands for %x: %d, %x", Canon(r), r, kind, pair)
			}
			checkCanon(t, Canon(r), Canon(r))
		}
	}
	if alike != 2 {
		t.Errorf("%d brackets are alike; wanted 2329 and 3008", alike)
	}
}

func TestExamples(t *testing.T) {
	checkClass(t, 'a', api.L)
	checkClass(t, 0x05d0, api.R)
	checkClass(t, 0x0661, api.AN)
	checkClass(t, 0x2067, api.RLI)
	checkClass(t, 0xd800, 0)
	checkBracket(t, 0x0028, 1, 0x0029)
	checkCanon(t, 0x2329, 0x3008)
	checkMirror(t, 0x003c, 0x003e, true)
	checkMirror(t, 'a', 0, false)
}

// TestRule4RangesAreNew: whatever is done to an answer, its spare room too, no other answer changes.
func TestRule4RangesAreNew(t *testing.T) {
	want := tableByWords(t)
	first, second := Ranges(), Ranges()
	spoil(first)
	if !slices.Equal(second, want) || !slices.Equal(Ranges(), want) {
		t.Errorf("spoiling an answer of Ranges changed another one")
	}
	second = append(second[:5], api.Range{Lo: 97, Hi: 122, Class: api.R})
	spoil(second)
	if !slices.Equal(Ranges(), want) {
		t.Errorf("spoiling an answer of Ranges changed a later one")
	}
	checkClass(t, 97, api.L)
	checkClass(t, 0, api.BN)
	checkClass(t, 0x5d0, api.R)
	checkClass(t, 0xe01ef, api.NSM)
}

// spoil overwrites a list and its spare room.
func spoil(list []api.Range) {
	list = list[:cap(list)]
	for i := range list {
		list[i] = api.Range{Lo: 1, Hi: 1114111, Class: api.PDI}
	}
}
