package levels

import (
	"math"
	"slices"
	"strconv"
	"testing"

	"colophon/api"
	"colophon/ucd"
)

// One number of each class, and brackets.
const (
	latin      = 'a'
	hebrew     = 0x5d0
	arabic     = 0x627
	digit      = '1'
	plus       = '+'
	percent    = '%'
	arabDigit  = 0x661
	comma      = ','
	mark       = 0x300
	joiner     = 0x200d
	separator  = 0x2029
	tab        = 9
	blank      = ' '
	sign       = '!'
	lre        = 0x202a
	lro        = 0x202d
	rle        = 0x202b
	rlo        = 0x202e
	pdf        = 0x202c
	lri        = 0x2066
	rli        = 0x2067
	fsi        = 0x2068
	pdi        = 0x2069
	openAngle  = 0x2329
	shutAngle  = 0x232a
	openCorner = 0x3008
	shutCorner = 0x3009
)

// classOf are the classes of those above, in api's order.
var classOf = []struct {
	r     rune
	class int
}{
	{latin, api.L}, {hebrew, api.R}, {arabic, api.AL}, {digit, api.EN}, {plus, api.ES}, {percent, api.ET}, {arabDigit, api.AN}, {comma, api.CS}, {mark, api.NSM}, {joiner, api.BN}, {separator, api.B}, {tab, api.S},
	{blank, api.WS}, {sign, api.ON}, {lre, api.LRE}, {lro, api.LRO}, {rle, api.RLE}, {rlo, api.RLO}, {pdf, api.PDF}, {lri, api.LRI}, {rli, api.RLI}, {fsi, api.FSI}, {pdi, api.PDI},
}

var (
	bases      = []int{-1, 0, 1}
	wrongBases = []int{math.MinInt, math.MinInt + 1, math.MinInt32, -1 << 32, -257, -256, -126, -3, -2, 2, 3, 4, 125, 126, 255, 256, 257, 1 << 32, 1<<32 + 1, math.MaxInt - 1, math.MaxInt}
	separators = []rune{0xa, 0xd, 0x1c, 0x1d, 0x1e, 0x85, 0x2029}
	noScalars  = []rune{math.MinInt32, math.MinInt32 + latin, -0x10000, -latin, -1, 0xd800, 0xd801, 0xdbff, 0xdc00, 0xdfff, 0x110000, 0x110000 + latin, 1 << 24, math.MaxInt32 - 1, math.MaxInt32}
	joiners    = []rune{0, 8, 0xe, 0x1b, 0x7f, 0x86, 0x9f, 0xad, 0x200b, 0x200d, 0x2060, 0x2065, 0x206f, 0xfeff}
)

// list puts some together, as a list.
func list[T any](some ...T) []T { return some }

// repeat puts the same ones together some times over.
func repeat[T any](count int, some ...T) []T { return slices.Repeat(some, count) }

func join[T any](lists ...[]T) []T { return slices.Concat(lists...) }

// hex tells numbers as the document writes them.
func hex(l []rune) string {
	var b []byte
	for i, r := range l {
		if i > 0 {
			b = append(b, ' ')
		}
		b = strconv.AppendInt(b, int64(r), 16)
	}
	return string(b)
}

// listsOf calls do with each list of some of these that is no longer than length.
func listsOf(some []rune, length int, do func([]rune)) {
	var more func(l []rune)
	more = func(l []rune) {
		do(slices.Clone(l))
		if len(l) == length {
			return
		}
		for _, r := range some {
			more(append(l, r))
		}
	}
	more(make([]rune, 0, length))
}

// mixed are long lists of some of these, always the same ones.
func mixed(some []rune, count, length int, do func([]rune)) {
	seed := uint64(12)
	for range count {
		l := make([]rune, length)
		for i := range l {
			seed = seed*6364136223846793005 + 1442695040888963407
			l[i] = some[int(seed>>33)%len(some)]
		}
		do(l)
	}
}

// allButSeparators are one number of each class but B, and a pair of brackets.
func allButSeparators() []rune {
	l := list('(', ')')
	for _, x := range classOf {
		if x.class != api.B {
			l = append(l, x.r)
		}
	}
	return l
}

// choices are numbers whose classes have to do with one another.
var choices = [][]rune{
	{latin, hebrew, arabic, digit, arabDigit, plus, comma, percent},
	{latin, hebrew, digit, '(', ')', '[', ']', mark},
	{latin, arabic, digit, openAngle, shutAngle, openCorner, shutCorner, blank},
	{latin, hebrew, lri, rli, fsi, pdi, sign},
	{latin, hebrew, rle, lro, rlo, pdf, digit},
	{hebrew, digit, rli, pdi, '(', ')', mark},
	{arabic, digit, comma, lri, pdi, joiner, percent},
	{hebrew, blank, tab, lre, rlo, fsi, pdi, pdf},
	{latin, hebrew, lre, rle, '(', ')', pdf},
}

// deepStarts lead up to the deepest levels, and beyond them, by embeddings, by isolates, and by both in turn.
func deepStarts() [][]rune {
	var starts [][]rune
	for _, pair := range [][]rune{{rle, lre}, {rli, lri}, {rlo, lri}, {fsi, rle}} {
		for n := 61; n <= 63; n++ {
			starts = append(starts, repeat(n, pair...), join(list[rune](lre), repeat(n, pair...)))
		}
	}
	return starts
}

// eachSmall calls do with all small lists over the choices, with and without a separator at the end.
func eachSmall(length int, do func([]rune)) {
	for _, some := range choices {
		listsOf(some, length, do)
		listsOf(some, length-2, func(l []rune) { do(append(l, separator)) })
	}
}

// eachText calls do with small lists, of the choices those no longer than length, with small ones behind deep starts, and with long ones.
func eachText(length int, do func([]rune)) {
	listsOf(allButSeparators(), 3, do)
	listsOf(allButSeparators(), 2, func(l []rune) { do(append(l, separator)) })
	eachSmall(length, do)
	listsOf(list[rune](latin, hebrew, rli, pdi, mark), length+1, do)
	listsOf(list[rune]('(', ')', rli, pdi, digit), length+1, do)
	for _, start := range deepStarts() {
		listsOf(list[rune](latin, hebrew, digit, rle, lri, pdi, pdf), 2, func(l []rune) { do(join(start, l)) })
		do(join(start, list[rune](latin, '(', hebrew, ')', digit, comma, digit), repeat[rune](130, pdi, hebrew, pdf, latin, sign)))
		do(join(start, list[rune](rli, arabic, digit, pdi, blank, lri, hebrew), repeat[rune](130, pdi, percent), list[rune](digit, separator)))
	}
	eachLong(do)
}

// eachLong calls do with long lists over the choices, and over all.
func eachLong(do func([]rune)) {
	for _, some := range choices {
		mixed(some, 6, 150, do)
	}
	mixed(allButSeparators(), 40, 150, do)
	mixed(join(allButSeparators(), repeat[rune](6, pdi, pdf)), 40, 300, do)
	mixed(join(allButSeparators(), repeat[rune](3, latin, hebrew, blank, pdi)), 2, 4096, do)
}

func check(t *testing.T, l []rune, base, wantLevel int, want ...int) {
	t.Helper()
	if level, got, e := Paragraph(l, base); e != api.OK || level != wantLevel || !slices.Equal(got, want) {
		t.Fatalf("Paragraph(%s, %d): %d, %v, %d; wanted %d, %v", hex(l), base, level, got, e, wantLevel, want)
	}
}

func checkError(t *testing.T, l []rune, base int, want api.Errno) {
	t.Helper()
	if level, got, e := Paragraph(l, base); level != 0 || len(got) != 0 || e != want {
		t.Fatalf("Paragraph of %d numbers, base %d: %d, %d levels, %d; wanted the error %d", len(l), base, level, len(got), e, want)
	}
}

// checkByWords asks for all bases.
func checkByWords(t *testing.T, l []rune) {
	t.Helper()
	for _, base := range bases {
		level, want := paragraphByWords(l, base)
		check(t, l, base, level, want...)
	}
}

// mustParagraph is what is told of a paragraph that is not refused.
func mustParagraph(t *testing.T, l []rune, base int) (int, []int) {
	t.Helper()
	level, got, e := Paragraph(l, base)
	if e != api.OK || len(got) != len(l) {
		t.Fatalf("Paragraph(%s, %d): %d, %v, %d", hex(l), base, level, got, e)
	}
	return level, got
}

func TestP12_1EachClass(t *testing.T) {
	var all []rune
	var want []int
	for _, x := range classOf {
		if got := Classes(list(x.r)); !slices.Equal(got, list(x.class)) {
			t.Errorf("Classes of %x: %v", x.r, got)
		}
		all, want = append(all, x.r, x.r), append(want, x.class, x.class)
	}
	if got := Classes(all); !slices.Equal(got, want) {
		t.Errorf("Classes of one of each class, twice: %v", got)
	}
	for k, x := range classOf {
		if x.class != k+1 {
			t.Errorf("no number of the class %d", k+1)
		}
	}
}

func TestP12_1NoScalarValues(t *testing.T) {
	for _, r := range noScalars {
		if got := Classes(list(r)); !slices.Equal(got, list(0)) {
			t.Errorf("Classes of %x: %v", r, got)
		}
		if got := Classes(list(latin, r, hebrew, r)); !slices.Equal(got, list(api.L, 0, api.R, 0)) {
			t.Errorf("Classes of a, %x, 5d0, %x: %v", r, r, got)
		}
	}
}

func TestP12_1Empty(t *testing.T) {
	for _, l := range [][]rune{nil, {}} {
		if got := Classes(l); len(got) != 0 {
			t.Errorf("Classes of none: %v", got)
		}
	}
}

// Separators may stand anywhere, and lists may be longer than a paragraph.
func TestP12_1AllNumbers(t *testing.T) {
	var l []rune
	for r := rune(-300); r < 0x11000; r++ {
		l = append(l, r)
	}
	for r := rune(0x1d700); r <= 0x1ef00; r++ {
		l = append(l, r)
	}
	for r := rune(0x10fff0); r < 0x110010; r++ {
		l = append(l, r)
	}
	got := Classes(l)
	if len(got) != len(l) {
		t.Fatalf("%d classes of %d numbers", len(got), len(l))
	}
	for i, r := range l {
		if got[i] != ucd.Class(r) {
			t.Errorf("the class of %x: %d", r, got[i])
		}
	}
}

func TestP12_2Examples(t *testing.T) {
	check(t, list[rune]('a', 'b'), -1, 0, 0, 0)
	check(t, list[rune](hebrew, 'a'), -1, 1, 1, 2)
	check(t, list[rune]('a', hebrew, '1'), 0, 0, 0, 1, 2)
	check(t, list[rune](hebrew, '(', 'a', ')'), -1, 1, 1, 1, 2, 1)
	check(t, list[rune]('a', 0x2067, hebrew, 0x2069, 'b'), -1, 0, 0, 0, 1, 0, 0)
	// Those of the whole.
	check(t, list[rune]('a', 0x5d0, 0x5d1, 'b'), 0, 0, 0, 1, 1, 0)
	check(t, list[rune](0x5d0, '(', 'a', ')'), 1, 1, 1, 1, 2, 1)
}

func TestP12_2Empty(t *testing.T) {
	for _, l := range [][]rune{nil, {}} {
		check(t, l, -1, 0)
		check(t, l, 0, 0)
		check(t, l, 1, 1)
	}
}

func TestP12_2OneNumberAlone(t *testing.T) {
	// Of each class its level, by itself, in a paragraph of the level 0, and in one of the level 1.
	want := map[int][3]int{
		api.L: {0, 0, 2}, api.R: {1, 1, 1}, api.AL: {1, 1, 1},
		api.EN: {0, 0, 2}, api.AN: {2, 2, 2},
	}
	for _, x := range classOf {
		levels, own := [3]int{0, 0, 1}, 0
		if told, ok := want[x.class]; ok {
			levels = told
		}
		if isRemoved(x.class) {
			levels = [3]int{-1, -1, -1}
		}
		if x.class == api.R || x.class == api.AL {
			own = 1
		}
		check(t, list(x.r), -1, own, levels[0])
		check(t, list(x.r), 0, 0, levels[1])
		check(t, list(x.r), 1, 1, levels[2])
	}
	for _, r := range separators {
		check(t, list(r), -1, 0, 0)
		check(t, list(r), 0, 0, 0)
		check(t, list(r), 1, 1, 1)
	}
	check(t, list[rune](0x10ffff), -1, 0, 0)
	check(t, list[rune](0), -1, 0, -1)
}

// Each of these is worked out by hand.
func TestP12_2WorkedOut(t *testing.T) {
	for _, x := range []struct {
		l           []rune
		base, level int
		want        []int
	}{
		// Numbers behind letters of both directions.
		{list[rune](arabic, '1', ',', '2', '%'), -1, 1, list(1, 2, 2, 2, 1)},
		{list[rune](hebrew, '1', ',', '2', '%'), -1, 1, list(1, 2, 2, 2, 2)},
		{list[rune](latin, '1', ',', '2', '%'), 1, 1, list(2, 2, 2, 2, 2)},
		{list[rune](hebrew, '1', '+', arabDigit), 0, 0, list(1, 2, 1, 2)},
		{list[rune](arabic, '1', '+', '2'), 1, 1, list(1, 2, 1, 2)},
		{list[rune](arabDigit, ',', arabDigit, mark), 0, 0, list(2, 2, 2, 2)},
		// What ends a paragraph.
		{list[rune](hebrew, blank, tab, separator), 0, 0, list(1, 0, 0, 0)},
		{list[rune](latin, blank, separator), 1, 1, list(2, 1, 1)},
		{list[rune](rle, latin, blank, 0xa), 0, 0, list(-1, 2, 1, 0)},
		// A mark on a PDI is as a sign.
		{list[rune](hebrew, rli, latin, pdi, mark, hebrew), -1, 1, list(1, 1, 4, 1, 1, 1)},
		{list[rune](latin, mark, hebrew, mark), 0, 0, list(0, 0, 1, 1)},
		{list[rune](mark, hebrew), 0, 0, list(0, 1)},
		{list[rune](rle, mark, latin), 0, 0, list(-1, 1, 2)},
		// Overrides, and what lies in them.
		{list[rune](rlo, 'a', '1', sign, pdf, 'b'), 0, 0, list(-1, 1, 1, 1, -1, 0)},
		{list[rune](lro, hebrew, arabDigit, pdf, hebrew), 0, 0, list(-1, 2, 2, -1, 1)},
		{list[rune](rlo, lri, hebrew, '1', pdi, '(', pdf), 0, 0, list(-1, 1, 3, 4, 1, 1, -1)},
		// A run beside deeper ones takes its ends from them.
		{list[rune](sign, rle, hebrew, pdf, sign), 0, 0, list(0, -1, 1, -1, 0)},
		{list[rune](hebrew, sign, rle, sign, hebrew), 0, 0, list(1, 1, -1, 1, 1)},
		{list[rune](hebrew, sign, lre, latin, pdf, sign, hebrew), 0, 0, list(1, 0, -1, 2, -1, 0, 1)},
		{list[rune](latin, sign, rle, hebrew, pdf, hebrew), 0, 0, list(0, 0, -1, 1, -1, 1)},
		// What lies around an isolate is one sequence: number, sign and number, brackets, and what stands ahead.
		{list[rune](hebrew, '1', lri, latin, pdi, '2'), 0, 0, list(1, 2, 1, 2, 1, 2)},
		{list[rune](hebrew, rli, 'a', pdi, hebrew), 0, 0, list(1, 1, 2, 1, 1)},
		{list[rune](latin, lri, hebrew, pdi, '1'), 1, 1, list(2, 2, 3, 2, 2)},
		{list[rune]('(', rli, latin, pdi, hebrew, ')'), 1, 1, list(1, 1, 4, 1, 1, 1)},
		{list[rune](latin, '(', rli, hebrew, pdi, ')', latin), 1, 1, list(2, 2, 2, 3, 2, 2, 2)},
		{list[rune](arabic, lri, latin, pdi, '1'), 0, 0, list(1, 1, 2, 1, 2)},
		{list[rune](latin, rli, '(', hebrew, ')', lri, latin, pdi, blank, pdi, latin), 0, 0, list(0, 0, 1, 1, 1, 1, 2, 1, 1, 0, 0)},
		// An initiator without a PDI has the paragraph's level behind it.
		{list[rune](hebrew, rli, hebrew), 0, 0, list(1, 0, 1)},
		{list[rune](rle, hebrew, lri, latin), 0, 0, list(-1, 1, 1, 2)},
		// FSIs by what they hold.
		{list[rune](fsi, hebrew, pdi, fsi, latin, pdi), 0, 0, list(0, 1, 0, 0, 2, 0)},
		{list[rune](fsi, lri, latin, pdi, hebrew, pdi, latin), -1, 0, list(0, 1, 2, 1, 1, 0, 0)},
		{list[rune](fsi, '1', pdi, hebrew), -1, 1, list(1, 2, 1, 1)},
		// A paragraph's own level leaves out isolates, and their PDIs' lack.
		{list[rune](rli, hebrew, pdi, latin), -1, 0, list(0, 1, 0, 0)},
		{list[rune](pdi, rle, '1', latin, hebrew), -1, 0, list(0, -1, 2, 2, 1)},
		{list[rune](lri, latin, hebrew), -1, 0, list(0, 2, 3)},
		// Brackets: one within another, and a mark on one, which in an override is none.
		{list[rune](hebrew, '(', latin, '[', hebrew, ']', ')', latin), 0, 0, list(1, 0, 0, 0, 1, 0, 0, 0)},
		{list[rune](latin, '(', hebrew, ')', mark, hebrew), 0, 0, list(0, 0, 1, 0, 0, 1)},
		{list[rune](latin, '(', latin, ')', mark, hebrew), 1, 1, list(2, 2, 2, 2, 2, 1)},
		{list[rune](rle, latin, '(', latin, ')', mark, pdf), 0, 0, list(-1, 2, 2, 2, 2, 2, -1)},
		{list[rune](rle, latin, '(', latin, ')', pdf, rlo, mark, pdf), 0, 0, list(-1, 2, 2, 2, 2, -1, -1, 1, -1)},
		{list[rune](rle, latin, '(', latin, ')', pdf, mark, pdi), 0, 0, list(-1, 2, 2, 2, 2, -1, 1, 0)},
		{list[rune](openAngle, latin, shutCorner, hebrew), 1, 1, list(1, 2, 1, 1)},
		{list[rune](latin, openAngle, latin, shutCorner, hebrew), 1, 1, list(2, 2, 2, 2, 1)},
		{list[rune](latin, openAngle, latin, ')', hebrew), 1, 1, list(2, 2, 2, 1, 1)},
	} {
		check(t, x.l, x.base, x.level, x.want...)
	}
}

func TestP12_2DeepestLevels(t *testing.T) {
	for _, x := range []struct {
		start, l []rune
		base     int
		want     []int
	}{
		{repeat[rune](62, rle, lre), list[rune](latin, hebrew, digit, arabDigit), 0, list(124, 125, 126, 126)},
		{join(repeat[rune](62, rle, lre), list[rune](rle)), list[rune](latin, hebrew, digit, sign), 0, list(126, 125, 126, 125)},
		{join(repeat[rune](61, rle, lre), list[rune](rle)), list[rune](latin, hebrew, digit, sign), 1, list(126, 125, 126, 125)},
		// There is no deeper one: embeddings and isolates that overflow change nothing, and end.
		{repeat[rune](62, rle, lre), list[rune](lre, latin, hebrew, pdf, pdf, latin), 0, list(-1, 124, 125, -1, -1, 124)},
		{repeat[rune](63, rle, lre), list[rune](latin, pdf, latin, pdf, latin), 0, list(126, -1, 126, -1, 124)},
		{repeat[rune](62, rle, lre), list[rune](lri, hebrew, pdi, rli, latin, digit, pdi), 0, list(124, 125, 124, 124, 126, 126, 124)},
		{repeat[rune](62, rlo, lre), list[rune](lri, rlo, pdf, latin, pdi, hebrew), 0, list(124, -1, -1, 124, 124, 125)},
	} {
		level, got := mustParagraph(t, join(x.start, x.l), x.base)
		if want := join(repeat(len(x.start), -1), x.want); level != x.base || !slices.Equal(got, want) {
			t.Errorf("Paragraph(%s, %d): %d, %v; wanted %v", hex(join(x.start, x.l)), x.base, level, got, want)
		}
	}
}

func TestP12_2Bases(t *testing.T) {
	for _, base := range wrongBases {
		// This error is told ahead of all others.
		for _, l := range [][]rune{nil, {}, {latin}, {hebrew, latin}, {0xd800}, {separator, latin}, repeat[rune](4096, latin), repeat[rune](4097, latin), repeat[rune](4097, -1)} {
			checkError(t, l, base, api.ErrArg)
		}
	}
	check(t, list[rune](hebrew), -1, 1, 1)
	check(t, list[rune](hebrew), 0, 0, 1)
	check(t, list[rune](latin), 1, 1, 2)
}

func TestP12_2HowManyNumbers(t *testing.T) {
	for _, base := range bases {
		for _, count := range []int{4097, 4098, 8192, 1 << 16} {
			for _, r := range []rune{latin, hebrew, joiner, rli, '('} {
				checkError(t, repeat(count, r), base, api.ErrBig)
			}
			// This one is told ahead of what the numbers are.
			checkError(t, repeat[rune](count, 0xd800), base, api.ErrBig)
			checkError(t, repeat[rune](count, separator), base, api.ErrBig)
			checkError(t, append(repeat[rune](count-1, latin), separator), base, api.ErrBig)
		}
		for _, count := range []int{4095, 4096} {
			check(t, repeat[rune](count, latin), base, max(base, 0), repeat(count, 2*max(base, 0))...)
			check(t, append(repeat[rune](count-1, arabDigit), separator), base, max(base, 0), append(repeat(count-1, 2), max(base, 0))...)
			check(t, repeat[rune](count, joiner), base, max(base, 0), repeat(count, -1)...)
			checkError(t, append(repeat[rune](count-1, latin), 0xd800), base, api.ErrForm)
			checkError(t, append(list[rune](separator), repeat[rune](count-1, latin)...), base, api.ErrForm)
		}
	}
}

func TestP12_2NoScalarValues(t *testing.T) {
	some := list[rune](latin, rli, hebrew, joiner, pdi, separator)
	for _, r := range noScalars {
		for _, base := range bases {
			checkError(t, list(r), base, api.ErrForm)
			checkError(t, list(r, r), base, api.ErrForm)
			for at := range len(some) + 1 {
				checkError(t, slices.Insert(slices.Clone(some), at, r), base, api.ErrForm)
			}
		}
	}
	for _, r := range []rune{0, 0xd7ff, 0xe000, 0xffff, 0x10000, 0x10ffff} {
		mustParagraph(t, list(latin, r, latin), -1)
	}
}

func TestP12_2Separators(t *testing.T) {
	for _, r := range separators {
		for _, base := range bases {
			for _, x := range append(allButSeparators(), separators...) {
				checkError(t, list(r, x), base, api.ErrForm)
				checkError(t, list(hebrew, r, x), base, api.ErrForm)
				checkError(t, list(rli, r, x, pdi), base, api.ErrForm)
				checkError(t, list(latin, r, latin, x, r), base, api.ErrForm)
			}
			for _, x := range allButSeparators() {
				checkByWords(t, list(x, r))
				checkByWords(t, list(rli, x, r))
			}
		}
	}
}

func TestP12_2AsTheWordsHaveIt(t *testing.T) {
	eachText(5, func(l []rune) { checkByWords(t, l) })
}

// Wherever brackets wait, and however deep isolates lie, a list of the greatest length is told.
func TestP12_2OfTheLongestLists(t *testing.T) {
	for _, l := range [][]rune{
		repeat[rune](2048, '(', ')'), repeat[rune](4096, '('), join(repeat[rune](63, '('), repeat[rune](3970, ' ', hebrew)[:3970], repeat[rune](63, ')')),
		join(repeat[rune](64, '('), list[rune](hebrew), repeat[rune](64, ')')), join(repeat[rune](62, '[', hebrew), repeat[rune](900, '(', latin, ')', mark), repeat[rune](62, ']')),
		repeat[rune](4096, rli), repeat[rune](4096, fsi), repeat[rune](4096, pdi), repeat[rune](4096, pdf), repeat[rune](4096, rle), repeat[rune](2048, fsi, hebrew),
		join(repeat[rune](2047, fsi), list[rune](hebrew, latin), repeat[rune](2047, pdi)), join(repeat[rune](1000, rli, rlo), repeat[rune](1000, pdi, latin), list[rune](separator)),
		repeat[rune](1365, rli, hebrew, pdi), repeat[rune](1024, rle, latin, pdf, hebrew), repeat[rune](4096, percent), append(repeat[rune](4095, percent), digit), repeat[rune](2048, digit, comma),
	} {
		checkByWords(t, l)
	}
}

func TestP12_3Levels(t *testing.T) {
	eachText(4, func(l []rune) {
		for _, base := range bases {
			level, got := mustParagraph(t, l, base)
			if base != -1 && level != base || level != 0 && level != 1 {
				t.Fatalf("Paragraph(%s, %d): the level %d", hex(l), base, level)
			}
			for i, x := range got {
				if removed := isRemoved(ucd.Class(l[i])); removed && x != -1 || !removed && (x < level || x > 126) {
					t.Fatalf("Paragraph(%s, %d): %v: at %d", hex(l), base, got, i)
				}
			}
		}
	})
}

func TestP12_3TheLevelThatItHasByItself(t *testing.T) {
	eachText(4, func(l []rune) {
		level, want := mustParagraph(t, l, -1)
		check(t, l, level, level, want...)
	})
}

// checkPutIn puts one that is removed into a paragraph.
func checkPutIn(t *testing.T, l []rune, at int, r rune) {
	t.Helper()
	for _, base := range bases {
		level, want := mustParagraph(t, l, base)
		check(t, slices.Insert(slices.Clone(l), at, r), base, level, slices.Insert(want, at, -1)...)
	}
}

func TestP12_3WhatIsRemovedIsPutIn(t *testing.T) {
	// Behind a separator nothing may stand.
	places := func(l []rune) int {
		if len(l) > 0 && l[len(l)-1] == separator {
			return len(l)
		}
		return len(l) + 1
	}
	eachSmall(3, func(l []rune) {
		for at := range places(l) {
			checkPutIn(t, l, at, joiner)
		}
	})
	listsOf(allButSeparators(), 2, func(l []rune) {
		for at := range places(l) {
			checkPutIn(t, l, at, joiners[len(l)+at])
		}
	})
	for _, r := range joiners {
		for _, l := range [][]rune{nil, {latin}, {arabic, digit, comma, digit, percent, separator}, {latin, '(', hebrew, ')', mark, rli, digit, pdi, mark, percent, digit}} {
			for at := range places(l) {
				checkPutIn(t, l, at, r)
			}
		}
	}
	for _, start := range deepStarts() {
		l := join(start, list[rune](latin, rle, '(', hebrew, mark, lri, digit, pdi, comma, ')', pdf, pdi, mark, hebrew))
		for at := 0; at <= len(l); at += 1 + at%7 {
			checkPutIn(t, l, at, joiner)
		}
	}
	mixed(allButSeparators(), 20, 100, func(l []rune) {
		for at := 0; at <= len(l); at += 9 {
			checkPutIn(t, l, at, joiner)
		}
	})
}

// isWhole tells whether numbers, put between an initiator and a PDI, leave that PDI to the initiator.
func isWhole(l []rune) bool {
	depth := 0
	for _, r := range l {
		switch r {
		case lri, rli, fsi:
			depth++
		case pdi:
			depth--
		}
		if depth < 0 {
			return false
		}
	}
	return depth == 0
}

// contents are what is put into isolates: small lists, and what overflows.
func contents() [][]rune {
	all := [][]rune{
		repeat[rune](140, rle, lre), repeat[rune](70, rlo), join(repeat[rune](140, rli), repeat[rune](140, pdi)), join(repeat[rune](70, lre, fsi), list[rune](hebrew), repeat[rune](70, pdi)),
		repeat[rune](100, pdf), repeat[rune](64, '('), {')', hebrew, '('}, {latin, ')', mark, '(', hebrew}, {arabic, digit, comma, digit}, {percent, hebrew, percent},
	}
	for _, some := range [][]rune{{latin, hebrew, digit, rlo, pdf, lri, pdi}, {arabic, '(', ')', mark, lre, blank}} {
		listsOf(some, 3, func(l []rune) {
			if isWhole(l) {
				all = append(all, l)
			}
		})
	}
	return all
}

// checkContents puts other contents into an isolate, and asks for what does not lie in it.
func checkContents(t *testing.T, ahead []rune, initiator rune, behind []rune, base int, all [][]rune) {
	t.Helper()
	ahead, behind = join(ahead, list(initiator)), join(list[rune](pdi), behind)
	wantLevel, want := mustParagraph(t, join(ahead, behind), base)
	for _, content := range all {
		l := join(ahead, content, behind)
		level, got := mustParagraph(t, l, base)
		around := slices.Delete(slices.Clone(got), len(ahead), len(ahead)+len(content))
		if level != wantLevel || !slices.Equal(around, want) {
			t.Fatalf("Paragraph(%s, %d): %d, %v; wanted %d, %v around the isolate", hex(l), base, level, got, wantLevel, want)
		}
	}
}

func TestP12_3WhatLiesInAnIsolate(t *testing.T) {
	all := contents()
	for _, initiator := range []rune{lri, rli, fsi} {
		for _, ahead := range [][]rune{nil, {latin}, {hebrew}, {arabic, digit}, {digit, comma}, {latin, '('}, {rle, sign}, {lro}, {pdi, blank}, {lri, rlo}, {percent}} {
			for _, behind := range [][]rune{nil, {hebrew, latin}, {mark, digit}, {')', mark, hebrew}, {comma, digit, separator}, {pdf, sign, hebrew}, {pdi, latin}} {
				for _, base := range bases {
					checkContents(t, ahead, initiator, behind, base, all)
				}
			}
		}
	}
}

func TestP12_3WhatLiesInADeepIsolate(t *testing.T) {
	all := contents()
	for _, initiator := range []rune{lri, rli, fsi} {
		// The initiator has the level 122 or 123 by chapter 7.
		for _, x := range []struct {
			base  int
			start []rune
		}{
			{0, repeat[rune](61, rle, lre)}, {0, join(repeat[rune](61, rle, lre), list[rune](rle))}, {0, join(repeat[rune](61, rli, lri), list[rune](rlo))},
			{1, repeat[rune](60, rle, lre)}, {1, join(repeat[rune](60, rle, lre), list[rune](rle))}, {-1, join(list[rune](hebrew), repeat[rune](60, rli, lre))},
		} {
			for _, behind := range [][]rune{{hebrew, latin}, {pdf, mark, digit, rle, latin, lre, hebrew, separator}} {
				checkContents(t, join(x.start, list[rune](hebrew)), initiator, behind, x.base, all)
			}
		}
	}
	// At 124 there is room for an isolate that goes to the left, but none for one that goes to the right.
	start := repeat[rune](62, rle, lre)
	removed := repeat(len(start), -1)
	check(t, join(start, list[rune](hebrew, rli, latin, pdi, hebrew)), 0, 0, join(removed, list(125, 125, 126, 125, 125))...)
	check(t, join(start, list[rune](hebrew, lri, latin, pdi, hebrew)), 0, 0, join(removed, list(125, 124, 124, 124, 125))...)
	check(t, join(start, list[rune](hebrew, lri, pdi, hebrew)), 0, 0, join(removed, list(125, 125, 125, 125))...)
}

// spoil writes over a list, its spare room too.
func spoil[T int | rune](l []T) {
	l = l[:cap(l)]
	for i := range l {
		l[i] = -5
	}
}

// samples are paragraphs of many kinds, some of which are refused.
var samples = [][]rune{
	nil, {}, {latin}, {separator}, {joiner}, {hebrew, '(', latin, ')'}, {latin, rli, hebrew, pdi, latin}, {arabic, digit, comma, digit, percent, separator},
	{rlo, latin, fsi, hebrew, mark, pdi, '[', pdf, digit, ']', mark}, {0xd800}, {separator, latin}, {latin, -1, hebrew},
}

func TestRule4WhatIsHandedInStaysAsItIs(t *testing.T) {
	room := list[rune](hebrew, '(', rlo, fsi, latin, mark, pdi, ')', mark, digit, comma, digit, separator, 0xd800, hebrew, -1)
	before := slices.Clone(room)
	for from := range len(room) + 1 {
		for to := from; to <= len(room); to++ {
			Classes(room[from:to])
			for base := -2; base <= 2; base++ {
				Paragraph(room[from:to], base)
			}
		}
	}
	if !slices.Equal(room, before) {
		t.Errorf("it has become %s", hex(room))
	}
}

func TestRule8WhatLiesBehindALengthIsNotRead(t *testing.T) {
	room := list[rune](latin, blank, hebrew, rli, latin, pdi, separator, hebrew, -1)
	check(t, room[:0], -1, 0)
	check(t, room[:2], 1, 1, 2, 1)
	check(t, room[1:2], -1, 0, 0)
	check(t, room[:3], 0, 0, 0, 0, 1)
	check(t, room[2:5], -1, 1, 1, 1, 4)
	check(t, room[2:6], -1, 1, 1, 1, 4, 1)
	check(t, room[4:7], 0, 0, 0, 0, 0)
	check(t, room[8:8], 1, 1)
	checkError(t, room[:8], 0, api.ErrForm)
	checkError(t, room[7:], 0, api.ErrForm)
	if got := Classes(room[:2]); !slices.Equal(got, list(api.L, api.WS)) {
		t.Errorf("Classes: %v", got)
	}
}

func TestRule4WhatIsHandedOutIsNew(t *testing.T) {
	for _, l := range samples {
		// Spare room, of which nothing may be handed out.
		room := append(slices.Clone(l), latin, hebrew, separator)
		before := slices.Clone(room)
		l = room[:len(l)]
		classes, again := Classes(l), Classes(l)
		want := slices.Clone(again)
		_ = append(classes, -9, -9)
		spoil(classes)
		if !slices.Equal(room, before) || !slices.Equal(again, want) {
			t.Errorf("Classes: %s has become %s, %v", hex(before), hex(room), again)
		}
		for _, base := range bases {
			level, got, e := Paragraph(l, base)
			_, other, _ := Paragraph(l, base)
			told := slices.Clone(got)
			_ = append(got, -9, -9)
			spoil(got)
			if !slices.Equal(room, before) || !slices.Equal(other, told) {
				t.Errorf("Paragraph: %s has become %s, %v", hex(before), hex(room), other)
			}
			if e == api.OK {
				check(t, l, base, level, told...)
			}
		}
	}
}

func TestRule4WhatIsHandedInIsNotKept(t *testing.T) {
	l := list[rune](hebrew, '(', latin, ')')
	classes := Classes(l)
	_, got := mustParagraph(t, l, -1)
	spoil(l)
	if !slices.Equal(classes, list(api.R, api.ON, api.L, api.ON)) || !slices.Equal(got, list(1, 1, 2, 1)) {
		t.Errorf("they have become %v, %v", classes, got)
	}
	checkError(t, l, -1, api.ErrForm)
	// What was kept of a call would be seen in the next one.
	check(t, list[rune](latin, sign), -1, 0, 0, 0)
	check(t, list[rune](hebrew, '(', latin, ')'), -1, 1, 1, 1, 2, 1)
}

func TestRule2BesideAnErrorNothingIsTold(t *testing.T) {
	for _, base := range []int{-2, -1, 0, 1, 2} {
		for _, l := range [][]rune{{hebrew, 0xd800}, {hebrew, separator, latin}, repeat[rune](4097, hebrew), {-1}} {
			if level, got, e := Paragraph(l, base); level != 0 || len(got) != 0 || e == api.OK {
				t.Errorf("Paragraph of %d numbers, base %d: %d, %v, %d", len(l), base, level, got, e)
			}
		}
	}
}
