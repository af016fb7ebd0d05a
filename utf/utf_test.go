package utf

import (
	"bytes"
	"math"
	"slices"
	"testing"
	"unicode/utf8"

	"colophon/api"
)

// edges are scalar values on both sides of where something changes, with their forms written out by hand.
var edges = []struct {
	r    rune
	form []byte
}{
	{0, []byte{0x00}},
	{1, []byte{0x01}},
	{97, []byte{0x61}},
	{127, []byte{0x7f}},
	{128, []byte{0xc2, 0x80}},
	{1488, []byte{0xd7, 0x90}},
	{2047, []byte{0xdf, 0xbf}},
	{2048, []byte{0xe0, 0xa0, 0x80}},
	{4095, []byte{0xe0, 0xbf, 0xbf}},
	{4096, []byte{0xe1, 0x80, 0x80}},
	{8238, []byte{0xe2, 0x80, 0xae}},
	{55295, []byte{0xed, 0x9f, 0xbf}},
	{57344, []byte{0xee, 0x80, 0x80}},
	{65533, []byte{0xef, 0xbf, 0xbd}},
	{65535, []byte{0xef, 0xbf, 0xbf}},
	{65536, []byte{0xf0, 0x90, 0x80, 0x80}},
	{128512, []byte{0xf0, 0x9f, 0x98, 0x80}},
	{262143, []byte{0xf0, 0xbf, 0xbf, 0xbf}},
	{262144, []byte{0xf1, 0x80, 0x80, 0x80}},
	{1114110, []byte{0xf4, 0x8f, 0xbf, 0xbe}},
	{1114111, []byte{0xf4, 0x8f, 0xbf, 0xbf}},
}

// notScalar are numbers that are no scalar values: both ends of each stretch of them, and some within.
var notScalar = []rune{
	math.MinInt32, math.MinInt32 + 1, -1114111, -65536, -128, -97, -2, -1,
	55296, 55297, 56319, 56320, 57342, 57343,
	1114112, 1114113, 2097151, 2097152, math.MaxInt32 - 1, math.MaxInt32,
}

// notForm are bytes that begin with no form, and bytes behind which one would have to come.
var notForm = [][]byte{
	// Bytes that begin no form.
	{0x80}, {0x90}, {0xbf}, {0x80, 0x80}, {0xbf, 0x61},
	{0xf8}, {0xf8, 0x88, 0x80, 0x80, 0x80}, {0xfb, 0xbf, 0xbf, 0xbf, 0xbf},
	{0xfc}, {0xfc, 0x84, 0x80, 0x80, 0x80, 0x80}, {0xfe}, {0xff}, {0xff, 0xbf, 0xbf, 0xbf},
	// Forms that are longer than they need be.
	{0xc0, 0x80}, {0xc0, 0xbf}, {0xc1, 0x80}, {0xc1, 0xa1}, {0xc1, 0xbf},
	{0xe0, 0x80, 0x80}, {0xe0, 0x81, 0xa1}, {0xe0, 0x82, 0x80}, {0xe0, 0x9f, 0xbf},
	{0xf0, 0x80, 0x80, 0x80}, {0xf0, 0x81, 0x82, 0x83}, {0xf0, 0x82, 0x80, 0xae}, {0xf0, 0x8f, 0xbf, 0xbf},
	// What would be the forms of 55296 to 57343.
	{0xed, 0xa0, 0x80}, {0xed, 0xa0, 0x81}, {0xed, 0xaf, 0xbf}, {0xed, 0xb0, 0x80}, {0xed, 0xbf, 0xbe}, {0xed, 0xbf, 0xbf},
	// What would be the forms of numbers above 1114111.
	{0xf4, 0x90, 0x80, 0x80}, {0xf4, 0xbf, 0xbf, 0xbf}, {0xf5, 0x80, 0x80, 0x80}, {0xf7, 0xbf, 0xbf, 0xbf},
	// Too few bytes.
	{0xc2}, {0xdf},
	{0xe0}, {0xe0, 0xa0}, {0xed, 0x9f}, {0xef}, {0xef, 0xbf},
	{0xf0}, {0xf0, 0x90}, {0xf0, 0x90, 0x80}, {0xf4}, {0xf4, 0x8f}, {0xf4, 0x8f, 0xbf},
	// A byte behind the first that is below 128, or above 191.
	{0xc2, 0x7f}, {0xc2, 0xc0}, {0xc2, 0x00}, {0xc2, 0xff}, {0xdf, 0x61}, {0xc2, 0xc2, 0x80},
	{0xe2, 0x7f, 0xae}, {0xe2, 0xc0, 0xae}, {0xe2, 0x80, 0x7f}, {0xe2, 0x80, 0xc0}, {0xe2, 0x80, 0x61},
	{0xf0, 0x7f, 0x98, 0x80}, {0xf0, 0xc0, 0x98, 0x80}, {0xf0, 0x9f, 0x7f, 0x80}, {0xf0, 0x9f, 0xc0, 0x80},
	{0xf0, 0x9f, 0x98, 0x7f}, {0xf0, 0x9f, 0x98, 0xc0}, {0xf0, 0x9f, 0x98, 0x00}, {0xf0, 0x9f, 0x98, 0xff},
}

func isScalar(r rune) bool {
	return r >= 0 && r <= 1114111 && (r < 55296 || r > 57343)
}

// goodBeginning tells, by the library's own reader, where the longest beginning of b that is a text ends.
func goodBeginning(b []byte) int {
	at := 0
	for at < len(b) {
		r, size := utf8.DecodeRune(b[at:])
		if r == utf8.RuneError && size <= 1 {
			break
		}
		at += size
	}
	return at
}

// dice makes the same numbers each time, so that a test that fails fails again.
type dice uint64

func (d *dice) roll(sides int) int {
	*d = *d*6364136223846793005 + 1442695040888963407
	return int(uint64(*d) >> 33 % uint64(sides))
}

func (d *dice) text(length int) []rune {
	l := make([]rune, 0, length)
	for len(l) < length {
		most := []int{128, 2048, 65536, 1114112}[d.roll(4)]
		if r := rune(d.roll(most)); isScalar(r) {
			l = append(l, r)
		}
	}
	return l
}

// bytesNearText makes bytes of which many, but not all, are forms.
func (d *dice) bytesNearText(length int) []byte {
	b := []byte{}
	for len(b) < length {
		switch d.roll(8) {
		case 0:
			b = append(b, byte(d.roll(256)))
		case 1:
			b = append(b, notForm[d.roll(len(notForm))]...)
		default:
			b = append(b, edges[d.roll(len(edges))].form...)
		}
	}
	return b[:length]
}

func mustEncode(t *testing.T, l []rune) []byte {
	t.Helper()
	b, at, e := Encode(l)
	if at != 0 || e != api.OK {
		t.Fatalf("Encode(%d): place %d, error %d", l, at, e)
	}
	return b
}

func mustDecode(t *testing.T, b []byte) []rune {
	t.Helper()
	l, at, e := Decode(b)
	if at != 0 || e != api.OK {
		t.Fatalf("Decode(%x): place %d, error %d", b, at, e)
	}
	return l
}

// checkRefused asks that bytes are refused by Decode at a place, and by Count, with nothing else told.
func checkRefused(t *testing.T, b []byte, place int) {
	t.Helper()
	if l, at, e := Decode(b); len(l) != 0 || at != place || e != api.ErrUtf {
		t.Errorf("Decode(%x): %d, place %d, error %d; wanted place %d, error %d", b, l, at, e, place, api.ErrUtf)
	}
	if n, e := Count(b); n != 0 || e != api.ErrUtf {
		t.Errorf("Count(%x): %d, error %d; wanted 0, error %d", b, n, e, api.ErrUtf)
	}
}

// checkAgainstLibrary holds what Decode, Count and Cut tell of any bytes against the library's own reader.
func checkAgainstLibrary(t *testing.T, b []byte) {
	t.Helper()
	end := goodBeginning(b)
	if k := Cut(b, len(b)); k != end {
		t.Fatalf("Cut(%x, %d): %d; wanted %d", b, len(b), k, end)
	}
	l, at, e := Decode(b)
	n, ec := Count(b)
	if end < len(b) {
		if len(l) != 0 || at != end || e != api.ErrUtf || n != 0 || ec != api.ErrUtf {
			t.Fatalf("%x: Decode %d, place %d, error %d; Count %d, error %d; wanted place %d", b, l, at, e, n, ec, end)
		}
		return
	}
	if at != 0 || e != api.OK || string(l) != string(b) || n != len(l) || ec != api.OK {
		t.Fatalf("%x: Decode %d, place %d, error %d; Count %d, error %d; wanted a text", b, l, at, e, n, ec)
	}
}

func TestP1_1SizeAtEdges(t *testing.T) {
	for _, x := range edges {
		if n := Size(x.r); n != len(x.form) {
			t.Errorf("Size(%d): %d; wanted %d", x.r, n, len(x.form))
		}
	}
	for _, r := range notScalar {
		if n := Size(r); n != 0 {
			t.Errorf("Size(%d): %d; wanted 0", r, n)
		}
	}
}

func TestP1_1EncodeAtEdges(t *testing.T) {
	all, forms := []rune{}, []byte{}
	for _, x := range edges {
		if b := mustEncode(t, []rune{x.r}); !bytes.Equal(b, x.form) {
			t.Errorf("Encode(%d): %x; wanted %x", x.r, b, x.form)
		}
		all, forms = append(all, x.r), append(forms, x.form...)
	}
	if b := mustEncode(t, all); !bytes.Equal(b, forms) {
		t.Errorf("Encode of all edges: %x; wanted %x", b, forms)
	}
}

func TestP1_1EncodeOfNothing(t *testing.T) {
	for _, l := range [][]rune{nil, {}} {
		if b := mustEncode(t, l); len(b) != 0 {
			t.Errorf("Encode of an empty list: %x", b)
		}
	}
}

func TestP1_1EncodeRefuses(t *testing.T) {
	for _, r := range notScalar {
		for place, l := range [][]rune{{r, 97, 98}, {128512, r, 98}, {97, 1488, r}, {97, 1488, 8238, r, -1, 55296}} {
			if b, at, e := Encode(l); len(b) != 0 || at != place || e != api.ErrScalar {
				t.Errorf("Encode(%d): %x, place %d, error %d; wanted place %d, error %d", l, b, at, e, place, api.ErrScalar)
			}
		}
	}
}

// TestP1_1EveryNumber goes through all scalar values, and what lies around and between them, by the chapter's own words.
func TestP1_1EveryNumber(t *testing.T) {
	for r := rune(-300); r <= 1114111+300; r++ {
		var form []byte
		switch v := int(r); {
		case !isScalar(r):
		case v < 128:
			form = []byte{byte(v)}
		case v < 2048:
			form = []byte{byte(192 + v/64), byte(128 + v%64)}
		case v < 65536:
			form = []byte{byte(224 + v/4096), byte(128 + v/64%64), byte(128 + v%64)}
		default:
			form = []byte{byte(240 + v/262144), byte(128 + v/4096%64), byte(128 + v/64%64), byte(128 + v%64)}
		}
		want := api.OK
		if form == nil {
			want = api.ErrScalar
		}
		if n := Size(r); n != len(form) {
			t.Fatalf("Size(%d): %d; wanted %d", r, n, len(form))
		}
		if b, at, e := Encode([]rune{r}); !bytes.Equal(b, form) || at != 0 || e != want {
			t.Fatalf("Encode(%d): %x, place %d, error %d; wanted %x, error %d", r, b, at, e, form, want)
		}
	}
}

func TestP1_2Texts(t *testing.T) {
	all, forms := []rune{}, []byte{}
	for _, x := range edges {
		all, forms = append(all, x.r), append(forms, x.form...)
		if l := mustDecode(t, x.form); !slices.Equal(l, []rune{x.r}) {
			t.Errorf("Decode(%x): %d; wanted %d", x.form, l, x.r)
		}
		if l := mustDecode(t, forms); !slices.Equal(l, all) {
			t.Errorf("Decode(%x): %d; wanted %d", forms, l, all)
		}
		if n, e := Count(forms); n != len(all) || e != api.OK {
			t.Errorf("Count(%x): %d, error %d; wanted %d", forms, n, e, len(all))
		}
	}
}

func TestP1_2Nothing(t *testing.T) {
	for _, b := range [][]byte{nil, {}} {
		if l := mustDecode(t, b); len(l) != 0 {
			t.Errorf("Decode of no bytes: %d", l)
		}
		if n, e := Count(b); n != 0 || e != api.OK {
			t.Errorf("Count of no bytes: %d, error %d", n, e)
		}
	}
}

func TestP1_2Refused(t *testing.T) {
	for _, bad := range notForm {
		checkRefused(t, bad, 0)
		for _, x := range edges {
			ahead := append([]byte{0x61}, x.form...)
			checkRefused(t, append(slices.Clone(ahead), bad...), len(ahead))
			midst := append(append(slices.Clone(ahead), bad...), 0x61, 0xd7, 0x90)
			checkRefused(t, midst, len(ahead))
		}
	}
}

// TestP1_2FirstFault asks for the least place where several are wrong.
func TestP1_2FirstFault(t *testing.T) {
	checkRefused(t, []byte{0x61, 0xff, 0x61, 0xff}, 1)
	checkRefused(t, []byte{0xd7, 0x90, 0xe2, 0x80, 0x61, 0xc0, 0x80}, 2)
	checkRefused(t, []byte{0xf0, 0x9f, 0x98, 0x80, 0x80, 0xff}, 4)
}

func TestP1_2TornForms(t *testing.T) {
	for _, x := range edges {
		for k := 1; k < len(x.form); k++ {
			checkRefused(t, x.form[:k:k], 0)
			checkRefused(t, append([]byte{0xd7, 0x90}, x.form[:k]...), 2)
		}
	}
}

// TestP1_2EveryBeginning goes through all first two bytes, with those behind them that lie at the ends of what may stand there.
func TestP1_2EveryBeginning(t *testing.T) {
	inner := []byte{0x00, 0x61, 0x7f, 0x80, 0x8f, 0x90, 0x9f, 0xa0, 0xbf, 0xc0, 0xc2, 0xff}
	for x := range 256 {
		checkAgainstLibrary(t, []byte{byte(x)})
		for y := range 256 {
			checkAgainstLibrary(t, []byte{byte(x), byte(y)})
			for _, z := range inner {
				checkAgainstLibrary(t, []byte{byte(x), byte(y), z})
				for _, w := range inner {
					checkAgainstLibrary(t, []byte{byte(x), byte(y), z, w})
				}
			}
		}
	}
}

func TestP1_2AnyBytes(t *testing.T) {
	d := dice(12)
	for length := range 200 {
		for range 20 {
			checkAgainstLibrary(t, d.bytesNearText(length))
		}
	}
}

func TestP1_3CutInForms(t *testing.T) {
	for _, x := range edges {
		b := append(append([]byte{0x61}, x.form...), 0xd7, 0x90)
		size := len(x.form)
		for n := 1; n <= size; n++ {
			if k := Cut(b, n); k != 1 {
				t.Errorf("Cut(%x, %d): %d; wanted 1", b, n, k)
			}
		}
		for n, want := range map[int]int{0: 0, size + 1: size + 1, size + 2: size + 1, size + 3: size + 3} {
			if k := Cut(b, n); k != want {
				t.Errorf("Cut(%x, %d): %d; wanted %d", b, n, k, want)
			}
		}
	}
}

func TestP1_3CutAtEnds(t *testing.T) {
	b := []byte{0x61, 0xd7, 0x90, 0xe2, 0x80, 0xae}
	for _, x := range []struct{ n, want int }{
		{math.MinInt, 0}, {math.MinInt + 1, 0}, {math.MinInt32, 0}, {-2, 0}, {-1, 0}, {0, 0}, {1, 1},
		{5, 3}, {6, 6}, {7, 6}, {math.MaxInt32, 6}, {math.MaxInt - 1, 6}, {math.MaxInt, 6},
	} {
		if k := Cut(b, x.n); k != x.want {
			t.Errorf("Cut(%x, %d): %d; wanted %d", b, x.n, k, x.want)
		}
		if k := Cut(nil, x.n); k != 0 {
			t.Errorf("Cut of no bytes, %d: %d; wanted 0", x.n, k)
		}
		if k := Cut([]byte{}, x.n); k != 0 {
			t.Errorf("Cut of no bytes, %d: %d; wanted 0", x.n, k)
		}
	}
}

func TestP1_3CutOfNoText(t *testing.T) {
	for _, bad := range notForm {
		b := append([]byte{0xd7, 0x90}, bad...)
		b = append(b, 0x61)
		for n := 2; n <= len(b)+1; n++ {
			if k := Cut(b, n); k != 2 {
				t.Errorf("Cut(%x, %d): %d; wanted 2", b, n, k)
			}
			if k := Cut(b[2:], n-2); k != 0 {
				t.Errorf("Cut(%x, %d): %d; wanted 0", b[2:], n-2, k)
			}
		}
	}
}

// TestP1_3AnyBytes tries each length, the greatest first, as the promise's words have it.
func TestP1_3AnyBytes(t *testing.T) {
	d := dice(13)
	for length := range 40 {
		for range 20 {
			b := d.bytesNearText(length)
			for n := -1; n <= length+1; n++ {
				want := max(0, min(n, length))
				for !utf8.Valid(b[:want]) {
					want--
				}
				if k := Cut(b, n); k != want {
					t.Fatalf("Cut(%x, %d): %d; wanted %d", b, n, k, want)
				}
			}
		}
	}
}

func TestP1_4EveryScalarValueComesBack(t *testing.T) {
	all := []rune{}
	for r := rune(0); r <= 1114111; r++ {
		if !isScalar(r) {
			continue
		}
		all = append(all, r)
		b := mustEncode(t, []rune{r})
		if l := mustDecode(t, b); !slices.Equal(l, []rune{r}) {
			t.Fatalf("%d comes back as %d", r, l)
		}
	}
	b := mustEncode(t, all)
	if !slices.Equal(mustDecode(t, b), all) {
		t.Errorf("all scalar values in one text do not come back")
	}
	if n, e := Count(b); n != len(all) || e != api.OK {
		t.Errorf("Count of all scalar values: %d, error %d; wanted %d", n, e, len(all))
	}
}

func TestP1_4TextsComeBack(t *testing.T) {
	d := dice(14)
	for length := range 300 {
		l := d.text(length)
		b := mustEncode(t, l)
		if back := mustDecode(t, b); !slices.Equal(back, l) {
			t.Fatalf("%d comes back as %d", l, back)
		}
	}
}

// TestP1_4BytesComeBack: a text has no other bytes than those that Encode tells.
func TestP1_4BytesComeBack(t *testing.T) {
	d := dice(15)
	texts := 0
	for range 20000 {
		b := d.bytesNearText(d.roll(9))
		l, _, e := Decode(b)
		if e != api.OK {
			continue
		}
		texts++
		if again := mustEncode(t, l); !bytes.Equal(again, b) {
			t.Fatalf("%x is decoded to %d, which is encoded to %x", b, l, again)
		}
	}
	if texts < 1000 {
		t.Errorf("only %d of the bytes were texts", texts)
	}
}

func TestP1_4Order(t *testing.T) {
	texts := [][]rune{nil, {0, 0}, {97, 1488}, {97, 1488, 8238}, {97, 8238, 0}, {97, 128512}}
	for _, x := range edges {
		texts = append(texts, []rune{x.r}, []rune{x.r, 0}, []rune{x.r, 1114111}, []rune{97, x.r})
	}
	d := dice(16)
	for range 100 {
		texts = append(texts, d.text(d.roll(4)))
	}
	for _, x := range texts {
		for _, y := range texts {
			got := bytes.Compare(mustEncode(t, x), mustEncode(t, y))
			if want := slices.Compare(x, y); got != want {
				t.Errorf("the bytes of %d and %d compare as %d; wanted %d", x, y, got, want)
			}
		}
	}
}

func TestExamples(t *testing.T) {
	b := mustEncode(t, []rune{97, 1488, 8238, 128512})
	if !bytes.Equal(b, []byte{0x61, 0xd7, 0x90, 0xe2, 0x80, 0xae, 0xf0, 0x9f, 0x98, 0x80}) {
		t.Errorf("Encode: %x", b)
	}
	checkRefused(t, b[:9], 6)
	if k := Cut(b, 5); k != 3 {
		t.Errorf("Cut: %d; wanted 3", k)
	}
	if b, at, e := Encode([]rune{97, 55296}); len(b) != 0 || at != 1 || e != api.ErrScalar {
		t.Errorf("Encode: %x, place %d, error %d", b, at, e)
	}
	checkRefused(t, []byte{0xc0, 0x80}, 0)
}

// TestRule4HandedInStays: neither a list nor its spare room is changed, whatever the call answers.
func TestRule4HandedInStays(t *testing.T) {
	for _, length := range []int{0, 1, 2, 3, 4} {
		memory := []rune{97, 1488, 8238, 55296, 128512, 98}
		was := slices.Clone(memory)
		Encode(memory[:length])
		if !slices.Equal(memory, was) {
			t.Errorf("Encode changed what was handed in: %d", memory)
		}
	}
	for length := range 9 {
		memory := []byte{0x61, 0xd7, 0x90, 0xe2, 0x80, 0xae, 0xff, 0x61, 0x62, 0x63}
		was := slices.Clone(memory)
		Decode(memory[:length])
		Count(memory[:length])
		Cut(memory[:length], 3)
		Cut(memory[:length], 100)
		if !bytes.Equal(memory, was) {
			t.Errorf("bytes that were handed in were changed: %x", memory)
		}
	}
}

// TestRule4AnswersAreNew: no two answers share memory, nor does one share it with an argument.
func TestRule4AnswersAreNew(t *testing.T) {
	l := []rune{97, 1488, 98}
	b, again := mustEncode(t, l), mustEncode(t, l)
	want := slices.Clone(again)
	spoil(b, 0xff)
	l[0] = 120
	if !bytes.Equal(again, want) {
		t.Errorf("an answer of Encode changed: %x", again)
	}
	first, second := mustDecode(t, again), mustDecode(t, again)
	kept := slices.Clone(second)
	spoil(first, -1)
	spoil(again, 0xff)
	if !slices.Equal(second, kept) {
		t.Errorf("an answer of Decode changed: %d", second)
	}
}

// spoil overwrites a list and its spare room.
func spoil[T any](l []T, by T) {
	l = l[:cap(l)]
	for i := range l {
		l[i] = by
	}
}

// TestRule8SpareRoomIsNotRead: what lies behind a list's length takes no part.
func TestRule8SpareRoomIsNotRead(t *testing.T) {
	memory := []byte{0x61, 0xf0, 0x9f, 0x98, 0x80, 0x62}
	for length := 2; length < 5; length++ {
		checkRefused(t, memory[:length], 1)
		if k := Cut(memory[:length], 6); k != 1 {
			t.Errorf("Cut(%x, 6): %d; wanted 1", memory[:length], k)
		}
	}
	if l := mustDecode(t, memory[:5]); !slices.Equal(l, []rune{97, 128512}) {
		t.Errorf("Decode(%x): %d", memory[:5], l)
	}
	numbers := []rune{97, 98, 55296}
	if b := mustEncode(t, numbers[:2]); string(b) != "ab" {
		t.Errorf("Encode(%d): %x", numbers[:2], b)
	}
}
