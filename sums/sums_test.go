package sums

import (
	"bytes"
	"hash/crc32"
	"hash/fnv"
	"math"
	"slices"
	"testing"

	"colophon/api"
)

// digits are the nine digits of the chapter's example.
var digits = []byte("123456789")

// knownSums are sums that are told elsewhere, too.
var knownSums = []struct {
	b   []byte
	sum uint32
}{
	{nil, 0},
	{[]byte{}, 0},
	{[]byte{0}, 0xd202ef8d},
	{[]byte{0xff}, 0xff000000},
	{[]byte{0xff, 0xff, 0xff, 0xff}, 0xffffffff},
	{[]byte{0, 0, 0, 0}, 0x2144df1c},
	{[]byte("a"), 0xe8b7be43},
	{[]byte("abc"), 0x352441c2},
	{digits, 0xcbf43926},
	{[]byte("The quick brown fox jumps over the lazy dog"), 0x414fa339},
	{make([]byte, 32), 0x190a55ad},
	{bytes.Repeat([]byte{0xff}, 32), 0xff6cab0b},
}

// texts are lists of numbers, scalar values and others.
var texts = [][]rune{
	{0}, {1}, {97}, {-1}, {0x5d0}, {0x10ffff}, {math.MinInt32}, {math.MaxInt32},
	{0, 0}, {97, 98}, {-1, 0}, {0x5d0, 40, 97, 41}, {math.MinInt32, math.MaxInt32, -2, 0x01020304},
}

// dice makes the same numbers each time, so that a test that fails fails again.
type dice uint64

func (d *dice) next() uint32 {
	*d = *d*6364136223846793005 + 1442695040888963407
	return uint32(uint64(*d) >> 32)
}

func (d *dice) bytes(length int) []byte {
	b := make([]byte, length)
	for i := range b {
		b[i] = byte(d.next() >> 13)
	}
	return b
}

func (d *dice) numbers(length int) []rune {
	l := make([]rune, length)
	for i := range l {
		l[i] = rune(d.next())
	}
	return l
}

// crcByWords tells the sum as the promise's words have it, bit by bit.
func crcByWords(b []byte) uint32 {
	bits := uint32(math.MaxUint32)
	for _, c := range b {
		bits = bits&^0xff | uint32(byte(bits)^c)
		for range 8 {
			out := bits & 1
			bits >>= 1
			if out == 1 {
				bits ^= 0xedb88320
			}
		}
	}
	return ^bits
}

// keyByWords tells the key by the library's own sum of the numbers' bytes.
func keyByWords(l []rune) uint64 {
	h := fnv.New64a()
	for _, r := range l {
		h.Write([]byte{byte(uint32(r) >> 24), byte(uint32(r) >> 16), byte(uint32(r) >> 8), byte(uint32(r))})
	}
	return h.Sum64()
}

func join(parts ...[]byte) []byte { return bytes.Join(parts, nil) }

func mustOpen(t *testing.T, b []byte) []byte {
	t.Helper()
	ahead, e := Open(b)
	if e != api.OK {
		t.Fatalf("Open(%x): error %d", b, e)
	}
	return ahead
}

// checkRefused asks that Open answers an error and nothing beside it.
func checkRefused(t *testing.T, b []byte, want api.Errno) {
	t.Helper()
	if ahead, e := Open(b); ahead != nil || e != want {
		t.Fatalf("Open(%x): %x, error %d; wanted nothing, error %d", b, ahead, e, want)
	}
}

func TestP2_1KnownSums(t *testing.T) {
	for _, x := range knownSums {
		if sum := Crc(x.b); sum != x.sum {
			t.Errorf("Crc(%x): %x; wanted %x", x.b, sum, x.sum)
		}
	}
}

func TestP2_1EveryByte(t *testing.T) {
	for x := range 256 {
		for _, b := range [][]byte{{byte(x)}, {0, byte(x)}, {byte(x), 0xff}, {byte(x), byte(x), byte(x)}} {
			if sum, want := Crc(b), crcByWords(b); sum != want {
				t.Errorf("Crc(%x): %x; wanted %x", b, sum, want)
			}
		}
	}
}

func TestP2_1AnyBytes(t *testing.T) {
	d := dice(21)
	for length := range 300 {
		b := d.bytes(length)
		sum := Crc(b)
		if want := crcByWords(b); sum != want {
			t.Fatalf("Crc(%x): %x; wanted %x by the words", b, sum, want)
		}
		if want := crc32.ChecksumIEEE(b); sum != want {
			t.Fatalf("Crc(%x): %x; wanted %x by the library", b, sum, want)
		}
	}
}

func TestP2_1ManyBytes(t *testing.T) {
	d := dice(22)
	b := d.bytes(1 << 20)
	if sum, want := Crc(b), crc32.ChecksumIEEE(b); sum != want {
		t.Errorf("Crc of a megabyte: %x; wanted %x", sum, want)
	}
}

func TestP2_1MoreAtEveryPlace(t *testing.T) {
	d := dice(23)
	lists := [][]byte{digits, make([]byte, 20), bytes.Repeat([]byte{0xff}, 20), d.bytes(100)}
	for _, x := range knownSums {
		lists = append(lists, x.b)
	}
	for _, b := range lists {
		want := crcByWords(b)
		for i := range len(b) + 1 {
			if sum := More(Crc(b[:i]), b[i:]); sum != want {
				t.Errorf("%x cut at %d: %x; wanted %x", b, i, sum, want)
			}
		}
	}
}

func TestP2_1MoreByPieces(t *testing.T) {
	d := dice(24)
	for _, piece := range []int{1, 2, 3, 7, 64} {
		b := d.bytes(200)
		sum := Crc(nil)
		for part := range slices.Chunk(b, piece) {
			sum = More(sum, part)
		}
		if want := crcByWords(b); sum != want {
			t.Errorf("in pieces of %d: %x; wanted %x", piece, sum, want)
		}
	}
}

// TestP2_1MoreOfAnySum: each number of 32 bits is the sum of some bytes, so More goes on with any.
func TestP2_1MoreOfAnySum(t *testing.T) {
	d := dice(25)
	sums := []uint32{0, 1, 0x7fffffff, 0x80000000, 0xedb88320, 0xfffffffe, 0xffffffff}
	for range 100 {
		sums = append(sums, d.next())
	}
	for _, sum := range sums {
		if same := More(sum, nil); same != sum {
			t.Errorf("More(%x, nothing): %x", sum, same)
		}
		if same := More(sum, []byte{}); same != sum {
			t.Errorf("More(%x, no bytes): %x", sum, same)
		}
		b := d.bytes(1 + int(d.next()%9))
		if got, want := More(sum, b), crc32.Update(sum, crc32.IEEETable, b); got != want {
			t.Errorf("More(%x, %x): %x; wanted %x", sum, b, got, want)
		}
	}
}

func TestP2_2Seal(t *testing.T) {
	for _, x := range knownSums {
		want := join(x.b, []byte{byte(x.sum), byte(x.sum >> 8), byte(x.sum >> 16), byte(x.sum >> 24)})
		if b := Seal(x.b); !bytes.Equal(b, want) {
			t.Errorf("Seal(%x): %x; wanted %x", x.b, b, want)
		}
		if b := mustOpen(t, want); !bytes.Equal(b, x.b) {
			t.Errorf("Open(%x): %x; wanted %x", want, b, x.b)
		}
	}
}

func TestP2_2FewerThanFour(t *testing.T) {
	checkRefused(t, nil, api.ErrShort)
	checkRefused(t, []byte{}, api.ErrShort)
	sealed := Seal(digits)
	for length := range 4 {
		checkRefused(t, make([]byte, length), api.ErrShort)
		checkRefused(t, bytes.Repeat([]byte{0xff}, length), api.ErrShort)
		checkRefused(t, sealed[:length], api.ErrShort)
	}
}

func TestP2_2JustFour(t *testing.T) {
	if b := mustOpen(t, []byte{0, 0, 0, 0}); len(b) != 0 {
		t.Errorf("Open of nothing's sum: %x", b)
	}
	for _, b := range [][]byte{
		{1, 0, 0, 0}, {0, 1, 0, 0}, {0, 0, 1, 0}, {0, 0, 0, 1}, {0, 0, 0, 0x80},
		{0xff, 0xff, 0xff, 0xff}, {0x26, 0x39, 0xf4, 0xcb},
	} {
		checkRefused(t, b, api.ErrSum)
	}
}

func TestP2_2AnotherSum(t *testing.T) {
	checkRefused(t, join(digits, []byte{0xcb, 0xf4, 0x39, 0x26}), api.ErrSum) // the highest byte first
	checkRefused(t, join(digits, []byte{0xd9, 0xc6, 0x0b, 0x34}), api.ErrSum) // the bits not turned at the end
	checkRefused(t, join([]byte{0x26, 0x39, 0xf4, 0xcb}, digits), api.ErrSum) // the sum ahead
	sealed := Seal(digits)
	for length := 4; length < len(sealed); length++ {
		checkRefused(t, sealed[:length], api.ErrSum)
	}
	for first := 1; len(sealed)-first >= 4; first++ {
		checkRefused(t, sealed[first:], api.ErrSum)
	}
	checkRefused(t, join(sealed, []byte{0}), api.ErrSum)
	checkRefused(t, join([]byte{0}, sealed), api.ErrSum)
}

// TestP2_2EachByteOfTheSum: none of the four is left out when the sum is looked at.
func TestP2_2EachByteOfTheSum(t *testing.T) {
	for _, b := range [][]byte{nil, {0}, digits} {
		sealed := Seal(b)
		for i := len(b); i < len(sealed); i++ {
			for x := 1; x < 256; x++ {
				wrong := slices.Clone(sealed)
				wrong[i] ^= byte(x)
				checkRefused(t, wrong, api.ErrSum)
			}
		}
	}
}

func TestP2_2TwiceOver(t *testing.T) {
	d := dice(26)
	for length := range 40 {
		b := d.bytes(length)
		once := Seal(b)
		twice := Seal(once)
		if len(once) != length+4 || len(twice) != length+8 {
			t.Fatalf("%x is sealed to %x, and that to %x", b, once, twice)
		}
		back := mustOpen(t, twice)
		if !bytes.Equal(back, once) {
			t.Fatalf("what was sealed twice, %x, is opened to %x; wanted %x", twice, back, once)
		}
		if back = mustOpen(t, back); !bytes.Equal(back, b) {
			t.Fatalf("what was sealed, %x, is opened to %x; wanted %x", once, back, b)
		}
	}
}

func TestP2_3KnownKeys(t *testing.T) {
	for _, x := range []struct {
		l   []rune
		key uint64
	}{
		{nil, 14695981039346656037},
		{[]rune{}, 14695981039346656037},
		// The keys of four bytes 0, and of the letters foob, as FNV's own tables have them.
		{[]rune{0}, 0x4d25767f9dce13f5},
		{[]rune{0x666f6f62}, 0xdd120e790c2512af},
	} {
		if key := Key(x.l); key != x.key {
			t.Errorf("Key(%d): %x; wanted %x", x.l, key, x.key)
		}
	}
}

func TestP2_3Edges(t *testing.T) {
	for _, l := range texts {
		if key, want := Key(l), keyByWords(l); key != want {
			t.Errorf("Key(%d): %x; wanted %x", l, key, want)
		}
	}
}

// TestP2_3Steps holds a key against the promise's words, one step after the other.
func TestP2_3Steps(t *testing.T) {
	want := uint64(14695981039346656037)
	l := []rune{0x01020304, -2, 0x05d0}
	for _, c := range []byte{1, 2, 3, 4, 0xff, 0xff, 0xff, 0xfe, 0, 0, 5, 0xd0} {
		want ^= uint64(c)
		want *= 1099511628211
	}
	if key := Key(l); key != want {
		t.Errorf("Key(%x): %x; wanted %x", l, key, want)
	}
}

func TestP2_3AnyNumbers(t *testing.T) {
	d := dice(27)
	for length := range 200 {
		l := d.numbers(length)
		if key, want := Key(l), keyByWords(l); key != want {
			t.Fatalf("Key(%d): %x; wanted %x", l, key, want)
		}
	}
}

func TestP2_4WhatIsSealedIsOpened(t *testing.T) {
	d := dice(28)
	for length := range 300 {
		b := d.bytes(length)
		if back := mustOpen(t, Seal(b)); !bytes.Equal(back, b) {
			t.Fatalf("%x is sealed and opened to %x", b, back)
		}
	}
}

// turn turns the bits of what is sealed that pattern has, its lowest one at the bit first; it tells whether all of them lie in b.
func turn(b []byte, first int, pattern uint32) ([]byte, bool) {
	turned := slices.Clone(b)
	for i := range 32 {
		if pattern>>i&1 == 0 {
			continue
		}
		at := first + i
		if at >= 8*len(b) {
			return nil, false
		}
		turned[at/8] ^= 1 << (at % 8)
	}
	return turned, true
}

// TestP2_4FewBitsRunning turns all patterns of eleven bits running at each place: in the text, in the sum, and over the border between them.
func TestP2_4FewBitsRunning(t *testing.T) {
	for _, b := range [][]byte{nil, {0x5d}, digits} {
		sealed := Seal(b)
		for first := range 8 * len(sealed) {
			for pattern := uint32(1); pattern < 2048; pattern += 2 {
				if turned, ok := turn(sealed, first, pattern); ok {
					checkRefused(t, turned, api.ErrSum)
				}
			}
		}
	}
}

// TestP2_4ManyBitsRunning turns bits at both ends of each stretch of up to 32, and any within, at each place.
func TestP2_4ManyBitsRunning(t *testing.T) {
	d := dice(29)
	for length := range 24 {
		sealed := Seal(d.bytes(length))
		for first := range 8 * len(sealed) {
			for width := 2; width <= 32; width++ {
				ends := uint32(1) | 1<<(width-1)
				all := uint32(math.MaxUint32) >> (32 - width)
				for _, pattern := range []uint32{ends, all, ends | d.next()&all, ends | d.next()&all} {
					if turned, ok := turn(sealed, first, pattern); ok {
						checkRefused(t, turned, api.ErrSum)
					}
				}
			}
		}
	}
}

// TestP2_4NextToThePolynomial: the sum can't see its own polynomial's 33 bits turned; without the first or the last of them, what is turned lies within 32.
func TestP2_4NextToThePolynomial(t *testing.T) {
	for _, b := range [][]byte{nil, {0x5d}, digits, make([]byte, 40)} {
		sealed := Seal(b)
		for first := range 8*len(sealed) - 32 {
			withoutLast, _ := turn(sealed, first, 0xdb710641)
			withoutFirst, _ := turn(sealed, first+1, 0xedb88320)
			checkRefused(t, withoutLast, api.ErrSum)
			checkRefused(t, withoutFirst, api.ErrSum)
			whole, _ := turn(withoutFirst, first, 1)
			mustOpen(t, whole)
		}
	}
}

func TestP2_4ExclusiveOrOfThree(t *testing.T) {
	d := dice(30)
	for length := range 200 {
		a, b, c := d.bytes(length), d.bytes(length), d.bytes(length)
		three := make([]byte, length)
		for i := range three {
			three[i] = a[i] ^ b[i] ^ c[i]
		}
		if got, want := Crc(three), Crc(a)^Crc(b)^Crc(c); got != want {
			t.Fatalf("the sum of the exclusive or of %x, %x and %x: %x; wanted %x", a, b, c, got, want)
		}
	}
}

// checkUnlike asks that l has another key with any other byte at one place of one number.
func checkUnlike(t *testing.T, l []rune) {
	t.Helper()
	key := Key(l)
	for i := range l {
		for shift := 0; shift < 32; shift += 8 {
			for x := uint32(1); x < 256; x++ {
				other := slices.Clone(l)
				other[i] = rune(uint32(l[i]) ^ x<<shift)
				if Key(other) == key {
					t.Fatalf("%d and %d have the key %x", l, other, key)
				}
			}
		}
	}
}

func TestP2_5OneByteOfOneNumber(t *testing.T) {
	for _, l := range texts {
		checkUnlike(t, l)
	}
	d := dice(31)
	for length := 1; length < 20; length++ {
		checkUnlike(t, d.numbers(length))
	}
}

// TestP2_5OneByteAllKeysUnlike: the 256 lists that differ in one byte have 256 keys.
func TestP2_5OneByteAllKeysUnlike(t *testing.T) {
	for shift := 0; shift < 32; shift += 8 {
		keys := map[uint64]bool{}
		for x := range uint32(256) {
			keys[Key([]rune{97, rune(x << shift), -5, 0x5d0})] = true
		}
		if len(keys) != 256 {
			t.Errorf("the bytes at the bit %d give %d keys; wanted 256", shift, len(keys))
		}
	}
}

func TestExamples(t *testing.T) {
	if sum := Crc(digits); sum != 0xcbf43926 {
		t.Errorf("Crc: %x", sum)
	}
	if sum := Crc(nil); sum != 0 {
		t.Errorf("Crc of nothing: %x", sum)
	}
	if b := Seal(digits); string(b) != "123456789\x26\x39\xf4\xcb" {
		t.Errorf("Seal: %x", b)
	}
	if key := Key(nil); key != 14695981039346656037 {
		t.Errorf("Key of nothing: %d", key)
	}
}

// TestRule4HandedInStays: neither a list nor its spare room is changed, whatever the call answers.
func TestRule4HandedInStays(t *testing.T) {
	whole := join(Seal(digits), []byte{0x61, 0x62, 0x63, 0x64, 0x65})
	for length := range whole {
		memory := slices.Clone(whole)
		Crc(memory[:length])
		More(7, memory[:length])
		Seal(memory[:length])
		Open(memory[:length])
		if !bytes.Equal(memory, whole) {
			t.Errorf("bytes that were handed in were changed: %x; were %x", memory, whole)
		}
	}
	numbers := []rune{97, -1, 0x5d0, 98, 99}
	was := slices.Clone(numbers)
	for length := range numbers {
		Key(numbers[:length])
		if !slices.Equal(numbers, was) {
			t.Errorf("Key changed what was handed in: %d", numbers)
		}
	}
}

// TestRule4AnswersAreNew: no two answers share memory, nor does one share it with an argument.
func TestRule4AnswersAreNew(t *testing.T) {
	memory := join(digits, make([]byte, 16))
	first, second := Seal(memory[:9]), Seal(memory[:9])
	want := slices.Clone(second)
	spoil(first)
	spoil(memory)
	if !bytes.Equal(second, want) {
		t.Errorf("an answer of Seal changed: %x; was %x", second, want)
	}
	opened, again := mustOpen(t, second), mustOpen(t, second)
	spoil(opened)
	if !bytes.Equal(again, digits) || !bytes.Equal(second, want) {
		t.Errorf("spoiling an answer of Open changed %x or %x", again, second)
	}
	spoil(second)
	if !bytes.Equal(again, digits) {
		t.Errorf("an answer of Open changed: %x", again)
	}
}

// spoil overwrites a list and its spare room.
func spoil(b []byte) {
	b = b[:cap(b)]
	for i := range b {
		b[i] ^= 0xff
	}
}

// TestRule8SpareRoomIsNotRead: what lies behind a list's length takes no part, and is not handed out.
func TestRule8SpareRoomIsNotRead(t *testing.T) {
	sealed := Seal(digits)
	checkRefused(t, sealed[:3], api.ErrShort)
	checkRefused(t, sealed[:12], api.ErrSum)
	longer := join(sealed, []byte("secret"))
	opened := mustOpen(t, longer[:13])
	if rest := opened[:cap(opened)][9:]; bytes.IndexFunc(rest, func(r rune) bool { return r != 0 }) >= 0 {
		t.Errorf("behind what Open answers stands %x", rest)
	}
	if sum := Crc(longer[:9]); sum != 0xcbf43926 {
		t.Errorf("Crc of the first nine bytes: %x", sum)
	}
	numbers := []rune{97, 98}
	if Key(numbers[:1]) != Key([]rune{97}) {
		t.Errorf("Key read what lies behind the list's length")
	}
}
