package record

import (
	"math"
	"slices"
	"testing"

	"colophon/api"
	"colophon/sums"
)

// none are numbers that are no epoch, and no number of a record.
var none = []int{0, -1, 2147483648, math.MinInt, math.MaxInt, -2, -2147483647, math.MinInt32, 4294967295, 4294967296, 4294967297, 4294967298, math.MinInt + 1, math.MaxInt - 1}

// ones are numbers that are.
var ones = []int{1, 2, 255, 256, 257, 65535, 65536, 65537, 16777215, 16777216, 16909060, 2147483646, 2147483647}

// list is a list of its arguments.
func list[T any](l ...T) []T { return l }

// short is the beginning of some bytes, to be told.
func short(b []byte) string {
	const digits = "0123456789abcdef"
	var told []byte
	for _, c := range b[:min(len(b), 24)] {
		told = append(told, digits[c>>4], digits[c&15])
	}
	if len(b) > 24 {
		told = append(told, ".."...)
	}
	return string(told)
}

// dice are numbers that look as if they came by chance, the same ones each time.
type dice struct{ state uint64 }

func newDice(seed uint64) *dice { return &dice{state: seed*0x9e3779b97f4a7c15 + 1} }

func (d *dice) below(n int) int {
	d.state = d.state*6364136223846793005 + 1442695040888963407
	return int(d.state>>33) % n
}

func (d *dice) bytes(n int) []byte {
	b := make([]byte, n)
	for i := range b {
		b[i] = byte(d.below(256))
	}
	return b
}

// rising is a body of n bytes, of which no two neighbours are the same.
func rising(n int) []byte {
	b := make([]byte, n)
	for i := range b {
		b[i] = byte(1 + i%251)
	}
	return b
}

func mustBytes(t *testing.T, epoch, seq int, body []byte) []byte {
	t.Helper()
	b, e := Bytes(epoch, seq, body)
	if e != api.OK {
		t.Fatalf("Bytes(%d, %d, %s): %d", epoch, seq, short(body), e)
	}
	return b
}

func TestP18_1Examples(t *testing.T) {
	body := []byte("hello")
	b := mustBytes(t, 1, 2, body)
	if len(b) != 19 {
		t.Errorf("Bytes(1, 2, 5 bytes) has %d bytes", len(b))
	}
	checkRead(t, b, 1, 2, answer{body: body, size: 19})
	checkRefused(t, b, 1, 3, api.ErrStale)
	checkScan(t, make([]byte, 64), 1, 1, scanned{})
}

func TestP18_1Size(t *testing.T) {
	for n := range 4097 {
		checkSize(t, n, n+14)
	}
	checkSize(t, 0, 14)
	checkSize(t, 4096, 4110)
	for _, n := range list(-1, 4097, math.MinInt, math.MaxInt, -14, -13, 65535, 65536, 65537, math.MinInt32, math.MaxInt32, math.MinInt+1, math.MaxInt-1, math.MaxInt-14, math.MaxInt-13) {
		checkSize(t, n, 0)
	}
}

// Each byte here was worked out by hand, but for the sums, which are chapter 2's.
func TestP18_1BytesOneByOne(t *testing.T) {
	checkBytes(t, 1, 2, []byte("hello"), sums.Seal(list[byte](
		0, 5,
		0, 0, 0, 1,
		0, 0, 0, 2,
		'h', 'e', 'l', 'l', 'o',
	)), api.OK)
	checkBytes(t, 0x01020304, 0x7ffefdfc, list[byte](0xff, 0, 0x80), sums.Seal(list[byte](
		0, 3,
		1, 2, 3, 4,
		0x7f, 0xfe, 0xfd, 0xfc,
		0xff, 0, 0x80,
	)), api.OK)
	checkBytes(t, 2147483647, 2147483647, nil, sums.Seal(list[byte](
		0, 0,
		0x7f, 0xff, 0xff, 0xff,
		0x7f, 0xff, 0xff, 0xff,
	)), api.OK)
	body := rising(0x0102)
	checkBytes(t, 256, 65536, body, sums.Seal(slices.Concat(list[byte](
		1, 2,
		0, 0, 1, 0,
		0, 1, 0, 0,
	), body)), api.OK)
	body = rising(4096)
	checkBytes(t, 1, 1, body, sums.Seal(slices.Concat(list[byte](
		16, 0,
		0, 0, 0, 1,
		0, 0, 0, 1,
	), body)), api.OK)
}

// The sum of these ten bytes is a9ed7150, as any CRC-32 tells it.
func TestP18_1TheSumHasItsLowestByteFirst(t *testing.T) {
	checkBytes(t, 1, 1, nil, list[byte](0, 0, 0, 0, 0, 1, 0, 0, 0, 1, 0x50, 0x71, 0xed, 0xa9), api.OK)
}

func TestP18_1NoBytes(t *testing.T) {
	want := recordOf(3, 4, nil)
	checkBytes(t, 3, 4, nil, want, api.OK)
	checkBytes(t, 3, 4, []byte{}, want, api.OK)
	if len(want) != 14 {
		t.Errorf("a record without bytes has %d", len(want))
	}
	checkRead(t, want, 3, 4, answer{size: 14})
	checkScan(t, want, 3, 4, scanned{bodies: list([]byte{}), end: 14})
}

func TestP18_1EachEpochAndNumberThatIsOne(t *testing.T) {
	for _, epoch := range ones {
		for _, seq := range ones {
			for _, n := range list(0, 1, 5, 4096) {
				body := rising(n)
				b := recordOf(epoch, seq, body)
				checkBytes(t, epoch, seq, body, b, api.OK)
				checkRead(t, b, epoch, seq, answer{body: body, size: n + 14})
			}
		}
	}
}

func TestP18_1EachLengthOfABody(t *testing.T) {
	d := newDice(4)
	for n := range 4097 {
		body := d.bytes(n)
		b := recordOf(n+1, 5000-n, body)
		checkBytes(t, n+1, 5000-n, body, b, api.OK)
		if len(b) != Size(n) {
			t.Errorf("a record with %d bytes has %d, Size %d", n, len(b), Size(n))
		}
	}
}

func TestP18_1WrongEpochsAndNumbers(t *testing.T) {
	for _, x := range none {
		for _, n := range list(0, 5, 4096, 4097, 10000) { // ErrArg ahead of ErrBig
			body := rising(n)
			checkBytes(t, x, 1, body, nil, api.ErrArg)
			checkBytes(t, 1, x, body, nil, api.ErrArg)
			checkBytes(t, x, x, body, nil, api.ErrArg)
			checkBytes(t, 2147483647, x, body, nil, api.ErrArg)
			checkBytes(t, x, 2147483647, body, nil, api.ErrArg)
		}
	}
}

func TestP18_1ABodyThatIsTooBig(t *testing.T) {
	checkBytes(t, 1, 1, rising(4096), recordOf(1, 1, rising(4096)), api.OK)
	for _, n := range list(4097, 4098, 65535, 65536, 65537, 1<<20) {
		checkBytes(t, 1, 1, rising(n), nil, api.ErrBig)
		checkBytes(t, 2147483647, 2147483647, rising(n), nil, api.ErrBig)
	}
}

func TestP18_2WhatIsRead(t *testing.T) {
	for _, n := range list(0, 1, 2, 13, 14, 255, 256, 257, 4095, 4096) {
		body := rising(n)
		b := recordOf(9, 11, body)
		checkRead(t, b, 9, 11, answer{body: body, size: n + 14})
		for _, behind := range [][]byte{list[byte](0), make([]byte, 64), rising(100), recordOf(9, 12, body), recordOf(9, 11, body), b[:13]} {
			checkRead(t, slices.Concat(b, behind), 9, 11, answer{body: body, size: n + 14})
			checkRefused(t, slices.Concat(b, behind), 9, 12, api.ErrStale)
		}
	}
}

func TestP18_2ErrArgIsAheadOfAll(t *testing.T) {
	good := recordOf(1, 1, rising(5))
	wrong := slices.Clone(good)
	wrong[12]++
	for _, b := range [][]byte{nil, {}, good[:13], list[byte](255, 255, 0), make([]byte, 64), framed(4097, 1, 1, nil), good[:18], wrong, good, recordOf(2, 1, nil)} {
		for _, x := range none {
			checkRefused(t, b, x, 1, api.ErrArg)
			checkRefused(t, b, 1, x, api.ErrArg)
			checkRefused(t, b, x, x, api.ErrArg)
			checkRefused(t, b, 2147483647, x, api.ErrArg)
		}
	}
	// Numbers that four bytes can have, but no record, are none even where they are just those that stand there.
	for _, x := range list(0, 2147483648, 4294967295) {
		checkRefused(t, framed(0, uint32(x), 1, nil), x, 1, api.ErrArg)
		checkRefused(t, framed(0, 1, uint32(x), nil), 1, x, api.ErrArg)
	}
}

func TestP18_2ErrShortIsAheadOfErrBig(t *testing.T) {
	checkRefused(t, nil, 1, 1, api.ErrShort)
	checkRefused(t, []byte{}, 1, 1, api.ErrShort)
	for n := range 14 {
		checkRefused(t, make([]byte, n), 1, 1, api.ErrShort)
		big := slices.Repeat(list[byte](255), n)
		checkRefused(t, big, 1, 1, api.ErrShort)
		checkRefused(t, recordOf(1, 1, nil)[:n], 1, 1, api.ErrShort)
		checkRefused(t, recordOf(1, 1, rising(40))[:n], 1, 1, api.ErrShort)
	}
	checkRefused(t, slices.Repeat(list[byte](255), 14), 1, 1, api.ErrBig)
}

func TestP18_2ErrBigIsAheadOfErrShort(t *testing.T) {
	for _, length := range list[uint32](4097, 4098, 8192, 16383, 32768, 65535) {
		b := framed(length, 1, 1, rising(int(length)))
		for _, n := range list(14, 15, 100, len(b)-1, len(b)) {
			checkRefused(t, b[:n], 1, 1, api.ErrBig)
			checkRefused(t, b[:n], 2, 1, api.ErrBig)
		}
		checkRefused(t, append(b, 1, 2, 3), 1, 1, api.ErrBig)
	}
	for n := 14; n < 4110; n++ { // one byte less is no longer too big, but too few
		b := framed(4096, 1, 1, rising(4096))
		if n%97 == 0 || n < 40 || n > 4100 {
			checkRefused(t, b[:n], 1, 1, api.ErrShort)
		}
	}
}

func TestP18_2ErrShortIsAheadOfErrSum(t *testing.T) {
	for _, n := range list(1, 2, 5, 40, 4096) {
		b := recordOf(1, 1, rising(n))
		wrong := slices.Clone(b)
		wrong[9]++
		for end := 14; end < len(b); end++ {
			checkRefused(t, b[:end], 1, 1, api.ErrShort)
			checkRefused(t, wrong[:end], 1, 1, api.ErrShort)
			checkRefused(t, b[:end], 1, 2, api.ErrShort)
			if n == 4096 {
				end += 60
			}
		}
		checkRefused(t, wrong, 1, 1, api.ErrSum)
	}
}

func TestP18_2EachByteTurnedIsErrSum(t *testing.T) {
	for _, n := range list(0, 1, 5, 33) {
		b := recordOf(5, 6, rising(n))
		for at := 2; at < len(b); at++ {
			for by := 1; by < 256; by++ {
				b[at] ^= byte(by)
				for _, behind := range list(0, 20) {
					given := append(slices.Clone(b), rising(behind)...)
					checkRefused(t, given, 5, 6, api.ErrSum)
					checkRefused(t, given, 4, 7, api.ErrSum) // ahead of ErrStale
				}
				b[at] ^= byte(by)
			}
		}
		checkRead(t, b, 5, 6, answer{body: rising(n), size: n + 14})
	}
	b := recordOf(5, 6, rising(4096))
	for at := 2; at < len(b); at++ {
		b[at] ^= byte(1 << (at % 8))
		if at%11 == 0 || at < 14 || at > 4100 {
			checkRefused(t, b, 5, 6, api.ErrSum)
		}
		b[at] ^= byte(1 << (at % 8))
	}
}

func TestP18_2TheLengthIsInTheSum(t *testing.T) {
	// Another length, with just as many bytes: the sum is that of other bytes.
	b := recordOf(5, 6, rising(300))
	for length := range 4097 {
		if length != 300 {
			given := append(slices.Clone(b), make([]byte, 4110)...)
			given[0], given[1] = byte(length/256), byte(length%256)
			checkRefused(t, given, 5, 6, api.ErrSum)
		}
	}
}

func TestP18_2AnotherEpochOrNumberIsErrStale(t *testing.T) {
	body := rising(5)
	for _, epoch := range ones {
		for _, seq := range ones {
			b := recordOf(epoch, seq, body)
			for _, other := range ones {
				if other != epoch {
					checkRefused(t, b, other, seq, api.ErrStale)
				}
				if other != seq {
					checkRefused(t, b, epoch, other, api.ErrStale)
				}
				if other != epoch && other != seq {
					checkRefused(t, b, other, other, api.ErrStale)
				}
			}
		}
	}
	checkRefused(t, recordOf(1, 2, body), 2, 1, api.ErrStale)
	// With a right sum there can stand numbers that are none.
	for _, x := range list[uint32](0, 2147483648, 2147483649, 4294967295) {
		checkRefused(t, framed(5, x, 1, body), 1, 1, api.ErrStale)
		checkRefused(t, framed(5, 1, x, body), 1, 1, api.ErrStale)
		checkRefused(t, framed(5, x, 2147483647, body), 2147483647, 2147483647, api.ErrStale)
	}
}

func TestP18_3WrongEpochsAndNumbers(t *testing.T) {
	good, _ := logOf(1, 1, rising(5), rising(6))
	for _, b := range [][]byte{nil, {}, make([]byte, 64), good} {
		for _, x := range none {
			checkScan(t, b, x, 1, scanned{e: api.ErrArg})
			checkScan(t, b, 1, x, scanned{e: api.ErrArg})
			checkScan(t, b, x, x, scanned{e: api.ErrArg})
		}
	}
}

func TestP18_3WhatIsNone(t *testing.T) {
	for _, b := range [][]byte{nil, {}, list[byte](1), make([]byte, 13), make([]byte, 14), make([]byte, 64), slices.Repeat(list[byte](255), 64)} {
		for _, epoch := range ones {
			for _, first := range ones {
				checkScan(t, b, epoch, first, scanned{})
			}
		}
	}
}

func TestP18_3RecordsOneBehindTheOther(t *testing.T) {
	bodies := list(rising(3), nil, rising(1), rising(4096), nil, rising(256), rising(20))
	for _, epoch := range ones {
		for _, first := range list(1, 2, 250, 255, 65530, 16777210, 2147483640) {
			b, ends := logOf(epoch, first, bodies...)
			checkScan(t, b, epoch, first, whole(bodies, ends, len(bodies)))
			for n := range bodies {
				checkScan(t, b[:ends[n]], epoch, first, whole(bodies, ends, n+1))
				if n > 0 { // from a later one on
					rest, restEnds := logOf(epoch, first+n, bodies[n:]...)
					checkScan(t, b[ends[n-1]:], epoch, first+n, whole(bodies[n:], restEnds, len(restEnds)))
					if !slices.Equal(rest, b[ends[n-1]:]) {
						t.Errorf("the rest of a log is another one")
					}
				}
			}
		}
	}
}

func TestP18_3AnotherEpochOrFirst(t *testing.T) {
	bodies := list(rising(3), rising(4), rising(5))
	b, ends := logOf(5, 10, bodies...)
	for epoch := 1; epoch < 12; epoch++ {
		for first := 1; first < 20; first++ {
			want := scanned{}
			if epoch == 5 && first == 10 {
				want = whole(bodies, ends, 3)
			}
			checkScan(t, b, epoch, first, want)
		}
	}
}

func TestP18_3AnEpochThatChangesEndsIt(t *testing.T) {
	bodies := list(rising(3), rising(4), rising(5), rising(6))
	for n := range bodies {
		for _, epoch := range list(4, 6) {
			var b []byte
			for i, body := range bodies {
				of := 5
				if i == n {
					of = epoch
				}
				b = append(b, recordOf(of, i+1, body)...)
			}
			_, ends := logOf(5, 1, bodies...)
			checkScan(t, b, 5, 1, whole(bodies, ends, n))
		}
	}
}

func TestP18_3ANumberThatIsLeftOutOrComesTwiceEndsIt(t *testing.T) {
	bodies := list(rising(3), rising(4), rising(5), rising(6))
	for n := 1; n < len(bodies); n++ {
		for _, off := range list(-1, 1, 2, 256) { // -1: the number of the one ahead comes twice
			var b []byte
			for i, body := range bodies {
				seq := 7 + i
				if i >= n {
					seq += off
				}
				b = append(b, recordOf(5, seq, body)...)
			}
			_, ends := logOf(5, 7, bodies...)
			checkScan(t, b, 5, 7, whole(bodies, ends, n))
		}
	}
}

func TestP18_3UpToTheLastNumber(t *testing.T) {
	const last = 2147483647
	bodies := list(rising(3), rising(4), rising(5))
	for n := 1; n <= 3; n++ {
		b, ends := logOf(1, last-n+1, bodies[:n]...)
		checkScan(t, b, 1, last-n+1, whole(bodies, ends, n))
		// Whatever comes behind the last number is not read, not even with a number that would be the next one.
		for _, seq := range list[uint32](last, last+1, 0, 1, 4294967295) {
			behind := framed(7, 1, seq, rising(7))
			checkScan(t, slices.Concat(b, behind), 1, last-n+1, whole(bodies, ends, n))
		}
	}
	b, ends := logOf(last, last, rising(2))
	checkScan(t, slices.Concat(b, b), last, last, whole(list(rising(2)), ends, 1))
}

func TestP18_4WhatWasWrittenIsRead(t *testing.T) {
	d := newDice(5)
	for range 2000 {
		epoch, seq, body := 1+d.below(2147483647), 1+d.below(2147483647), d.bytes(d.below(4097))
		b := mustBytes(t, epoch, seq, body)
		checkRead(t, b, epoch, seq, answer{body: body, size: Size(len(body))})
		checkScan(t, b, epoch, seq, scanned{bodies: list(body), end: Size(len(body))})
	}
}

// someLog is a log that Bytes wrote, its bodies, and where each record ends.
func someLog(t *testing.T, epoch, first int) (b []byte, bodies [][]byte, ends []int) {
	t.Helper()
	bodies = list(rising(3), nil, rising(30), rising(1), []byte{}, rising(9))
	for i, body := range bodies {
		b = append(b, mustBytes(t, epoch, first+i, body)...)
		ends = append(ends, len(b))
	}
	return b, bodies, ends
}

// wholeBefore counts the records that end at a place, or ahead of it.
func wholeBefore(ends []int, place int) int {
	n := 0
	for n < len(ends) && ends[n] <= place {
		n++
	}
	return n
}

func TestP18_4CutOffAtEachPlace(t *testing.T) {
	b, bodies, ends := someLog(t, 3, 8)
	for cut := range len(b) + 1 {
		want := whole(bodies, ends, wholeBefore(ends, cut))
		checkScan(t, b[:cut], 3, 8, want)
		if cut < len(b) {
			// What was lost may have other bytes, too: just so that the first one of them is another one.
			behind := slices.Clone(b[cut:])
			clear(behind)
			if !slices.Equal(behind, b[cut:]) {
				checkAll(t, slices.Concat(b[:cut], behind), 3, 8)
			}
		}
	}
}

func TestP18_4CutOffAtEachPlaceOfALongOne(t *testing.T) {
	bodies := list(rising(4096), rising(2), rising(4096))
	b, ends := logOf(3, 8, bodies...)
	for cut := 0; cut <= len(b); cut++ {
		if cut%37 == 0 || len(b)-cut < 3 || slices.ContainsFunc(ends, func(end int) bool { return end-2 <= cut && cut <= end+2 }) {
			checkScan(t, b[:cut], 3, 8, whole(bodies, ends, wholeBefore(ends, cut)))
		}
	}
}

func TestP18_4EachByteTurned(t *testing.T) {
	b, bodies, ends := someLog(t, 3, 8)
	start := 0
	for n, end := range ends {
		for at := start; at < end; at++ {
			for by := 1; by < 256; by++ {
				b[at] ^= byte(by)
				if at >= start+2 {
					checkScan(t, b, 3, 8, whole(bodies, ends, n))
				} else {
					checkAll(t, b, 3, 8)
				}
				b[at] ^= byte(by)
			}
		}
		start = end
	}
	checkScan(t, b, 3, 8, whole(bodies, ends, len(bodies)))
}

func TestP18_4WhateverStandsBehind(t *testing.T) {
	d := newDice(6)
	b, bodies, ends := someLog(t, 3, 8)
	all := whole(bodies, ends, len(bodies))
	next := 8 + len(bodies)
	for _, behind := range [][]byte{
		list[byte](0), make([]byte, 13), make([]byte, 14), make([]byte, 500), rising(500), slices.Repeat(list[byte](255), 500),
		recordOf(2, next, rising(4)), recordOf(4, next, rising(4)), recordOf(2, 8, rising(4)), recordOf(1, next, nil),
		recordOf(3, next+1, rising(4)), recordOf(3, next-1, rising(4)), recordOf(3, 8, rising(4)), b,
		recordOf(3, next, rising(4))[:17],
	} {
		checkScan(t, slices.Concat(b, behind), 3, 8, all)
	}
	for range 500 {
		checkScan(t, slices.Concat(b, d.bytes(d.below(200))), 3, 8, all)
	}
	// With one that does follow, Scan still begins with them.
	more := rising(4)
	checkScan(t, slices.Concat(b, recordOf(3, next, more), rising(30)), 3, 8, scanned{bodies: append(slices.Clone(bodies), more), end: len(b) + 18})
}

func TestP18_4RecordsOfAnotherEpochAreNone(t *testing.T) {
	b, bodies, ends := someLog(t, 3, 8)
	for _, epoch := range list(1, 2, 4, 5, 3+256, 3+65536, 2147483647) {
		checkScan(t, b, epoch, 8, scanned{})
		other, otherBodies, otherEnds := someLog(t, epoch, 8+len(bodies))
		both := slices.Concat(b, other)
		checkScan(t, both, 3, 8, whole(bodies, ends, len(bodies)))
		checkScan(t, both, epoch, 8, scanned{})
		checkScan(t, other, epoch, 8+len(bodies), whole(otherBodies, otherEnds, len(otherBodies)))
	}
	// A new epoch's log, written over an older one of which the rest still stands.
	for n := range len(bodies) + 1 {
		fresh, _ := logOf(4, 8, bodies[:n]...)
		over := slices.Concat(fresh, b[len(fresh):])
		checkScan(t, over, 4, 8, whole(bodies, ends, n))
	}
}
