package record

import (
	"slices"
	"testing"

	"colophon/api"
)

// sumOf is chapter 2's sum, bit by bit, the lowest byte first.
func sumOf(b []byte) []byte {
	state := uint32(0xffffffff)
	for _, c := range b {
		state ^= uint32(c)
		for range 8 {
			out := state & 1
			state >>= 1
			if out == 1 {
				state ^= 0xedb88320
			}
		}
	}
	state = ^state
	return list(byte(state), byte(state>>8), byte(state>>16), byte(state>>24))
}

// sealOf is bytes with their sum behind them.
func sealOf(b []byte) []byte { return slices.Concat(b, sumOf(b)) }

// framed is what the chapter's words make of a body, whatever the length that is told.
func framed(length, epoch, seq uint32, body []byte) []byte {
	return sealOf(slices.Concat(
		list(byte(length/256), byte(length%256)),
		list(byte(epoch>>24), byte(epoch>>16&255), byte(epoch>>8&255), byte(epoch&255)),
		list(byte(seq>>24), byte(seq>>16&255), byte(seq>>8&255), byte(seq&255)),
		body,
	))
}

// recordOf is a record by the chapter's words.
func recordOf(epoch, seq int, body []byte) []byte {
	return framed(uint32(len(body)), uint32(epoch), uint32(seq), body)
}

// isOne tells whether a number is one of an epoch, or of a record.
func isOne(n int) bool { return 1 <= n && n <= 2147483647 }

// answer is what Read tells.
type answer struct {
	body []byte
	size int
	e    api.Errno
}

// readOf is Read by the chapter's words, condition by condition.
func readOf(b []byte, epoch, seq int) answer {
	if !isOne(epoch) || !isOne(seq) {
		return answer{e: api.ErrArg}
	}
	if len(b) < 14 {
		return answer{e: api.ErrShort}
	}
	length := 256*int(b[0]) + int(b[1])
	if length > 4096 {
		return answer{e: api.ErrBig}
	}
	size := 2 + 4 + 4 + length + 4
	if len(b) < size {
		return answer{e: api.ErrShort}
	}
	if !slices.Equal(b[size-4:size], sumOf(b[:size-4])) {
		return answer{e: api.ErrSum}
	}
	body := b[10 : size-4]
	if !slices.Equal(b[:size], recordOf(epoch, seq, body)) {
		return answer{e: api.ErrStale}
	}
	return answer{body: body, size: size}
}

// scanned is what Scan tells.
type scanned struct {
	bodies [][]byte
	end    int
	e      api.Errno
}

// scanOf is Scan by the chapter's words: what is left is b behind each record that was told.
func scanOf(b []byte, epoch, first int) scanned {
	if !isOne(epoch) || !isOne(first) {
		return scanned{e: api.ErrArg}
	}
	var told scanned
	for seq := first; seq <= 2147483647; seq++ {
		x := readOf(b, epoch, seq)
		if x.e != api.OK {
			break
		}
		told.bodies = append(told.bodies, x.body)
		told.end += x.size
		b = b[x.size:]
	}
	return told
}

// checkSize holds Size against what it is to tell.
func checkSize(t *testing.T, n, want int) {
	t.Helper()
	if got := Size(n); got != want {
		t.Errorf("Size(%d): %d, not %d", n, got, want)
	}
}

// checkBytes holds Bytes against what it is to tell.
func checkBytes(t *testing.T, epoch, seq int, body, want []byte, wantE api.Errno) {
	t.Helper()
	got, e := Bytes(epoch, seq, body)
	if e != wantE || !slices.Equal(got, want) {
		t.Errorf("Bytes(%d, %d, %s): %s, %d, not %s, %d", epoch, seq, short(body), short(got), e, short(want), wantE)
	}
}

// checkRead holds Read against what it is to tell.
func checkRead(t *testing.T, b []byte, epoch, seq int, want answer) {
	t.Helper()
	body, size, e := Read(b, epoch, seq)
	if e != want.e || size != want.size || !slices.Equal(body, want.body) {
		t.Errorf("Read(%s, %d, %d): %s, %d, %d, not %s, %d, %d", short(b), epoch, seq, short(body), size, e, short(want.body), want.size, want.e)
	}
}

// checkRefused holds Read against an error, beside which all else is to be zero.
func checkRefused(t *testing.T, b []byte, epoch, seq int, want api.Errno) {
	t.Helper()
	checkRead(t, b, epoch, seq, answer{e: want})
}

// checkScan holds Scan against what it is to tell.
func checkScan(t *testing.T, b []byte, epoch, first int, want scanned) {
	t.Helper()
	bodies, end, e := Scan(b, epoch, first)
	if e != want.e || end != want.end || !slices.EqualFunc(bodies, want.bodies, slices.Equal) {
		t.Errorf("Scan(%s, %d, %d): %d bodies, %d, %d, not %d bodies, %d, %d", short(b), epoch, first, len(bodies), end, e, len(want.bodies), want.end, want.e)
	}
}

// checkAll holds all that is asked of bytes against the chapter's words.
func checkAll(t *testing.T, b []byte, epoch, seq int) {
	t.Helper()
	checkRead(t, b, epoch, seq, readOf(b, epoch, seq))
	checkScan(t, b, epoch, seq, scanOf(b, epoch, seq))
}

// The words themselves are held against what chapter 2 tells of the nine digits.
func TestTheWordsHaveTheSumThatChapter2Tells(t *testing.T) {
	if got := sumOf([]byte("123456789")); !slices.Equal(got, list[byte](0x26, 0x39, 0xf4, 0xcb)) {
		t.Errorf("the sum of the nine digits: %x", got)
	}
	if got := sumOf(nil); !slices.Equal(got, list[byte](0, 0, 0, 0)) {
		t.Errorf("the sum of nothing: %x", got)
	}
}

// logOf is records of one epoch, one behind the other, and where each ends.
func logOf(epoch, first int, bodies ...[]byte) (b []byte, ends []int) {
	for i, body := range bodies {
		b = append(b, recordOf(epoch, first+i, body)...)
		ends = append(ends, len(b))
	}
	return b, ends
}

// whole is what is told of a log, so many of whose records are whole.
func whole(bodies [][]byte, ends []int, n int) scanned {
	if n == 0 {
		return scanned{}
	}
	return scanned{bodies: bodies[:n], end: ends[n-1]}
}

func TestP18_2AllThatIsShortAgainstTheWords(t *testing.T) {
	// All lists of bytes of which each is one of two, around the size of the least record.
	for size := range 17 {
		for mask := range 1 << min(size, 12) {
			b := make([]byte, size)
			for i := range min(size, 12) {
				b[i] = byte(mask >> i & 1)
			}
			checkAll(t, b, 1, 1)
			checkAll(t, sealOf(b), 1, 1)
		}
	}
}

func TestP18_2EachLengthAgainstTheWords(t *testing.T) {
	d := newDice(1)
	body := d.bytes(4200)
	for length := range 65536 {
		// So few bytes are kept ahead of the sum that most are too few; those with a right sum are there, too.
		b := framed(uint32(length), 3, 4, body[:min(length, 4200)%50])
		checkAll(t, b, 3, 4)
		if length%17 == 0 || length > 4080 && length < 4120 {
			checkAll(t, framed(uint32(length), 3, 4, body[:min(length, 4200)]), 3, 4)
		}
	}
}

func TestP18_3RandomLogsAgainstTheWords(t *testing.T) {
	d := newDice(2)
	for range 6000 {
		epoch, first := 1+d.below(3), 1+d.below(4)
		if d.below(8) == 0 {
			epoch = 2147483647 - d.below(3)
		}
		if d.below(8) == 0 {
			first = 2147483647 - d.below(6)
		}
		b := randomLog(d, epoch, first)
		for range 3 {
			checkAll(t, b, epoch+d.below(3)-1, first+d.below(3)-1)
		}
		checkAll(t, b, epoch, first)
	}
}

// randomLog is records that mostly follow one another, with other things among them.
func randomLog(d *dice, epoch, first int) []byte {
	var b []byte
	seq := first
	for range d.below(12) {
		body := d.bytes(d.below(40))
		switch d.below(24) {
		case 0:
			b = append(b, recordOf(epoch+1, seq, body)...)
		case 1:
			b = append(b, recordOf(epoch, seq-1, body)...)
		case 2:
			b = append(b, recordOf(epoch, seq+1, body)...)
		case 3:
			b = append(b, d.bytes(d.below(30))...)
		case 4:
			one := recordOf(epoch, seq, body)
			b = append(b, one[:d.below(len(one))]...)
		case 5:
			one := recordOf(epoch, seq, body)
			one[d.below(len(one))] ^= byte(1 + d.below(255))
			b = append(b, one...)
		case 6:
			b = append(b, make([]byte, d.below(40))...)
		default:
			b = append(b, recordOf(epoch, seq, body)...)
			seq++
		}
	}
	return b
}

func TestP18_3LongBytesAgainstTheWords(t *testing.T) {
	d := newDice(3)
	for range 8 {
		b := d.bytes(4096 * api.Sector)
		checkAll(t, b, 1, 1)
		b[0], b[1] = 0, byte(d.below(100))
		checkAll(t, b, 1, 1)
	}
	// As many records as a disk has room for, of bodies of all lengths.
	for _, most := range list(1, 30, 300, 4097) {
		var bodies [][]byte
		size := 0
		for {
			body := d.bytes(d.below(most))
			if size += 14 + len(body); size > 4096*api.Sector {
				break
			}
			bodies = append(bodies, body)
		}
		b, ends := logOf(7, 100, bodies...)
		checkScan(t, b, 7, 100, whole(bodies, ends, len(bodies)))
		checkScan(t, append(b, d.bytes(4096*api.Sector-len(b))...), 7, 100, whole(bodies, ends, len(bodies)))
		checkAll(t, b[:d.below(len(b))], 7, 100)
		checkAll(t, b, 7, 99)
		checkAll(t, b, 6, 100)
	}
}
