package disk

import (
	"bytes"
	"math"
	"slices"
	"testing"

	"colophon/api"
)

// outside are numbers that are far from being one of a sector.
var outside = []int{math.MinInt, math.MinInt + 1, math.MinInt32, -4097, -2, -1, 4096, 4097, math.MaxInt32, math.MaxInt - 1, math.MaxInt}

// list is a list of its arguments.
func list[T any](l ...T) []T { return l }

// all is a sector's bytes, each of them the same.
func all(b byte) []byte { return bytes.Repeat(list(b), api.Sector) }

// torn is the beginning of one sector's bytes, and the rest of another's.
func torn(kept int, begins, rest []byte) []byte {
	return slices.Concat(begins[:kept], rest[kept:])
}

// rising is a sector's bytes, no two of them the same.
func rising(from byte) []byte {
	b := make([]byte, api.Sector)
	for i := range b {
		b[i] = from + byte(i)
	}
	return b
}

func mustNew(t *testing.T, sectors int) *Disk {
	t.Helper()
	d, e := New(sectors)
	if e != api.OK || d == nil {
		t.Fatalf("New(%d): %v, %d", sectors, d, e)
	}
	return d
}

func mustWrite(t *testing.T, d *Disk, n int, b []byte) {
	t.Helper()
	if e := d.Write(n, b); e != api.OK {
		t.Fatalf("Write(%d, %v): %d", n, b, e)
	}
}

func mustFlush(t *testing.T, d *Disk) {
	t.Helper()
	if e := d.Flush(); e != api.OK {
		t.Fatalf("Flush: %d", e)
	}
}

func mustStop(t *testing.T, d *Disk, n int) {
	t.Helper()
	if e := d.Stop(n); e != api.OK {
		t.Fatalf("Stop(%d): %d", n, e)
	}
}

func mustSpoil(t *testing.T, d *Disk, n, at int, by byte) {
	t.Helper()
	if e := d.Spoil(n, at, by); e != api.OK {
		t.Fatalf("Spoil(%d, %d, %d): %d", n, at, by, e)
	}
}

func mustCrash(t *testing.T, d *Disk, kept ...int) *Disk {
	t.Helper()
	c, e := d.Crash(kept)
	if e != api.OK || c == nil {
		t.Fatalf("Crash(%v): %v, %d", kept, c, e)
	}
	return c
}

// checkRead holds the bytes of the first sectors against what they are to be.
func checkRead(t *testing.T, d *Disk, want ...[]byte) {
	t.Helper()
	for n, w := range want {
		if got, e := d.Read(n); e != api.OK || !slices.Equal(got, w) {
			t.Errorf("Read(%d): %v, %d, not %v", n, got, e, w)
		}
	}
}

// checkLies holds what lies on the first sectors against what it is to be.
func checkLies(t *testing.T, d *Disk, want ...[]byte) {
	t.Helper()
	checkRead(t, mustCrash(t, d), want...)
}

func checkWaits(t *testing.T, d *Disk, want ...int) {
	t.Helper()
	if got := d.Waits(); !slices.Equal(got, want) {
		t.Errorf("Waits: %v, not %v", got, want)
	}
}

func checkSteps(t *testing.T, d *Disk, want int) {
	t.Helper()
	if got := d.Steps(); got != want {
		t.Errorf("Steps: %d, not %d", got, want)
	}
}

// checkDown holds that the disk is down, and that what it refuses changes nothing.
func checkDown(t *testing.T, d *Disk) {
	t.Helper()
	waits, steps := d.Waits(), d.Steps()
	if b, e := d.Read(0); e != api.ErrDown || len(b) != 0 {
		t.Errorf("Read of a disk that is down: %v, %d", b, e)
	}
	if e := d.Write(0, all(250)); e != api.ErrDown {
		t.Errorf("Write to a disk that is down: %d", e)
	}
	if e := d.Flush(); e != api.ErrDown {
		t.Errorf("Flush of a disk that is down: %d", e)
	}
	checkWaits(t, d, waits...)
	checkSteps(t, d, steps)
}

func TestP17_1Examples(t *testing.T) {
	for _, sectors := range list(1, 2, 3, 63, 64, 65, 4095, 4096) {
		d := mustNew(t, sectors)
		if d.Sectors() != sectors {
			t.Errorf("Sectors of New(%d): %d", sectors, d.Sectors())
		}
		for n := range sectors {
			if b, e := d.Read(n); e != api.OK || !slices.Equal(b, all(0)) {
				t.Fatalf("Read(%d) of a new disk: %v, %d", n, b, e)
			}
		}
		checkWaits(t, d)
		checkSteps(t, d, 0)
		checkLies(t, d, all(0))
		for range 100 {
			mustFlush(t, d) // it is not stopped
		}
	}
}

func TestP17_1WrongNumbers(t *testing.T) {
	for _, sectors := range list(math.MinInt, math.MinInt+1, math.MinInt32, -4096, -64, -1, 0, 4097, 65536, 1<<32, 1<<32+1, math.MaxInt32, math.MaxInt-1, math.MaxInt) {
		if d, e := New(sectors); e != api.ErrArg || d != nil {
			t.Errorf("New(%d): %v, %d", sectors, d, e)
		}
	}
}

func TestP17_1SectorsOfNone(t *testing.T) {
	var none *Disk
	if none.Sectors() != 0 || new(Disk).Sectors() != 0 {
		t.Errorf("Sectors of none: %d, %d", none.Sectors(), new(Disk).Sectors())
	}
}

func TestP17_1TwoDisksAreTwo(t *testing.T) {
	a, b := mustNew(t, 2), mustNew(t, 2)
	mustWrite(t, a, 0, all(1))
	mustSpoil(t, a, 1, 5, 9)
	mustStop(t, a, 0)
	checkRead(t, b, all(0), all(0))
	checkWaits(t, b)
	checkSteps(t, b, 0)
}

func TestP17_2Examples(t *testing.T) {
	d := mustNew(t, 2)
	mustWrite(t, d, 1, all(7))
	checkRead(t, d, all(0), all(7))
	checkLies(t, d, all(0), all(0))
	mustFlush(t, d)
	checkRead(t, d, all(0), all(7))
	checkLies(t, d, all(0), all(7))
	checkWaits(t, d)
}

func TestP17_2TheLastWriteCounts(t *testing.T) {
	d := mustNew(t, 3)
	for _, x := range []struct {
		n int
		b []byte
	}{{1, all(1)}, {2, rising(10)}, {1, all(2)}, {0, rising(99)}, {1, rising(200)}} {
		mustWrite(t, d, x.n, x.b)
	}
	checkRead(t, d, rising(99), rising(200), rising(10))
	checkLies(t, d, all(0), all(0), all(0))
	mustFlush(t, d)
	checkRead(t, d, rising(99), rising(200), rising(10))
	checkLies(t, d, rising(99), rising(200), rising(10))
	mustWrite(t, d, 1, all(3))
	mustWrite(t, d, 1, all(0))
	checkRead(t, d, rising(99), all(0), rising(10))
	checkLies(t, d, rising(99), rising(200), rising(10))
}

func TestP17_2FirstAndLastSector(t *testing.T) {
	for _, sectors := range list(1, 2, 4096) {
		d := mustNew(t, sectors)
		for _, n := range list(0, sectors-1) {
			mustWrite(t, d, n, rising(byte(n)))
			if b, e := d.Read(n); e != api.OK || !slices.Equal(b, rising(byte(n))) {
				t.Errorf("Read(%d) of %d: %v, %d", n, sectors, b, e)
			}
		}
		mustFlush(t, d)
		c := mustCrash(t, d)
		for n := range sectors {
			want := all(0)
			if n == 0 || n == sectors-1 {
				want = rising(byte(n))
			}
			if b, e := c.Read(n); e != api.OK || !slices.Equal(b, want) {
				t.Fatalf("Read(%d) of %d: %v, %d", n, sectors, b, e)
			}
		}
	}
}

func TestP17_2EachSectorOfTheGreatestDisk(t *testing.T) {
	d := mustNew(t, api.MaxSectors)
	for n := range api.MaxSectors {
		mustWrite(t, d, n, rising(byte(n^n>>8)))
	}
	checkSteps(t, d, api.MaxSectors)
	mustFlush(t, d)
	c := mustCrash(t, d)
	for n := range api.MaxSectors {
		if b, e := c.Read(n); e != api.OK || !slices.Equal(b, rising(byte(n^n>>8))) {
			t.Fatalf("Read(%d): %v, %d", n, b, e)
		}
	}
}

func TestP17_2WrongSectors(t *testing.T) {
	for _, sectors := range list(1, 2, 4096) {
		d := mustNew(t, sectors)
		wrong := append(list(sectors, sectors+1), outside...)
		for _, stopped := range list(false, true) {
			if stopped {
				mustStop(t, d, 0)
			}
			for _, n := range wrong {
				if b, e := d.Read(n); e != api.ErrRange || len(b) != 0 {
					t.Errorf("Read(%d) of %d: %v, %d", n, sectors, b, e)
				}
				for _, b := range [][]byte{nil, {}, all(1)[:63], all(1), make([]byte, 65)} {
					if e := d.Write(n, b); e != api.ErrRange {
						t.Errorf("Write(%d, %d bytes) to %d: %d", n, len(b), sectors, e)
					}
				}
			}
			checkWaits(t, d)
			checkSteps(t, d, 0)
		}
		checkLies(t, d, all(0))
	}
}

func TestP17_2WrongBytes(t *testing.T) {
	d := mustNew(t, 2)
	mustWrite(t, d, 0, all(4))
	for _, stopped := range list(false, true) {
		if stopped {
			mustStop(t, d, 0)
		}
		for _, length := range list(0, 1, 2, 32, 62, 63, 65, 66, 127, 128, 4096) {
			if e := d.Write(1, make([]byte, length)); e != api.ErrArg {
				t.Errorf("Write of %d bytes: %d", length, e)
			}
		}
		if e := d.Write(0, nil); e != api.ErrArg {
			t.Errorf("Write of nil: %d", e)
		}
		checkWaits(t, d, 0)
		checkSteps(t, d, 1)
	}
	mustStop(t, d, 9)
	checkRead(t, d, all(4), all(0))
}

func TestP17_2OfNoDisk(t *testing.T) {
	for _, d := range []*Disk{nil, {}} {
		for _, n := range append(list(0, 1), outside...) {
			if b, e := d.Read(n); e != api.ErrNil || len(b) != 0 {
				t.Errorf("Read(%d) of none: %v, %d", n, b, e)
			}
			for _, b := range [][]byte{nil, {}, all(1), make([]byte, 65)} {
				if e := d.Write(n, b); e != api.ErrNil {
					t.Errorf("Write(%d, %d bytes) to none: %d", n, len(b), e)
				}
			}
		}
		if e := d.Flush(); e != api.ErrNil {
			t.Errorf("Flush of none: %d", e)
		}
	}
}

func TestP17_2Down(t *testing.T) {
	d := mustNew(t, 2)
	mustWrite(t, d, 0, all(4))
	mustFlush(t, d)
	mustWrite(t, d, 0, all(5))
	mustStop(t, d, 0)
	checkDown(t, d)
	checkLies(t, d, all(4), all(0))
	checkRead(t, mustCrash(t, d, 64), all(5), all(0))
}

func TestP17_3Examples(t *testing.T) {
	d := mustNew(t, 2)
	mustWrite(t, d, 1, all(7))
	mustStop(t, d, 1)
	mustWrite(t, d, 0, all(8))
	checkDown(t, d)
	checkWaits(t, d, 1, 0)
	checkSteps(t, d, 2)
	checkRead(t, mustCrash(t, d, 64, 64), all(8), all(7))
}

func TestP17_3Waits(t *testing.T) {
	d := mustNew(t, 4)
	checkWaits(t, d)
	var want []int
	for _, n := range list(3, 0, 3, 3, 1, 0, 2) {
		mustWrite(t, d, n, all(byte(n)))
		want = append(want, n)
		checkWaits(t, d, want...)
	}
	checkWaits(t, d, want...)
	mustFlush(t, d)
	checkWaits(t, d)
	mustWrite(t, d, 2, all(1))
	checkWaits(t, d, 2)
	mustFlush(t, d)
	mustFlush(t, d)
	checkWaits(t, d)
	for _, none := range []*Disk{nil, {}} {
		checkWaits(t, none)
	}
}

func TestP17_3Steps(t *testing.T) {
	d := mustNew(t, 2)
	steps := 0
	for _, x := range []struct {
		what string
		call func()
		more int
	}{
		{"a flush of nothing", func() { d.Flush() }, 1},
		{"a write", func() { d.Write(0, all(1)) }, 1},
		{"another write of the same", func() { d.Write(0, all(1)) }, 1},
		{"a read", func() { d.Read(0) }, 0},
		{"a write to no sector", func() { d.Write(2, all(1)) }, 0},
		{"a write of too little", func() { d.Write(1, all(1)[:63]) }, 0},
		{"what waits", func() { d.Waits() }, 0},
		{"how many there are", func() { d.Sectors() }, 0},
		{"how many steps", func() { d.Steps() }, 0},
		{"a byte is spoilt", func() { d.Spoil(0, 0, 1) }, 0},
		{"a crash", func() { d.Crash(list(64)) }, 0},
		{"a stop that may not be", func() { d.Stop(-1) }, 0},
		{"a stop", func() { d.Stop(1) }, 0},
		{"the last flush", func() { d.Flush() }, 1},
		{"a flush when it is down", func() { d.Flush() }, 0},
		{"a write when it is down", func() { d.Write(0, all(1)) }, 0},
		{"a read when it is down", func() { d.Read(0) }, 0},
		{"a stop of a disk that is down", func() { d.Stop(2) }, 0},
		{"a write behind it", func() { d.Write(1, all(1)) }, 1},
	} {
		x.call()
		steps += x.more
		if d.Steps() != steps {
			t.Fatalf("Steps behind %s: %d, not %d", x.what, d.Steps(), steps)
		}
	}
	for _, none := range []*Disk{nil, {}} {
		checkSteps(t, none, 0)
	}
}

func TestP17_3StopLetsSoManyBeDone(t *testing.T) {
	for _, ahead := range list(0, 1, 5) {
		for more := range 8 {
			d := mustNew(t, 1)
			for range ahead {
				mustWrite(t, d, 0, all(1))
			}
			mustStop(t, d, more)
			for i := range more {
				if b, e := d.Read(0); e != api.OK {
					t.Errorf("Read behind %d of %d steps: %v, %d", i, more, b, e)
				}
				if i%2 == 0 {
					mustWrite(t, d, 0, all(1))
				} else {
					mustFlush(t, d)
				}
			}
			checkDown(t, d)
			checkSteps(t, d, ahead+more)
		}
	}
}

func TestP17_3ALaterStopCounts(t *testing.T) {
	d := mustNew(t, 1)
	mustStop(t, d, 0)
	checkDown(t, d)
	mustStop(t, d, 2) // it is up again
	mustFlush(t, d)
	mustStop(t, d, 3)
	for range 3 {
		mustFlush(t, d)
	}
	checkDown(t, d)
	mustStop(t, d, 100)
	mustFlush(t, d)
	mustStop(t, d, 1)
	mustFlush(t, d)
	checkDown(t, d)
	mustStop(t, d, 1)
	mustStop(t, d, 0)
	checkDown(t, d)
	checkSteps(t, d, 6)
}

func TestP17_3StopFarAhead(t *testing.T) {
	for _, n := range list(math.MaxInt, math.MaxInt-1, math.MaxInt32, math.MaxInt32+1) {
		d := mustNew(t, 1)
		mustFlush(t, d)
		mustFlush(t, d)
		mustStop(t, d, n)
		for range 10 {
			mustFlush(t, d)
			mustWrite(t, d, 0, all(3))
			checkRead(t, d, all(3))
		}
		checkSteps(t, d, 22)
	}
}

func TestP17_3WrongStops(t *testing.T) {
	d := mustNew(t, 1)
	for _, n := range list(-1, -2, math.MinInt32, math.MinInt, math.MinInt+1) {
		if e := d.Stop(n); e != api.ErrArg {
			t.Errorf("Stop(%d): %d", n, e)
		}
		mustFlush(t, d) // it is not stopped by it
		for _, none := range []*Disk{nil, {}} {
			if e := none.Stop(n); e != api.ErrNil {
				t.Errorf("Stop(%d) of none: %d", n, e)
			}
		}
	}
	for _, none := range []*Disk{nil, {}} {
		if e := none.Stop(0); e != api.ErrNil {
			t.Errorf("Stop(0) of none: %d", e)
		}
	}
	mustStop(t, d, 1)
	if e := d.Stop(-1); e != api.ErrArg { // the earlier one counts still
		t.Errorf("Stop(-1): %d", e)
	}
	mustFlush(t, d)
	checkDown(t, d)
	if e := d.Stop(-1); e != api.ErrArg {
		t.Errorf("Stop(-1): %d", e)
	}
	checkDown(t, d)
}

func TestP17_4Examples(t *testing.T) {
	d := mustNew(t, 2)
	mustWrite(t, d, 0, rising(1))
	mustFlush(t, d)
	for _, at := range list(0, 1, 31, 62, 63) {
		mustSpoil(t, d, 0, at, 200)
		want := rising(1)
		want[at] = 200
		checkRead(t, d, want, all(0))
		checkLies(t, d, want, all(0))
		mustSpoil(t, d, 0, at, byte(at+1)) // by is what it is then, whatever it was
		mustSpoil(t, d, 0, at, byte(at+1))
		checkRead(t, d, rising(1), all(0))
	}
	mustSpoil(t, d, 1, 63, 255)
	checkRead(t, d, rising(1), torn(63, all(0), all(255)))
	checkSteps(t, d, 2)
}

func TestP17_4WhatWaitsStaysAsItIs(t *testing.T) {
	d := mustNew(t, 2)
	mustWrite(t, d, 1, all(7))
	mustSpoil(t, d, 1, 2, 9)
	checkRead(t, d, all(0), all(7))
	checkWaits(t, d, 1)
	spoilt := all(0)
	spoilt[2] = 9
	checkLies(t, d, all(0), spoilt)
	checkRead(t, mustCrash(t, d, 2), all(0), slices.Concat(list[byte](7, 7, 9), all(0)[3:]))
	checkRead(t, mustCrash(t, d, 3), all(0), torn(3, all(7), all(0)))
	mustFlush(t, d)
	checkRead(t, d, all(0), all(7))
	checkLies(t, d, all(0), all(7))
}

func TestP17_4OfADiskThatIsDown(t *testing.T) {
	d := mustNew(t, 2)
	mustStop(t, d, 0)
	mustSpoil(t, d, 1, 0, 3)
	checkDown(t, d)
	checkLies(t, d, all(0), torn(1, all(3), all(0)))
	mustStop(t, d, 1)
	checkRead(t, d, all(0), torn(1, all(3), all(0)))
	mustFlush(t, d)
	checkDown(t, d)
}

func TestP17_4Wrong(t *testing.T) {
	for _, sectors := range list(1, 2, 4096) {
		d := mustNew(t, sectors)
		for _, n := range append(list(sectors, sectors+1), outside...) {
			for _, at := range append(list(0, 63, 64), outside...) {
				if e := d.Spoil(n, at, 1); e != api.ErrRange {
					t.Errorf("Spoil(%d, %d) of %d: %d", n, at, sectors, e)
				}
			}
		}
		for _, at := range append(list(64, 65, 128), outside...) {
			for _, n := range list(0, sectors-1) {
				if e := d.Spoil(n, at, 1); e != api.ErrRange {
					t.Errorf("Spoil(%d, %d) of %d: %d", n, at, sectors, e)
				}
			}
		}
		for n := range sectors {
			if b, e := d.Read(n); e != api.OK || !slices.Equal(b, all(0)) {
				t.Fatalf("Read(%d) of %d: %v, %d", n, sectors, b, e)
			}
		}
	}
	for _, none := range []*Disk{nil, {}} {
		for _, at := range list(0, -1, 64) {
			for _, n := range list(0, -1, 1, math.MaxInt) {
				if e := none.Spoil(n, at, 1); e != api.ErrNil {
					t.Errorf("Spoil(%d, %d) of none: %d", n, at, e)
				}
			}
		}
	}
}

func TestP17_5Examples(t *testing.T) {
	d := mustNew(t, 2)
	mustWrite(t, d, 1, all(7))
	checkRead(t, mustCrash(t, d, 3), all(0), torn(3, all(7), all(0)))
	checkRead(t, mustCrash(t, d), all(0), all(0))
	mustFlush(t, d)
	checkRead(t, mustCrash(t, d), all(0), all(7))
	mustStop(t, d, 1)
	mustWrite(t, d, 0, all(8))
	checkDown(t, d)
	checkRead(t, mustCrash(t, d, 64), all(8), all(7))
}

func TestP17_5HowManyBytesAreKept(t *testing.T) {
	d := mustNew(t, 1)
	mustWrite(t, d, 0, rising(100))
	mustFlush(t, d)
	mustWrite(t, d, 0, rising(1))
	for kept := -70; kept < 140; kept++ {
		checkRead(t, mustCrash(t, d, kept), torn(min(max(kept, 0), 64), rising(1), rising(100)))
	}
	for _, kept := range list(math.MinInt, math.MinInt+1, math.MinInt32, -1<<32, -1<<32+1) {
		checkRead(t, mustCrash(t, d, kept), rising(100))
	}
	for _, kept := range list(math.MaxInt, math.MaxInt-1, math.MaxInt32, 1<<32, 1<<32+1) {
		checkRead(t, mustCrash(t, d, kept), rising(1))
	}
}

func TestP17_5KeptShorterAndLonger(t *testing.T) {
	d := mustNew(t, 3)
	for n := range 3 {
		mustWrite(t, d, n, all(byte(n+1)))
	}
	one, two, three := all(1), all(2), all(3)
	for _, x := range []struct {
		kept []int
		want [][]byte
	}{
		{nil, [][]byte{all(0), all(0), all(0)}},
		{list(64), [][]byte{one, all(0), all(0)}},
		{list(0, 64), [][]byte{all(0), two, all(0)}},
		{list(-5, 63), [][]byte{all(0), torn(63, two, all(0)), all(0)}},
		{list(1, 2, 3), [][]byte{torn(1, one, all(0)), torn(2, two, all(0)), torn(3, three, all(0))}},
		{list(65, 64, 99, 64, 64), [][]byte{one, two, three}},
		{list(math.MinInt, math.MaxInt, 0, 64), [][]byte{all(0), two, all(0)}},
	} {
		checkRead(t, mustCrash(t, d, x.kept...), x.want...)
	}
	mustFlush(t, d) // nothing waits: whatever is kept, nothing comes of it
	for _, kept := range [][]int{nil, {}, {0}, {64, 64, 64}} {
		checkRead(t, mustCrash(t, d, kept...), one, two, three)
	}
}

func TestP17_5SeveralWritesOfOneSector(t *testing.T) {
	d := mustNew(t, 1)
	mustWrite(t, d, 0, all(9))
	mustFlush(t, d)
	for b := byte(1); b < 4; b++ {
		mustWrite(t, d, 0, all(b))
	}
	for _, x := range []struct {
		kept []int
		want []byte
	}{
		{list(64, 64, 64), all(3)},
		{list(64, 64, 0), all(2)},
		{list(64, 0, 0), all(1)},
		{list(0, 0, 64), all(3)},
		{list(30, 20, 10), slices.Concat(all(3)[:10], all(2)[:10], all(1)[:10], all(9)[:34])},
		{list(10, 20, 30), slices.Concat(all(3)[:30], all(9)[:34])},
		{list(64, 5, -1), torn(5, all(2), all(1))},
		{list(64, -1, 5), torn(5, all(3), all(1))},
		{list(0, 64, 5), torn(5, all(3), all(2))},
	} {
		checkRead(t, mustCrash(t, d, x.kept...), x.want)
	}
}

func TestP17_5AnotherDisk(t *testing.T) {
	d := mustNew(t, 2)
	mustWrite(t, d, 0, all(1))
	mustFlush(t, d)
	mustWrite(t, d, 1, all(2))
	mustStop(t, d, 0)
	c := mustCrash(t, d, 64)
	if c == d || c.Sectors() != 2 {
		t.Fatalf("Crash tells a disk of %d sectors", c.Sectors())
	}
	checkWaits(t, c)
	checkSteps(t, c, 0)
	checkRead(t, c, all(1), all(2))
	for range 10 {
		mustFlush(t, c) // it is not stopped
	}
	mustWrite(t, c, 0, all(3))
	mustSpoil(t, c, 1, 0, 9)
	mustStop(t, c, 0)
	checkDown(t, d)
	checkWaits(t, d, 1)
	checkSteps(t, d, 3)
	checkRead(t, mustCrash(t, d, 64), all(1), all(2))
	mustStop(t, d, 5)
	checkRead(t, d, all(1), all(2))
	mustWrite(t, d, 0, all(4))
	mustSpoil(t, d, 1, 1, 8)
	mustFlush(t, d)
	mustStop(t, c, 5)
	checkRead(t, c, all(3), torn(1, all(9), all(2)))
	checkWaits(t, c, 0)
}

func TestP17_5OfNoDisk(t *testing.T) {
	for _, none := range []*Disk{nil, {}} {
		for _, kept := range [][]int{nil, {}, {3}, {-1, 65}} {
			if c, e := none.Crash(kept); e != api.ErrNil || c != nil {
				t.Errorf("Crash(%v) of none: %v, %d", kept, c, e)
			}
		}
	}
}

func TestP17_6WhatWasFlushedIsThere(t *testing.T) {
	d := mustNew(t, 4)
	for n := range 4 {
		mustWrite(t, d, n, rising(byte(n)))
	}
	mustFlush(t, d)
	mustWrite(t, d, 2, all(77))
	mustWrite(t, d, 0, all(78))
	for first := range 65 {
		for _, second := range list(0, 1, 32, 63, 64) {
			c := mustCrash(t, d, first, second)
			checkRead(t, c, torn(second, all(78), rising(0)), rising(1), torn(first, all(77), rising(2)), rising(3))
			again := mustCrash(t, c, 64, 64)
			checkRead(t, again, torn(second, all(78), rising(0)), rising(1), torn(first, all(77), rising(2)), rising(3))
		}
	}
}
