package record

import (
	"slices"
	"testing"

	"colophon/api"
	"colophon/disk"
)

// These logs lie in the sectors of a disk from the first one on, without gaps.

func mustDisk(t *testing.T, sectors int) *disk.Disk {
	t.Helper()
	d, e := disk.New(sectors)
	if e != api.OK {
		t.Fatalf("New(%d): %d", sectors, e)
	}
	return d
}

// write lets the bytes of a log wait, from a place on, sector by sector.
func write(t *testing.T, d *disk.Disk, log []byte, from int) {
	t.Helper()
	for n := from / api.Sector; n*api.Sector < len(log); n++ {
		sector := make([]byte, api.Sector)
		copy(sector, log[n*api.Sector:])
		if e := d.Write(n, sector); e != api.OK {
			t.Fatalf("Write(%d): %d", n, e)
		}
	}
}

func mustFlush(t *testing.T, d *disk.Disk) {
	t.Helper()
	if e := d.Flush(); e != api.OK {
		t.Fatalf("Flush: %d", e)
	}
}

// seen is all bytes of a disk.
func seen(t *testing.T, d *disk.Disk) []byte {
	t.Helper()
	var b []byte
	for n := range d.Sectors() {
		sector, e := d.Read(n)
		if e != api.OK {
			t.Fatalf("Read(%d): %d", n, e)
		}
		b = append(b, sector...)
	}
	return b
}

// behind is all bytes of a disk behind a loss of power, of which so many bytes of each write that waited are kept.
func behind(t *testing.T, d *disk.Disk, kept []int) []byte {
	t.Helper()
	c, e := d.Crash(kept)
	if e != api.OK {
		t.Fatalf("Crash(%v): %d", kept, e)
	}
	return seen(t, c)
}

// checkBegins holds a scan against the first so many of a list of bodies, and tells how many.
func checkBegins(t *testing.T, b []byte, epoch, first int, bodies [][]byte, least int) int {
	t.Helper()
	got, end, e := Scan(b, epoch, first)
	n := len(got)
	if e != api.OK || n < least || n > len(bodies) || !slices.EqualFunc(got, bodies[:min(n, len(bodies))], slices.Equal) {
		t.Fatalf("Scan(.., %d, %d): %v, %d, %d, not the beginning of %v, %d at least", epoch, first, got, end, e, bodies, least)
	}
	size := 0
	for _, body := range got {
		size += Size(len(body))
	}
	if end != size {
		t.Errorf("the end of %d records is %d, not %d", n, end, size)
	}
	return n
}

// eachLoss goes through the losses of some writes: each kept whole, not at all, or torn at some places.
func eachLoss(writes int, do func(kept []int)) {
	choices := list(0, 1, 2, 13, 40, 63, 64)
	number := 1
	for range writes {
		number *= len(choices)
	}
	for n := range number {
		var kept []int
		for range writes {
			kept = append(kept, choices[n%len(choices)])
			n /= len(choices)
		}
		do(kept)
	}
}

func TestW3BehindALossOfPowerTheFirstOnesAreThere(t *testing.T) {
	for _, old := range list(false, true) {
		d := mustDisk(t, 8)
		if old { // the log of an epoch ahead, longer than the new one will be
			was, _ := logOf(4, 1, rising(70), rising(8), rising(90), nil, rising(100))
			write(t, d, was, 0)
			mustFlush(t, d)
		}
		bodies := list(rising(3), rising(20), nil, rising(60), rising(41), rising(7), rising(30), nil)
		kept := 0
		for n := range bodies {
			log, ends := logOf(5, 1, bodies[:n+1]...)
			if len(d.Waits()) > 3 {
				mustFlush(t, d)
				kept = n
			}
			write(t, d, log, ends[n]-Size(len(bodies[n])))
			checkScan(t, seen(t, d), 5, 1, whole(bodies, ends, n+1))
			eachLoss(len(d.Waits()), func(lost []int) {
				checkBegins(t, behind(t, d, lost), 5, 1, bodies[:n+1], kept)
			})
		}
		mustFlush(t, d)
		checkBegins(t, behind(t, d, nil), 5, 1, bodies, len(bodies))
	}
}

func TestW3OnOneGoesFromWhereTheScanEnded(t *testing.T) {
	d := mustDisk(t, 8)
	bodies := list(rising(3), rising(20), rising(60))
	log, ends := logOf(5, 1, bodies...)
	write(t, d, log, 0)
	// The third record is torn: what is written over it from the end on is read behind the two that are whole.
	b := behind(t, d, list(64, ends[1]-64+20))
	n := checkBegins(t, b, 5, 1, bodies, 2)
	if n != 2 {
		t.Fatalf("%d records are whole, not 2", n)
	}
	_, end, _ := Scan(b, 5, 1)
	other := rising(11)
	b = slices.Concat(b[:end], mustBytes(t, 5, 3, other), b[end+Size(11):])
	checkScan(t, b, 5, 1, scanned{bodies: list(bodies[0], bodies[1], other), end: end + 25})
}

func TestW5OneSectorThatRots(t *testing.T) {
	d := newDice(7)
	bodies := list(rising(3), rising(20), nil, rising(60), rising(41), rising(200), rising(7))
	log, ends := logOf(5, 1, bodies...)
	log = append(log, make([]byte, api.Sector-len(log)%api.Sector)...)
	for n := range len(log) / api.Sector {
		for range 200 {
			rotten := slices.Clone(log)
			if d.below(2) == 0 {
				rotten[n*api.Sector+d.below(api.Sector)] ^= byte(1 + d.below(255))
			} else {
				copy(rotten[n*api.Sector:], d.bytes(api.Sector))
			}
			least := wholeBefore(ends, n*api.Sector)
			checkBegins(t, rotten, 5, 1, bodies, least)
		}
	}
}
