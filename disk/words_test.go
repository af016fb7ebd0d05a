package disk

import (
	"math"
	"slices"
	"testing"

	"colophon/api"
)

// Kinds of what a disk of words was told.
const (
	wrote = iota
	flushed
	spoilt
	stopped
)

// deed is one thing that was done, and with what.
type deed struct {
	kind, n, at int
	bytes       []byte
}

// told is a disk as the chapter's words have it: all that was ever done to it, from which each byte is worked out anew when it is asked for.
type told struct {
	first [][]byte // what lay on it at the beginning
	deeds []deed
}

func toldOf(sectors int) *told {
	w := &told{}
	for range sectors {
		w.first = append(w.first, all(0))
	}
	return w
}

// waits are the writes behind the last flush.
func (w *told) waits() []deed {
	var some []deed
	for _, x := range w.deeds {
		switch x.kind {
		case wrote:
			some = append(some, x)
		case flushed:
			some = nil
		}
	}
	return some
}

// lies is the byte at at of what lies in the sector n.
func (w *told) lies(n, at int) byte {
	lie := w.first[n][at]
	wait := -1
	for _, x := range w.deeds {
		switch {
		case x.kind == wrote && x.n == n:
			wait = int(x.bytes[at])
		case x.kind == flushed && wait >= 0:
			lie, wait = byte(wait), -1
		case x.kind == spoilt && x.n == n && x.at == at:
			lie = x.bytes[0]
		}
	}
	return lie
}

// behind is the byte at at of the sector n behind a crash.
func (w *told) behind(kept []int, n, at int) byte {
	b := w.lies(n, at)
	for i, x := range w.waits() {
		if x.n == n && i < len(kept) && at < kept[i] {
			b = x.bytes[at]
		}
	}
	return b
}

func (w *told) steps() int {
	steps := 0
	for _, x := range w.deeds {
		if x.kind == wrote || x.kind == flushed {
			steps++
		}
	}
	return steps
}

// down tells whether as many steps were done behind the last stop as it let be done.
func (w *told) down() bool {
	for i := len(w.deeds) - 1; i >= 0; i-- {
		if w.deeds[i].kind == stopped {
			return (&told{deeds: w.deeds[i:]}).steps() >= w.deeds[i].n
		}
	}
	return false
}

// sectorBy is all bytes of one, each told by a function.
func sectorBy(byteAt func(at int) byte) []byte {
	var b []byte
	for at := range api.Sector {
		b = append(b, byteAt(at))
	}
	return b
}

func (w *told) read(n int) []byte {
	writes := w.waits()
	for i := len(writes) - 1; i >= 0; i-- {
		if writes[i].n == n {
			return writes[i].bytes
		}
	}
	return sectorBy(func(at int) byte { return w.lies(n, at) })
}

func (w *told) crash(kept []int) *told {
	c := &told{}
	for n := range w.first {
		c.first = append(c.first, sectorBy(func(at int) byte { return w.behind(kept, n, at) }))
	}
	return c
}

// do tells the deed's error, and takes it down if there is none.
func (w *told) do(x deed) api.Errno {
	no := x.n < 0 || x.n >= len(w.first)
	switch x.kind {
	case wrote:
		if no {
			return api.ErrRange
		}
		if len(x.bytes) != api.Sector {
			return api.ErrArg
		}
	case spoilt:
		if no || x.at < 0 || x.at > 63 {
			return api.ErrRange
		}
	case stopped:
		if x.n < 0 {
			return api.ErrArg
		}
	}
	if w.down() && (x.kind == wrote || x.kind == flushed) {
		return api.ErrDown
	}
	w.deeds = append(w.deeds, x)
	return api.OK
}

// doTo does the deed to a disk.
func doTo(d *Disk, x deed) api.Errno {
	switch x.kind {
	case wrote:
		return d.Write(x.n, x.bytes)
	case flushed:
		return d.Flush()
	case spoilt:
		return d.Spoil(x.n, x.at, x.bytes[0])
	}
	return d.Stop(x.n)
}

// doBoth does the deed to both, and holds the answers against one another.
func doBoth(t *testing.T, d *Disk, w *told, x deed) {
	t.Helper()
	want := w.do(x)
	if got := doTo(d, x); got != want {
		t.Fatalf("%v: %d, not %d", x, got, want)
	}
}

// checkBoth holds all that may be asked of both against one another.
func checkBoth(t *testing.T, d *Disk, w *told) {
	t.Helper()
	var numbers []int
	for _, x := range w.waits() {
		numbers = append(numbers, x.n)
	}
	checkWaits(t, d, numbers...)
	checkSteps(t, d, w.steps())
	if d.Sectors() != len(w.first) {
		t.Errorf("Sectors: %d, not %d", d.Sectors(), len(w.first))
	}
	for n := -1; n <= len(w.first); n++ {
		want, wantE := []byte(nil), api.OK
		switch {
		case n < 0 || n == len(w.first):
			wantE = api.ErrRange
		case w.down():
			wantE = api.ErrDown
		default:
			want = w.read(n)
		}
		if got, e := d.Read(n); e != wantE || !slices.Equal(got, want) {
			t.Fatalf("Read(%d) behind %v: %v, %d, not %v, %d", n, w.deeds, got, e, want, wantE)
		}
	}
}

// checkCrash holds what is told of a crash against the words, and hands out both disks.
func checkCrash(t *testing.T, d *Disk, w *told, kept []int) (*Disk, *told) {
	t.Helper()
	c := mustCrash(t, d, kept...)
	want := w.crash(kept)
	for n := range want.first {
		if got, e := c.Read(n); e != api.OK || !slices.Equal(got, want.first[n]) {
			t.Fatalf("Crash(%v) behind %v: sector %d: %v, %d, not %v", kept, w.deeds, n, got, e, want.first[n])
		}
	}
	checkWaits(t, c)
	checkSteps(t, c, 0)
	return c, want
}

// storiesOf are all lists of some deeds, up to a length.
func storiesOf(some []deed, length int, do func([]deed)) {
	var more func(l []deed)
	more = func(l []deed) {
		do(l)
		if len(l) < length {
			for _, x := range some {
				more(append(l[:len(l):len(l)], x))
			}
		}
	}
	more(nil)
}

func TestP17AllShortStoriesAsTheWordsHaveThem(t *testing.T) {
	some := []deed{
		{kind: wrote, n: 0, bytes: rising(1)},
		{kind: wrote, n: 0, bytes: rising(70)},
		{kind: wrote, n: 1, bytes: all(5)},
		{kind: wrote, n: 2, bytes: all(6)},
		{kind: flushed},
		{kind: spoilt, n: 0, at: 3, bytes: list[byte](255)},
		{kind: stopped, n: 0},
		{kind: stopped, n: 1},
	}
	storiesOf(some, 4, func(story []deed) {
		d, w := mustNew(t, 2), toldOf(2)
		for _, x := range story {
			doBoth(t, d, w, x)
		}
		checkBoth(t, d, w)
		for _, kept := range [][]int{nil, {2}, {64, 5}, {-1, 64, 4}, {65, 3, 2, 1, 0}} {
			checkCrash(t, d, w, kept)
		}
		checkBoth(t, d, w)
	})
}

// dice makes the same numbers each time, so that a test that fails fails again.
type dice uint64

func (d *dice) below(n int) int {
	*d = *d*6364136223846793005 + 1442695040888963407
	return int(uint64(*d)>>33) % n
}

func (d *dice) bytes(length int) []byte {
	b := make([]byte, length)
	for i := range b {
		b[i] = byte(d.below(256))
	}
	return b
}

// deed is any one, now and then one that is refused.
func (d *dice) deed(sectors int) deed {
	n := d.below(sectors)
	switch d.below(24) {
	case 0, 1, 2, 3:
		return deed{kind: flushed}
	case 4, 5:
		return deed{kind: spoilt, n: n, at: d.below(64), bytes: d.bytes(1)}
	case 6:
		return deed{kind: spoilt, n: d.below(sectors+2) - 1, at: d.below(70) - 3, bytes: d.bytes(1)}
	case 7:
		return deed{kind: stopped, n: d.below(9) - 1}
	case 8:
		return deed{kind: stopped, n: math.MaxInt}
	case 9:
		return deed{kind: wrote, n: d.below(sectors+2) - 1, bytes: d.bytes(63 + d.below(3))}
	}
	return deed{kind: wrote, n: n, bytes: d.bytes(64)}
}

func (d *dice) kept() []int {
	l := make([]int, d.below(8))
	for i := range l {
		switch d.below(8) {
		case 0:
			l[i] = math.MinInt
		case 1:
			l[i] = math.MaxInt
		case 2:
			l[i] = 64
		default:
			l[i] = d.below(72) - 4
		}
	}
	return l
}

func TestP17LongStoriesAsTheWordsHaveThem(t *testing.T) {
	for seed := range 60 {
		chance := dice(seed)
		sectors := 1 + seed%5
		d, w := mustNew(t, sectors), toldOf(sectors)
		for range 150 {
			doBoth(t, d, w, chance.deed(sectors))
			checkBoth(t, d, w)
			if chance.below(6) != 0 {
				continue
			}
			c, v := checkCrash(t, d, w, chance.kept())
			if chance.below(4) == 0 {
				// The story goes on from the crash; what is done to the one may not be seen in the other.
				for range 5 {
					doBoth(t, d, w, chance.deed(sectors))
				}
				checkBoth(t, c, v)
				for range 5 {
					doBoth(t, c, v, chance.deed(sectors))
				}
				checkBoth(t, d, w)
				d, w = c, v
			}
		}
	}
}

func TestP17LongStoriesOfTheGreatestDisk(t *testing.T) {
	chance := dice(17)
	d, w := mustNew(t, api.MaxSectors), toldOf(api.MaxSectors)
	some := list(0, 1, 63, 64, 255, 256, 4094, 4095)
	for range 300 {
		x := chance.deed(len(some))
		if x.kind != stopped && x.n >= 0 && x.n < len(some) {
			x.n = some[x.n]
		}
		doBoth(t, d, w, x)
		for _, n := range some {
			if w.down() {
				break
			}
			if got, e := d.Read(n); e != api.OK || !slices.Equal(got, w.read(n)) {
				t.Fatalf("Read(%d): %v, %d, not %v", n, got, e, w.read(n))
			}
		}
		if kept := chance.kept(); chance.below(20) == 0 {
			c := mustCrash(t, d, kept...)
			for _, n := range some {
				want := sectorBy(func(at int) byte { return w.behind(kept, n, at) })
				if got, e := c.Read(n); e != api.OK || !slices.Equal(got, want) {
					t.Fatalf("Crash(%v): sector %d: %v, %d, not %v", kept, n, got, e, want)
				}
			}
		}
	}
}

// TestP17_6BehindAnyStory holds P17.6's own words, whatever was done ahead.
func TestP17_6BehindAnyStory(t *testing.T) {
	for seed := range 200 {
		chance := dice(1000 + seed)
		d := mustNew(t, 4)
		for range chance.below(40) {
			doTo(d, chance.deed(4))
		}
		mustStop(t, d, math.MaxInt)
		mustFlush(t, d)
		var flushed, waits [4][]byte
		var ith [4]int
		for n := range flushed {
			flushed[n], _ = d.Read(n)
		}
		for i, n := range list(2, 0, 3)[:chance.below(4)] {
			waits[n], ith[n] = chance.bytes(64), i
			mustWrite(t, d, n, waits[n])
		}
		kept := list(chance.below(65), chance.below(65), chance.below(65))
		c := mustCrash(t, d, kept...)
		for n, want := range flushed {
			if waits[n] != nil {
				want = torn(kept[ith[n]], waits[n], want)
			}
			if got, e := c.Read(n); e != api.OK || !slices.Equal(got, want) {
				t.Fatalf("Crash(%v): sector %d: %v, %d, not %v", kept, n, got, e, want)
			}
		}
	}
}
