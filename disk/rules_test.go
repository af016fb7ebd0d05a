package disk

import (
	"math"
	"slices"
	"testing"

	"colophon/api"
)

// roomy is a list with others behind its length in its memory, and all of that memory.
func roomy[T any](l []T, behind ...T) (short, all []T) {
	all = slices.Concat(l, behind)
	return all[:len(l)], all
}

// spoil overwrites a list, its spare room too.
func spoil[T any](l []T, with T) {
	l = l[:cap(l)]
	for i := range l {
		l[i] = with
	}
}

func TestRule1NoneOfThemPanics(t *testing.T) {
	some := append(list(0, 1, 63, 64), outside...)
	for _, made := range []func() *Disk{
		func() *Disk { return nil },
		func() *Disk { return &Disk{} },
		func() *Disk { return mustNew(t, 1) },
		func() *Disk { return mustNew(t, 4096) },
	} {
		d := made()
		for _, n := range some {
			for _, at := range some {
				d.Spoil(n, at, 1)
			}
			for _, b := range [][]byte{nil, {}, all(1), slices.Repeat(all(2), 64)} {
				d.Write(n, b)
			}
			d.Read(n)
			d.Crash(some)
			d.Flush()
			d.Stop(n)
		}
		d.Waits()
		d.Steps()
		d.Sectors()
	}
}

func TestRule2WhatIsRefusedChangesNothing(t *testing.T) {
	d, w := mustNew(t, 2), toldOf(2)
	for _, x := range []deed{{kind: wrote, n: 1, bytes: rising(3)}, {kind: flushed}, {kind: wrote, n: 0, bytes: all(4)}, {kind: stopped, n: 2}} {
		doBoth(t, d, w, x)
	}
	refuse := func() {
		for _, n := range append(list(2, 3), outside...) {
			d.Read(n)
			d.Write(n, all(9))
			d.Spoil(n, 0, 9)
		}
		for _, at := range append(list(64, 65), outside...) {
			d.Spoil(0, at, 9)
		}
		d.Write(0, all(9)[:63])
		d.Write(0, slices.Repeat(all(9), 2))
		d.Stop(-1)
		d.Stop(math.MinInt)
	}
	refuse()
	checkBoth(t, d, w)
	checkCrash(t, d, w, nil)
	checkCrash(t, d, w, list(30))
	for range 2 { // the stop counts as if nothing had been asked for
		doBoth(t, d, w, deed{kind: flushed})
	}
	refuse()
	doBoth(t, d, w, deed{kind: flushed})
	doBoth(t, d, w, deed{kind: wrote, n: 0, bytes: all(9)})
	checkBoth(t, d, w)
	checkCrash(t, d, w, nil)
}

func TestRule4WhatIsHandedInStaysAsItIs(t *testing.T) {
	d := mustNew(t, 2)
	b, allB := roomy(rising(1), 7, 8, 9)
	kept, allKept := roomy(list(3, -1, 99), 5, 6)
	beforeB, beforeKept := slices.Clone(allB), slices.Clone(allKept)
	for range 3 {
		mustWrite(t, d, 1, b)
		mustSpoil(t, d, 1, 2, 200)
		c := mustCrash(t, d, kept...)
		mustSpoil(t, c, 1, 0, 250)
		mustFlush(t, d)
		mustSpoil(t, d, 1, 1, 201)
	}
	if !slices.Equal(allB, beforeB) || !slices.Equal(allKept, beforeKept) {
		t.Errorf("%v, %v have become %v, %v", beforeB, beforeKept, allB, allKept)
	}
}

func TestRule4WhatIsHandedInIsNotKept(t *testing.T) {
	d := mustNew(t, 2)
	b := rising(1)
	mustWrite(t, d, 1, b)
	spoil(b, 99)
	checkRead(t, d, all(0), rising(1))
	checkRead(t, mustCrash(t, d, 64), all(0), rising(1))
	mustFlush(t, d)
	spoil(b, 98)
	checkRead(t, d, all(0), rising(1))
	checkLies(t, d, all(0), rising(1))
	kept := list(64)
	mustWrite(t, d, 0, all(5))
	c := mustCrash(t, d, kept...)
	spoil(kept, 0)
	checkRead(t, c, all(5), rising(1))
}

func TestRule4WhatIsHandedOutIsNew(t *testing.T) {
	d := mustNew(t, 2)
	mustWrite(t, d, 0, rising(1))
	mustFlush(t, d)
	mustWrite(t, d, 1, rising(70))
	mustWrite(t, d, 1, rising(80))
	for n, want := range [][]byte{rising(1), rising(80)} {
		one, _ := d.Read(n)
		other, _ := d.Read(n)
		spoil(append(one, 9), 9)
		spoil(one, 9)
		if !slices.Equal(other, want) {
			t.Errorf("what was read of %d has become %v", n, other)
		}
	}
	checkRead(t, d, rising(1), rising(80))
	checkRead(t, mustCrash(t, d, 64, 1), rising(1), torn(1, rising(80), rising(70)))
	waits, again := d.Waits(), d.Waits()
	spoil(append(waits, 0), 0)
	spoil(waits, 0)
	if !slices.Equal(again, list(1, 1)) {
		t.Errorf("what waits has become %v", again)
	}
	checkWaits(t, d, 1, 1)
	mustFlush(t, d)
	for n := range 2 { // of what lies, when nothing waits
		b := mustRead(t, d, n)
		spoil(append(b, 9), 9)
		spoil(b, 9)
	}
	checkRead(t, d, rising(1), rising(80))
	checkLies(t, d, rising(1), rising(80))
	if !slices.Equal(again, list(1, 1)) {
		t.Errorf("what waited has become %v", again)
	}
}

func TestRule8WhatLiesBehindALengthIsNotRead(t *testing.T) {
	d := mustNew(t, 2)
	long := slices.Concat(rising(1), all(9))
	mustWrite(t, d, 0, long[:64])
	mustWrite(t, d, 1, long[32:96])
	checkRead(t, d, rising(1), slices.Concat(rising(1)[32:], all(9)[:32]))
	if e := d.Write(0, long[:63]); e != api.ErrArg {
		t.Errorf("Write of 63 bytes: %d", e)
	}
	kept := list(3, 64, 64)
	checkRead(t, mustCrash(t, d, kept[:1]...), torn(3, rising(1), all(0)), all(0))
	checkRead(t, mustCrash(t, d, kept[:0]...), all(0), all(0))
}
