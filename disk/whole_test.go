package disk

import (
	"slices"
	"testing"

	"colophon/api"
)

// save writes a text's two sectors into the slot that is not that of the text ahead of it, and, when they are sure to lie, the slot's head, which says that they count; up to what the disk refuses.
func save(d *Disk, text byte) api.Errno {
	slot := int(text) % 2
	for _, step := range []func() api.Errno{
		func() api.Errno { return d.Write(2+2*slot, all(text)) },
		func() api.Errno { return d.Write(3+2*slot, all(text)) },
		d.Flush,
		func() api.Errno { return d.Write(slot, all(text)) },
		d.Flush,
	} {
		if e := step(); e != api.OK {
			return e
		}
	}
	return api.OK
}

func mustRead(t *testing.T, d *Disk, n int) []byte {
	t.Helper()
	b, e := d.Read(n)
	if e != api.OK {
		t.Fatalf("Read(%d): %d", n, e)
	}
	return b
}

// latest is the text of the head with the greatest number, of those that are whole; 0, if there is none.
func latest(t *testing.T, d *Disk) byte {
	t.Helper()
	var text byte
	for slot := range 2 {
		if b := mustRead(t, d, slot); slices.Equal(b, all(b[0])) {
			text = max(text, b[0])
		}
	}
	return text
}

// checkSaved holds that the latest text is that which was saved, or the one that was under way, and that it lies.
func checkSaved(t *testing.T, d *Disk, saved byte) {
	t.Helper()
	text := latest(t, d)
	if text != saved && text != saved+1 {
		t.Errorf("the text %d was saved, and %d is the latest", saved, text)
	}
	for n := 2 + 2*(int(text)%2); n < 4+2*(int(text)%2); n++ {
		if text > 0 && !slices.Equal(mustRead(t, d, n), all(text)) {
			t.Errorf("the head of %d counts, and in the sector %d lies %v", text, n, mustRead(t, d, n))
		}
	}
}

// TestW3ALossBehindEachStep holds that what was flushed ahead of a head lies wherever the head does: with the power lost behind any step, and any of what waited lost, torn or whole; and once more in the midst of saving again.
func TestW3ALossBehindEachStep(t *testing.T) {
	some := list(0, 1, 63, 64)
	for stop := range 12 {
		for _, first := range some {
			for _, second := range some {
				d := mustNew(t, 6)
				mustStop(t, d, stop)
				saved := byte(0)
				for range 3 {
					if save(d, saved+1) == api.OK {
						saved++
					}
				}
				c := mustCrash(t, d, first, second)
				checkSaved(t, c, saved)
				for again := range 6 {
					c := mustCrash(t, d, first, second)
					saved := latest(t, c)
					mustStop(t, c, again)
					if save(c, saved+1) == api.OK {
						saved++
					}
					checkSaved(t, mustCrash(t, c, second, first), saved)
				}
			}
		}
	}
}

func TestW5WhatRotsIsOneByte(t *testing.T) {
	d := mustNew(t, 3)
	for n := range 3 {
		mustWrite(t, d, n, rising(byte(n)))
	}
	mustFlush(t, d)
	for n := range 3 {
		for at := range api.Sector {
			c := mustCrash(t, d)
			mustSpoil(t, c, n, at, 255-byte(at))
			want := [][]byte{rising(0), rising(1), rising(2)}
			want[n][at] = 255 - byte(at)
			checkRead(t, c, want...)
			checkLies(t, c, want...)
		}
	}
	checkRead(t, d, rising(0), rising(1), rising(2))
}
