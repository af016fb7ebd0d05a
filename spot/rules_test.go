package spot

import (
	"math"
	"slices"
	"testing"

	"colophon/api"
)

// lines are levels of many kinds, those of the last ones refused.
var lines = [][]int{nil, {}, {0}, {1}, {-1}, {0, 1, 1, 0}, {1, 2, 2, 1}, {1, -1, 0}, {3, 3, -1, 4, 127, 0}, {-1, -1, -1}, {2, 2, 2, 2, 2}, {1, -2, 1}, {128}}

// spoil overwrites a list, its spare room too.
func spoil[T any](l []T, with T) {
	l = l[:cap(l)]
	for i := range l {
		l[i] = with
	}
}

// roomy is a list with others behind its length in its memory, and all of that memory.
func roomy[T any](l []T, behind ...T) (short, all []T) {
	all = slices.Concat(l, behind)
	return all[:len(l)], all
}

func TestRule4WhatIsHandedInStaysAsItIs(t *testing.T) {
	for _, line := range lines {
		for _, base := range list(0, 1, 2, -1) {
			short, all := roomy(line, 5, 6, 7)
			before := slices.Clone(all)
			Spots(short, base)
			if !slices.Equal(all, before) {
				t.Errorf("%v has become %v", before, all)
			}
		}
	}
	for _, l := range [][]complex128{nil, spots(0+1i, 2-1i, 1-1i, 3+1i), spots(1, 1+1i, 0-1i), someSpots, moreSpots} {
		short, all := roomy(l, 4+1i, 5)
		before := slices.Clone(all)
		Flip(short)
		for i := range all {
			Step(short, i, 1)
			Step(short, i, -1)
			Offset(short, all[i])
		}
		if !slices.Equal(all, before) {
			t.Errorf("%v has become %v", before, all)
		}
	}
}

func TestRule4WhatIsHandedOutIsNew(t *testing.T) {
	for _, line := range lines[:len(lines)-2] {
		short, all := roomy(line, 5, 6, 7)
		before := slices.Clone(all)
		told, again := mustSpots(t, short, 1), mustSpots(t, short, 1)
		want := slices.Clone(again)
		spoil(append(told, -9), -9)
		spoil(told, -9)
		if !slices.Equal(all, before) || !slices.Equal(again, want) {
			t.Errorf("%v has become %v, %v", before, all, again)
		}
		flipped, anew := Flip(again), Flip(again)
		mirrored := slices.Clone(anew)
		spoil(append(flipped, -9), -9)
		spoil(flipped, -9)
		if !slices.Equal(again, want) || !slices.Equal(anew, mirrored) {
			t.Errorf("%v has become %v, %v", want, again, anew)
		}
	}
}

func TestRule4WhatIsHandedInIsNotKept(t *testing.T) {
	levels := list(0, 1, 1)
	told := mustSpots(t, levels, 0)
	spoil(levels, 7)
	if want := spots(0+1i, 2-1i, 1-1i, 3+1i); !slices.Equal(told, want) {
		t.Errorf("the spots have become %v", told)
	}
	flipped := Flip(told)
	spoil(told, 7)
	if want := spots(3-1i, 1+1i, 2+1i, 0-1i); !slices.Equal(flipped, want) {
		t.Errorf("the mirror has become %v", flipped)
	}
	// What was kept of a call would be seen in the next one.
	checkSpots(t, nil, 1, spots(0-1i))
	checkOffset(t, spots(1-1i), 1+1i, 0, api.OK)
	checkStep(t, spots(0+1i), 0, 1, 0, api.ErrEdge)
	checkFlip(t, spots(4+1i), spots(-4-1i))
}

func TestRule8WhatLiesBehindALengthIsNotRead(t *testing.T) {
	levels := list(0, 1, 1, -2, 128)
	checkSpots(t, levels[:3], 0, spots(0+1i, 2-1i, 1-1i, 3+1i))
	checkSpots(t, levels[:0], 1, spots(0-1i))
	checkSpotsError(t, levels[:4], 0)
	all := spots(0+1i, 1-1i, 2+1i, 3+1i)
	checkOffset(t, all[:2], 2+1i, 0, api.ErrEdge)
	checkStep(t, all[:2], 1, 1, 0, api.ErrEdge)
	checkFlip(t, all[:2], spots(1-1i, 0+1i))
	checkFlip(t, all[:1], spots(0-1i))
}

// Whatever comes in, each call ends.
func TestRule1NothingPanics(t *testing.T) {
	odd := append(slices.Clone(moreSpots), complex(math.NaN(), math.NaN()), complex(math.Inf(-1), math.NaN()), complex(math.NaN(), 0))
	for _, l := range [][]complex128{nil, {}, odd, Flip(odd)} {
		for _, z := range append(odd, 0) {
			Offset(l, z)
		}
		for _, i := range append(wrongLevels, upTo(-1, len(odd)+1)...) {
			for _, by := range append(wrongSteps, 1, -1) {
				if place, e := Step(l, i, by); e != api.OK && place != 0 || place < 0 || place > len(l) {
					t.Errorf("Step(%v, %d, %d): %d, %d", l, i, by, place, e)
				}
			}
		}
	}
}
