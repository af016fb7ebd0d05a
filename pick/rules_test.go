package pick

import (
	"math"
	"slices"
	"testing"

	"colophon/api"
)

// lines are levels of many kinds, those of the last ones refused.
var lines = [][]int{nil, {}, {0}, {1}, {-1}, {0, 1, 1, 0}, {1, 2, 2, 1}, {1, -1, 0}, {3, 3, -1, 4, 127, 0}, {-1, -1, -1}, {2, 2, 2, 2, 2}, {1, -2, 1}, {128}}

// someRuns are lists of runs of many kinds, of which some are refused.
var someRuns = [][][2]int{nil, {}, {{0, 1}}, {{1, 2}}, {{0, 1}, {1, 2}}, {{0, 1}, {2, 4}}, {{1, 3}}, {{2, 1}}, {{-1, 2}}, {{3, 4}, {0, 1}}, {{0, 99}}, {{math.MinInt, math.MaxInt}}}

// spoil overwrites a list, its spare room too.
func spoil[T any](l []T, with T) {
	l = l[:cap(l)]
	for i := range l {
		l[i] = with
	}
}

// roomy is a list with others behind its length in its memory, and all of that memory.
func roomy[T any](l []T, behind ...T) (short, all []T) {
	all = slices.Concat(l, behind)
	return all[:len(l)], all
}

func TestRule2WithAnErrorNothingElse(t *testing.T) {
	for _, levels := range lines {
		for _, from := range append(upTo(-2, 8), math.MinInt, math.MaxInt) {
			for _, to := range append(upTo(-2, 8), math.MinInt, math.MaxInt) {
				if got, e := Runs(levels, from, to); e != api.OK && len(got) != 0 {
					t.Errorf("Runs(%v, %d, %d): %v, %d", levels, from, to, got, e)
				}
			}
		}
		for _, runs := range someRuns {
			if got, e := Places(levels, runs); e != api.OK && len(got) != 0 {
				t.Errorf("Places(%v, %v): %v, %d", levels, runs, got, e)
			}
		}
	}
}

func TestRule4WhatIsHandedInStaysAsItIs(t *testing.T) {
	for _, levels := range lines {
		short, all := roomy(levels, 5, 6, 7)
		before := slices.Clone(all)
		for from := -1; from < len(levels)+2; from++ {
			for to := -1; to < len(levels)+2; to++ {
				Runs(short, from, to)
			}
		}
		for _, some := range someRuns {
			runs, allRuns := roomy(some, [2]int{4, 5}, [2]int{-1, 0})
			runsBefore := slices.Clone(allRuns)
			Places(short, runs)
			if !slices.Equal(allRuns, runsBefore) {
				t.Errorf("%v has become %v", runsBefore, allRuns)
			}
		}
		if !slices.Equal(all, before) {
			t.Errorf("%v has become %v", before, all)
		}
	}
}

func TestRule4WhatIsHandedOutIsNew(t *testing.T) {
	for _, levels := range lines[:len(lines)-2] {
		short, all := roomy(levels, 5, 6, 7)
		before := slices.Clone(all)
		n := len(levels)
		runs, again := mustRuns(t, short, 0, n), mustRuns(t, short, 0, n)
		want := slices.Clone(again)
		spoil(append(runs, [2]int{-9, -9}), [2]int{-9, -9})
		spoil(runs, [2]int{-9, -9})
		if !slices.Equal(all, before) || !slices.Equal(again, want) {
			t.Errorf("%v has become %v, %v", before, all, again)
		}
		places, e := Places(short, again)
		anew, told := Places(short, again)
		if e != api.OK || told != api.OK {
			t.Fatalf("Places(%v, %v): %d, %d", short, again, e, told)
		}
		wanted := slices.Clone(anew)
		spoil(append(places, -9), -9)
		spoil(places, -9)
		if !slices.Equal(all, before) || !slices.Equal(again, want) || !slices.Equal(anew, wanted) {
			t.Errorf("%v, %v have become %v, %v, %v", before, want, all, again, anew)
		}
	}
}

func TestRule4WhatIsHandedInIsNotKept(t *testing.T) {
	levels := list(0, 1, 1, 0)
	runs := mustRuns(t, levels, 0, 2)
	places, e := Places(levels, runs)
	spoil(levels, 7)
	if want := pairs([2]int{0, 1}, [2]int{2, 3}); !slices.Equal(runs, want) {
		t.Errorf("the runs have become %v", runs)
	}
	spoil(runs, [2]int{7, 7})
	if e != api.OK || !slices.Equal(places, list(0, 1)) {
		t.Errorf("the places have become %v, %d", places, e)
	}
	// What was kept of a call would be seen in the next one.
	checkRuns(t, nil, 0, 0, nil)
	checkPlaces(t, nil, nil, nil)
	checkPlaces(t, list(1, 1), pairs([2]int{0, 1}), list(1))
}

func TestRule8WhatLiesBehindALengthIsNotRead(t *testing.T) {
	levels := list(0, 1, 1, -2, 128)
	checkRuns(t, levels[:3], 0, 2, pairs([2]int{0, 1}, [2]int{2, 3}))
	checkRuns(t, levels[:0], 0, 0, nil)
	checkRunsError(t, levels[:3], 0, 4, api.ErrRange)
	checkRunsError(t, levels[:4], 0, 4, api.ErrArg)
	runs := pairs([2]int{0, 1}, [2]int{2, 3}, [2]int{2, 1})
	checkPlaces(t, levels[:3], runs[:2], list(0, 1))
	checkPlaces(t, levels[:3], runs[:0], nil)
	checkPlacesError(t, levels[:3], runs, api.ErrForm)
	checkPlacesError(t, levels[:3], pairs([2]int{3, 4}), api.ErrForm)
}
