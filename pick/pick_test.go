package pick

import (
	"math"
	"slices"
	"testing"

	"colophon/api"
)

var (
	wrongLevels = []int{math.MinInt, math.MinInt + 1, math.MinInt32, -1 << 32, -257, -256, -255, -128, -127, -3, -2, 128, 129, 130, 255, 256, 257, 1 << 32, 1<<32 + 1, math.MaxInt - 1, math.MaxInt}
	// farBounds are bounds of ranges and of runs that no line has.
	farBounds = []int{math.MinInt, math.MinInt + 1, math.MinInt32, -1 << 32, -256, -2, -1, 1 << 32, 1<<32 + 1, math.MaxInt32, math.MaxInt - 1, math.MaxInt}
)

// levelChoices are levels that small lists are made of.
var levelChoices = [][]int{
	{-1, 0, 1, 2, 3}, {0, 1, 2, 3, 4}, {-1, 1, 2, 4}, {-1, 0, 2, 4}, {1, 3, 5}, {0, 3, 4, 7}, {-1, 2, 5, 6}, {-1, 0, 1, 126, 127}, {-1, 124, 125, 126},
}

// list puts some together, as a list.
func list(some ...int) []int { return some }

// pairs puts some together, as runs.
func pairs(some ...[2]int) [][2]int { return some }

func repeat(count int, some ...int) []int { return slices.Repeat(some, count) }

func join(lists ...[]int) []int { return slices.Concat(lists...) }

// upTo are the numbers from one up to another one, it too.
func upTo(from, to int) []int {
	var l []int
	for n := from; n <= to; n++ {
		l = append(l, n)
	}
	return l
}

// listsOf calls do with each list of some of these that is no longer than length.
func listsOf[T any](some []T, length int, do func([]T)) {
	var more func(l []T)
	more = func(l []T) {
		do(slices.Clone(l))
		if len(l) == length {
			return
		}
		for _, x := range some {
			more(append(l, x))
		}
	}
	more(make([]T, 0, length))
}

// mixed are long lists of some of these, always the same ones.
func mixed[T any](some []T, count, length int, do func([]T)) {
	seed := uint64(16)
	for range count {
		l := make([]T, length)
		for i := range l {
			seed = seed*6364136223846793005 + 1442695040888963407
			l[i] = some[int(seed>>33)%len(some)]
		}
		do(l)
	}
}

// eachLine calls do with all small lists of levels over the choices, and with long ones.
func eachLine(length, long int, do func(levels []int)) {
	listsOf(upTo(-1, 127), 1, do)
	for _, some := range levelChoices {
		listsOf(some, length, do)
		mixed(some, 2, long, do)
	}
	mixed(upTo(-1, 127), 2, long, do)
	mixed(upTo(0, 127), 2, long, do)
	mixed(join(upTo(0, 3), repeat(12, -1)), 2, long, do)
	do(repeat(long, -1))
	do(join(repeat(long/2, -1), list(1), repeat(long/2, -1)))
}

// eachRange calls do with each range of so many places.
func eachRange(n int, do func(from, to int)) {
	for to := range n + 1 {
		for from := range to + 1 {
			do(from, to)
		}
	}
}

// runLists are all lists of runs of so many columns, also those of which one begins where the one ahead of it ends.
func runLists(columns int) [][][2]int {
	all := [][][2]int{nil}
	for column := range columns {
		for _, runs := range all[:len(all):len(all)] {
			all = append(all, append(slices.Clone(runs), [2]int{column, column + 1}))
			if last := len(runs) - 1; last >= 0 && runs[last][1] == column {
				longer := slices.Clone(runs)
				longer[last][1]++
				all = append(all, longer)
			}
		}
	}
	return all
}

func checkRuns(t *testing.T, levels []int, from, to int, want [][2]int) {
	t.Helper()
	if got, e := Runs(levels, from, to); e != api.OK || !slices.Equal(got, want) {
		t.Fatalf("Runs(%v, %d, %d): %v, %d; wanted %v", levels, from, to, got, e, want)
	}
}

func checkRunsError(t *testing.T, levels []int, from, to int, e api.Errno) {
	t.Helper()
	if got, told := Runs(levels, from, to); told != e || len(got) != 0 {
		t.Fatalf("Runs(%v, %d, %d): %v, %d; wanted the error %d", levels, from, to, got, told, e)
	}
}

// mustRuns are the runs of a range that is not refused.
func mustRuns(t *testing.T, levels []int, from, to int) [][2]int {
	t.Helper()
	got, e := Runs(levels, from, to)
	if e != api.OK {
		t.Fatalf("Runs(%v, %d, %d): %v, %d", levels, from, to, got, e)
	}
	return got
}

func checkPlaces(t *testing.T, levels []int, runs [][2]int, want []int) {
	t.Helper()
	if got, e := Places(levels, runs); e != api.OK || !slices.Equal(got, want) {
		t.Fatalf("Places(%v, %v): %v, %d; wanted %v", levels, runs, got, e, want)
	}
}

func checkPlacesError(t *testing.T, levels []int, runs [][2]int, e api.Errno) {
	t.Helper()
	if got, told := Places(levels, runs); told != e || len(got) != 0 {
		t.Fatalf("Places(%v, %v): %v, %d; wanted the error %d", levels, runs, got, told, e)
	}
}

func TestP16_1Examples(t *testing.T) {
	levels := list(0, 1, 1, 0)
	checkRuns(t, levels, 0, 2, pairs([2]int{0, 1}, [2]int{2, 3}))
	checkRuns(t, levels, 1, 3, pairs([2]int{1, 3}))
	checkRuns(t, levels, 2, 2, nil)
}

func TestP16_1LineWithoutAPlace(t *testing.T) {
	for _, none := range [][]int{nil, {}, list(7, 7)[:0]} {
		checkRuns(t, none, 0, 0, nil)
		checkRunsError(t, none, 0, 1, api.ErrRange)
		checkRunsError(t, none, 1, 1, api.ErrRange)
		checkRunsError(t, none, -1, 0, api.ErrRange)
		checkRunsError(t, none, 1, 0, api.ErrRange)
	}
}

func TestP16_1OnePlaceAlone(t *testing.T) {
	for level := 0; level <= 127; level++ {
		checkRuns(t, list(level), 0, 0, nil)
		checkRuns(t, list(level), 0, 1, pairs([2]int{0, 1}))
		checkRuns(t, list(level), 1, 1, nil)
	}
	for _, bounds := range [][2]int{{0, 0}, {0, 1}, {1, 1}} {
		checkRuns(t, list(-1), bounds[0], bounds[1], nil)
	}
}

// Each of these is worked out by hand.
func TestP16_1WorkedOut(t *testing.T) {
	for _, x := range []struct {
		levels   []int
		from, to int
		want     [][2]int
	}{
		// The columns 0 2 1 3: runs that begin in the first column, that end behind the last one, and both.
		{list(0, 1, 1, 0), 0, 1, pairs([2]int{0, 1})},
		{list(0, 1, 1, 0), 1, 2, pairs([2]int{2, 3})},
		{list(0, 1, 1, 0), 2, 3, pairs([2]int{1, 2})},
		{list(0, 1, 1, 0), 3, 4, pairs([2]int{3, 4})},
		{list(0, 1, 1, 0), 0, 3, pairs([2]int{0, 3})},
		{list(0, 1, 1, 0), 1, 4, pairs([2]int{1, 4})},
		{list(0, 1, 1, 0), 2, 4, pairs([2]int{1, 2}, [2]int{3, 4})},
		{list(0, 1, 1, 0), 0, 4, pairs([2]int{0, 4})},
		// All to the left: the columns 3 2 1 0.
		{list(1, 1, 1, 1), 0, 1, pairs([2]int{3, 4})},
		{list(1, 1, 1, 1), 1, 4, pairs([2]int{0, 3})},
		// The columns 3 1 2 0, of which the middle ones stand in another order.
		{list(1, 2, 2, 1), 0, 2, pairs([2]int{1, 2}, [2]int{3, 4})},
		{list(1, 2, 2, 1), 1, 3, pairs([2]int{1, 3})},
		{list(1, 2, 2, 1), 2, 4, pairs([2]int{0, 1}, [2]int{2, 3})},
		// The columns 6 4 2 3 5 1 0: three runs.
		{list(1, 2, 3, 3, 2, 1, 1), 0, 3, pairs([2]int{2, 3}, [2]int{4, 5}, [2]int{6, 7})},
		// What is not seen has no column, and parts no run.
		{list(0, -1, 0), 0, 3, pairs([2]int{0, 2})},
		{list(0, -1, 0), 1, 2, nil},
		{list(0, -1, 0), 0, 2, pairs([2]int{0, 1})},
		{list(0, -1, 0), 1, 3, pairs([2]int{1, 2})},
		{list(-1, 1, -1, -1, 1, -1), 2, 4, nil},
		{list(-1, 1, -1, -1, 1, -1), 0, 4, pairs([2]int{1, 2})},
		{list(-1, 1, -1, -1, 1, -1), 3, 6, pairs([2]int{0, 1})},
		{list(-1, -1, -1), 0, 3, nil},
		// The deepest levels.
		{list(126, 127, 127, -1), 0, 2, pairs([2]int{0, 1}, [2]int{2, 3})},
	} {
		checkRuns(t, x.levels, x.from, x.to, x.want)
	}
}

// checkEachRun holds Runs of each range against the chapter's words.
func checkEachRun(t *testing.T, levels []int) {
	t.Helper()
	columns := columnsByWords(t, levels)
	eachRange(len(levels), func(from, to int) { checkRuns(t, levels, from, to, runsByWords(columns, from, to)) })
}

func TestP16_1AsTheWordsHaveIt(t *testing.T) {
	check := func(levels []int) { checkEachRun(t, levels) }
	eachLine(5, 24, check)
	listsOf(upTo(-1, 127), 2, check)
	listsOf(list(-1, 1, 2), 8, check)
}

func TestP16_1EmptyRanges(t *testing.T) {
	eachLine(4, 60, func(levels []int) {
		for place := range len(levels) + 1 {
			checkRuns(t, levels, place, place, nil)
		}
	})
}

func TestP16_1WhatIsNotSeenAlone(t *testing.T) {
	eachLine(5, 60, func(levels []int) {
		for from := range levels {
			for to := from; to < len(levels) && levels[to] == -1; to++ {
				checkRuns(t, levels, from, to+1, nil)
			}
		}
	})
}

func TestP16_1LongLines(t *testing.T) {
	for _, some := range append(slices.Clone(levelChoices), upTo(-1, 127), list(-1, -1, -1, -1, 1, 4)) {
		mixed(some, 2, api.MaxText, func(levels []int) {
			columns := columnsByWords(t, levels)
			for _, from := range list(0, 1, 63, 64, 2047, 4095, 4096) {
				for _, to := range list(0, 1, 2, 64, 65, 2048, 4095, 4096) {
					if from > to {
						checkRunsError(t, levels, from, to, api.ErrRange)
						continue
					}
					checkRuns(t, levels, from, to, runsByWords(columns, from, to))
				}
			}
		})
	}
}

// Nothing is said of how long a line may be.
func TestP16_1FarLines(t *testing.T) {
	for _, n := range list(4095, 4096, 4097, 5000, 1<<18) {
		checkRuns(t, repeat(n, 0), 1, n-1, pairs([2]int{1, n - 1}))
		checkRuns(t, repeat(n, 127), 0, n-2, pairs([2]int{2, n}))
		checkRuns(t, repeat(n, -1), 0, n, nil)
		checkRuns(t, join(repeat(n, -1), list(5), repeat(n, -1)), 0, n+1, pairs([2]int{0, 1}))
	}
}

// The half of a line whose levels rise up to the deepest one and fall again: every other column is marked.
func TestP16_1ManyRuns(t *testing.T) {
	rising := upTo(0, 127)
	falling := slices.Clone(rising)
	slices.Reverse(falling)
	var want [][2]int
	for column := 0; column < 256; column += 2 {
		want = append(want, [2]int{column, column + 1})
	}
	checkRuns(t, join(rising, falling), 0, 128, want)
}

func TestP16_1WrongLevels(t *testing.T) {
	for _, level := range wrongLevels {
		for count := range 6 {
			for at := range count {
				levels := list(0, 1, -1, 127, 2)[:count]
				levels[at] = level
				eachRange(count, func(from, to int) { checkRunsError(t, levels, from, to, api.ErrArg) })
				// ErrArg comes ahead of ErrRange.
				for _, bounds := range [][2]int{{-1, count}, {0, count + 1}, {count, 0}, {math.MinInt, math.MaxInt}, {math.MaxInt, math.MinInt}} {
					checkRunsError(t, levels, bounds[0], bounds[1], api.ErrArg)
				}
			}
		}
		checkRunsError(t, join(repeat(4096, -1), list(level)), 0, 1, api.ErrArg)
	}
}

func TestP16_1WhichLevelsMayBe(t *testing.T) {
	for level := -300; level <= 300; level++ {
		if level < -1 || level > 127 {
			checkRunsError(t, list(level), 0, 1, api.ErrArg)
			checkRunsError(t, list(-1, level), 0, 0, api.ErrArg)
			continue
		}
		checkEachRun(t, list(level, level))
	}
	checkRuns(t, list(-1, 127, 0), 0, 2, pairs([2]int{0, 1}))
}

func TestP16_1WrongRanges(t *testing.T) {
	for _, levels := range [][]int{nil, {0}, {-1}, {0, 1, 1, 0}, {-1, -1, -1}, repeat(300, 1)} {
		n := len(levels)
		bounds := append(slices.Clone(farBounds), 0, 1, 2, n-1, n, n+1, 2*n, n+256, 1<<32+n)
		for _, from := range bounds {
			for _, to := range bounds {
				if from < 0 || to > n || from > to {
					checkRunsError(t, levels, from, to, api.ErrRange)
				}
			}
		}
	}
	// What lies behind the list's length is no place of it.
	checkRunsError(t, list(0, 1, 1, 0)[:2], 0, 3, api.ErrRange)
}

// Runs are told by a range over a function, which may be left behind each of them, and gone through again.
func TestP16_1RunsMayBeLeftAnywhere(t *testing.T) {
	places := list(0, 5, 1, 6, 2, 3, 7)
	all := pairs([2]int{0, 1}, [2]int{2, 3}, [2]int{4, 6})
	runs := marked(places, 0, 4)
	for count := range len(all) {
		var got [][2]int
		for run := range runs {
			if got = append(got, run); len(got) == count+1 {
				break
			}
		}
		if !slices.Equal(got, all[:count+1]) {
			t.Errorf("the first %d runs: %v", count+1, got)
		}
	}
	if got := slices.Collect(runs); !slices.Equal(got, all) {
		t.Errorf("all runs: %v; wanted %v", got, all)
	}
}

func TestP16_2Examples(t *testing.T) {
	levels := list(0, 1, 1, 0)
	checkPlaces(t, levels, pairs([2]int{1, 3}), list(1, 2))
	checkPlacesError(t, levels, pairs([2]int{2, 5}), api.ErrForm)
}

func TestP16_2LineWithoutAPlace(t *testing.T) {
	for _, none := range [][]int{nil, {}, list(7, 7)[:0], {-1}, {-1, -1, -1}} {
		checkPlaces(t, none, nil, nil)
		checkPlaces(t, none, pairs(), nil)
		for _, run := range pairs([2]int{0, 0}, [2]int{0, 1}, [2]int{-1, 0}, [2]int{-1, 1}, [2]int{1, 2}, [2]int{1, 0}) {
			checkPlacesError(t, none, pairs(run), api.ErrForm)
		}
	}
}

func TestP16_2OnePlaceAlone(t *testing.T) {
	for level := 0; level <= 127; level++ {
		checkPlaces(t, list(level), nil, nil)
		checkPlaces(t, list(level), pairs([2]int{0, 1}), list(0))
		checkPlaces(t, list(-1, level, -1), pairs([2]int{0, 1}), list(1))
		checkPlacesError(t, list(-1, level, -1), pairs([2]int{1, 2}), api.ErrForm)
	}
}

// Each of these is worked out by hand.
func TestP16_2WorkedOut(t *testing.T) {
	for _, x := range []struct {
		levels []int
		runs   [][2]int
		want   []int
	}{
		{list(0, 1, 1, 0), nil, nil},
		{list(0, 1, 1, 0), pairs([2]int{0, 1}, [2]int{2, 3}), list(0, 1)},
		{list(0, 1, 1, 0), pairs([2]int{0, 1}, [2]int{3, 4}), list(0, 3)},
		{list(0, 1, 1, 0), pairs([2]int{0, 4}), list(0, 1, 2, 3)},
		// A run that begins where the one ahead of it ends.
		{list(0, 1, 1, 0), pairs([2]int{0, 1}, [2]int{1, 2}), list(0, 2)},
		{list(0, 1, 1, 0), pairs([2]int{0, 1}, [2]int{1, 2}, [2]int{2, 3}, [2]int{3, 4}), list(0, 1, 2, 3)},
		{list(1, 1, 1, 1), pairs([2]int{0, 1}, [2]int{3, 4}), list(0, 3)},
		{list(1, 1, 1, 1), pairs([2]int{1, 4}), list(0, 1, 2)},
		{list(1, 2, 2, 1), pairs([2]int{0, 2}), list(1, 3)},
		{list(0, -1, 0), pairs([2]int{1, 2}), list(2)},
		{list(0, -1, 0), pairs([2]int{0, 2}), list(0, 2)},
		{list(126, 127, 127, -1), pairs([2]int{1, 2}), list(2)},
	} {
		checkPlaces(t, x.levels, x.runs, x.want)
	}
}

func TestP16_2AsTheWordsHaveIt(t *testing.T) {
	lists := [][][][2]int{}
	for columns := range 7 {
		lists = append(lists, runLists(columns))
	}
	check := func(levels []int) {
		columns := columnsByWords(t, levels)
		for _, runs := range lists[countByWords(levels)] {
			checkPlaces(t, levels, runs, placesByWords(columns, runs))
		}
	}
	for _, some := range levelChoices {
		listsOf(some, 4, check)
	}
	listsOf(list(-1, 1, 2), 6, check)
}

// checkAny holds Places of a list of any runs against the chapter's words.
func checkAny(t *testing.T, levels, columns []int, runs [][2]int) {
	t.Helper()
	if !areRunsByWords(runs, countByWords(levels)) {
		checkPlacesError(t, levels, runs, api.ErrForm)
		return
	}
	checkPlaces(t, levels, runs, placesByWords(columns, runs))
}

// allPairs are all runs between some bounds, also those that may not be.
func allPairs(bounds []int) [][2]int {
	var all [][2]int
	for _, begin := range bounds {
		for _, end := range bounds {
			all = append(all, [2]int{begin, end})
		}
	}
	return all
}

func TestP16_2AnyRuns(t *testing.T) {
	for _, some := range levelChoices {
		listsOf(some, 2, func(levels []int) {
			columns := columnsByWords(t, levels)
			listsOf(allPairs(upTo(-1, countByWords(levels)+1)), 2, func(runs [][2]int) { checkAny(t, levels, columns, runs) })
		})
	}
	for _, levels := range [][]int{{1}, {0, -1, 1}, {1, 2, -1}, {0, 1, 1}} {
		columns := columnsByWords(t, levels)
		listsOf(allPairs(upTo(-1, countByWords(levels)+1)), 3, func(runs [][2]int) { checkAny(t, levels, columns, runs) })
	}
}

func TestP16_2WrongRuns(t *testing.T) {
	good := pairs([2]int{1, 3}, [2]int{4, 6}, [2]int{6, 7})
	for _, levels := range [][]int{repeat(8, 1), {0, 1, -1, 1, 2, 2, 3, -1, 1, 0}} {
		columns := columnsByWords(t, levels)
		checkPlaces(t, levels, good, placesByWords(columns, good))
		for k := range good {
			for _, bound := range append(slices.Clone(farBounds), upTo(-3, 12)...) {
				for side := range 2 {
					runs := slices.Clone(good)
					runs[k][side] = bound
					checkAny(t, levels, columns, runs)
				}
			}
		}
		for _, run := range allPairs(append(slices.Clone(farBounds), 0, 1, 7, 8, 9, 10)) {
			checkAny(t, levels, columns, pairs(run))
			checkAny(t, levels, columns, pairs([2]int{0, 1}, run))
			checkAny(t, levels, columns, pairs(run, [2]int{7, 8}))
		}
	}
}

// Each way in which a run may be wrong, by itself.
func TestP16_2EachFault(t *testing.T) {
	levels := repeat(4, 0)
	for _, runs := range [][][2]int{
		pairs([2]int{-1, 2}),                                      // begins below 0
		pairs([2]int{math.MinInt, 2}),                             // the same
		pairs([2]int{0, 3}, [2]int{2, 4}),                         // begins ahead of the end of the one ahead of it
		pairs([2]int{2, 3}, [2]int{0, 1}),                         // the same
		pairs([2]int{0, 1}, [2]int{2, 3}, [2]int{2, 3}),           // the same one twice
		pairs([2]int{1, 1}),                                       // ends where it begins
		pairs([2]int{0, 0}),                                       // the same
		pairs([2]int{4, 4}),                                       // the same
		pairs([2]int{0, 1}, [2]int{1, 1}, [2]int{1, 2}),           // the same
		pairs([2]int{2, 1}),                                       // ends ahead of that
		pairs([2]int{2, math.MinInt}),                             // the same
		pairs([2]int{3, 5}),                                       // ends behind the last column
		pairs([2]int{0, math.MaxInt}),                             // the same
		pairs([2]int{4, 5}),                                       // the same
		pairs([2]int{0, 4}, [2]int{4, 5}),                         // the same
		pairs([2]int{math.MinInt, math.MaxInt}),                   // all of these
		pairs([2]int{math.MaxInt, math.MinInt}),                   // all of these
		pairs([2]int{math.MaxInt - 1, math.MaxInt}),               // the last run that ints have
		pairs([2]int{0, 1}, [2]int{math.MinInt, math.MinInt + 1}), // the first one
	} {
		checkPlacesError(t, levels, runs, api.ErrForm)
	}
	// A column that a place would have which is not seen.
	checkPlacesError(t, list(0, -1, 0), pairs([2]int{0, 3}), api.ErrForm)
	checkPlacesError(t, list(0, -1, 0), pairs([2]int{2, 3}), api.ErrForm)
}

func TestP16_2WrongLevels(t *testing.T) {
	for _, level := range wrongLevels {
		for count := range 6 {
			for at := range count {
				levels := list(0, 1, -1, 127, 2)[:count]
				levels[at] = level
				// ErrArg comes ahead of ErrForm.
				for _, runs := range [][][2]int{nil, {{0, 1}}, {{-1, 0}}, {{1, 1}}, {{2, 1}}, {{0, 99}}, {{math.MinInt, math.MaxInt}}, {{0, 1}, {0, 1}}} {
					checkPlacesError(t, levels, runs, api.ErrArg)
				}
			}
		}
		checkPlacesError(t, join(repeat(4096, 0), list(level)), pairs([2]int{0, 1}), api.ErrArg)
	}
}

func TestP16_2WhichLevelsMayBe(t *testing.T) {
	for level := -300; level <= 300; level++ {
		switch {
		case level < -1 || level > 127:
			checkPlacesError(t, list(level), nil, api.ErrArg)
			checkPlacesError(t, list(0, level), pairs([2]int{0, 1}), api.ErrArg)
		case level == -1:
			checkPlaces(t, list(level, 0), pairs([2]int{0, 1}), list(1))
		default:
			checkPlaces(t, list(level, -1, level), pairs([2]int{0, 1}, [2]int{1, 2}), list(0, 2))
		}
	}
}

func TestP16_2LongLines(t *testing.T) {
	for _, some := range append(slices.Clone(levelChoices), upTo(-1, 127), list(-1, -1, -1, -1, 1, 4)) {
		mixed(some, 2, api.MaxText, func(levels []int) {
			columns, count := columnsByWords(t, levels), countByWords(levels)
			for _, wide := range list(1, 2, 7, 64) {
				var apart, beside [][2]int
				for begin := 0; begin+wide <= count; begin += wide {
					beside = append(beside, [2]int{begin, begin + wide})
					if begin/wide%3 == 1 {
						apart = append(apart, [2]int{begin, begin + wide})
					}
				}
				checkPlaces(t, levels, apart, placesByWords(columns, apart))
				checkPlaces(t, levels, beside, placesByWords(columns, beside))
			}
			checkPlaces(t, levels, pairs([2]int{0, count}), placesByWords(columns, pairs([2]int{0, count})))
			checkPlacesError(t, levels, pairs([2]int{0, count + 1}), api.ErrForm)
			checkPlacesError(t, levels, pairs([2]int{count - 1, count}, [2]int{count, count + 1}), api.ErrForm)
		})
	}
}

// Nothing is said of how long a line may be.
func TestP16_2FarLines(t *testing.T) {
	for _, n := range list(4095, 4096, 4097, 5000, 1<<18) {
		checkPlaces(t, repeat(n, 0), pairs([2]int{1, 2}, [2]int{n - 1, n}), list(1, n-1))
		checkPlaces(t, repeat(n, 127), pairs([2]int{0, n - 1}), upTo(1, n-1))
		checkPlaces(t, join(repeat(n, -1), list(5), repeat(n, -1)), pairs([2]int{0, 1}), list(n))
		checkPlacesError(t, repeat(n, -1), pairs([2]int{0, 1}), api.ErrForm)
		checkPlacesError(t, repeat(n, 1), pairs([2]int{n, n + 1}), api.ErrForm)
	}
}

func TestP16_3BetweenTwoRuns(t *testing.T) {
	eachLine(5, 24, func(levels []int) {
		eachRange(len(levels), func(from, to int) {
			end := -1
			for _, run := range mustRuns(t, levels, from, to) {
				if run[0] <= end || run[1] <= run[0] || run[1] > countByWords(levels) {
					t.Fatalf("Runs(%v, %d, %d): the run %v behind the column %d", levels, from, to, run, end)
				}
				end = run[1]
			}
		})
	})
}

func TestP16_3PlacesOfRuns(t *testing.T) {
	check := func(levels []int) {
		eachRange(len(levels), func(from, to int) {
			var seen []int
			for place := from; place < to; place++ {
				if levels[place] != -1 {
					seen = append(seen, place)
				}
			}
			checkPlaces(t, levels, mustRuns(t, levels, from, to), seen)
		})
	}
	eachLine(5, 24, check)
	listsOf(list(-1, 1, 2), 7, check)
}

func TestP16_3AllPlaces(t *testing.T) {
	check := func(levels []int) {
		var want [][2]int
		if count := countByWords(levels); count > 0 {
			want = pairs([2]int{0, count})
		}
		checkRuns(t, levels, 0, len(levels), want)
	}
	eachLine(5, 200, check)
	listsOf(upTo(-1, 127), 2, check)
}

// columnsOf are all columns of some runs, one behind the other.
func columnsOf(runs [][2]int) []int {
	var columns []int
	for _, run := range runs {
		columns = append(columns, upTo(run[0], run[1]-1)...)
	}
	return columns
}

// No column is in both lists, so that together they have each one of the whole once.
func TestP16_3TwoRanges(t *testing.T) {
	eachLine(5, 16, func(levels []int) {
		eachRange(len(levels), func(from, to int) {
			whole := columnsOf(mustRuns(t, levels, from, to))
			for between := from; between <= to; between++ {
				ahead, behind := mustRuns(t, levels, from, between), mustRuns(t, levels, between, to)
				both := join(columnsOf(ahead), columnsOf(behind))
				slices.Sort(both)
				if !slices.Equal(both, whole) {
					t.Fatalf("%v, from %d to %d to %d: %v and %v have the columns %v; wanted %v", levels, from, between, to, ahead, behind, both, whole)
				}
			}
		})
	})
}

// What is picked is what is marked: the runs of the places of any runs, place by place, are these runs again.
func TestP16_3RunsOfPlaces(t *testing.T) {
	lists := [][][][2]int{}
	for columns := range 6 {
		lists = append(lists, runLists(columns))
	}
	for _, some := range levelChoices {
		listsOf(some, 3, func(levels []int) {
			for _, runs := range lists[countByWords(levels)] {
				places, e := Places(levels, runs)
				if e != api.OK {
					t.Fatalf("Places(%v, %v): %v, %d", levels, runs, places, e)
				}
				var columns []int
				for _, place := range places {
					columns = append(columns, columnsOf(mustRuns(t, levels, place, place+1))...)
				}
				slices.Sort(columns)
				if !slices.Equal(columns, columnsOf(runs)) {
					t.Fatalf("%v: %v have the places %v, and these the columns %v", levels, runs, places, columns)
				}
			}
		})
	}
}
