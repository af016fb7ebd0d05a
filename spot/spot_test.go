package spot

import (
	"math"
	"math/cmplx"
	"slices"
	"testing"

	"colophon/api"
)

var (
	bases       = []int{0, 1}
	wrongBases  = []int{math.MinInt, math.MinInt + 1, math.MinInt32, -1 << 32, -257, -256, -255, -3, -2, -1, 2, 3, 4, 127, 128, 255, 256, 257, math.MaxInt32, 1 << 32, 1<<32 + 1, math.MaxInt - 1, math.MaxInt}
	wrongLevels = []int{math.MinInt, math.MinInt + 1, math.MinInt32, -1 << 32, -257, -256, -255, -128, -127, -3, -2, 128, 129, 130, 255, 256, 257, 1 << 32, 1<<32 + 1, math.MaxInt - 1, math.MaxInt}
	wrongSteps  = []int{math.MinInt, math.MinInt + 1, -1<<32 + 1, -1<<32 - 1, -257, -255, -3, -2, 0, 2, 3, 255, 257, 1<<32 - 1, 1<<32 + 1, math.MaxInt - 1, math.MaxInt}
)

// levelChoices are levels that small lists are made of.
var levelChoices = [][]int{
	{-1, 0, 1, 2, 3}, {0, 1, 2, 3, 4}, {-1, 1, 2, 4}, {-1, 0, 2, 4}, {1, 3, 5}, {0, 3, 4, 7}, {-1, 2, 5, 6}, {-1, 0, 1, 126, 127}, {-1, 124, 125, 126},
}

// someSpots are what small lists of any spots are made of: those of stops and of places that are not seen, and those that no line has.
var someSpots = spots(0+1i, 0-1i, 1+1i, 1-1i, 1, 2-1i, 0.5+1i, 1+0.5i, 2-3i, -1+1i)

// moreSpots are more of them, with the ends of what their parts can be.
var moreSpots = spots(0, 2, 2+1i, -1, -1.5-1i, 0.5, 0.25-7i, 1e9+1i, -1e9, 1e300-1i, 3+1e-300i, -2+1e300i,
	complex(math.SmallestNonzeroFloat64, 1), complex(4, math.SmallestNonzeroFloat64), complex(5, -math.SmallestNonzeroFloat64), complex(math.MaxFloat64, 1), complex(-math.MaxFloat64, -1),
	complex(math.Inf(1), 1), complex(math.Inf(-1), -1), complex(1, math.Inf(1)), complex(math.Copysign(0, -1), -1), complex(1, math.Copysign(0, -1)))

// list puts some together, as a list.
func list(some ...int) []int { return some }

// spots puts some together, as spots.
func spots(some ...complex128) []complex128 { return some }

func repeat(count int, some ...int) []int { return slices.Repeat(some, count) }

func join(lists ...[]int) []int { return slices.Concat(lists...) }

// upTo are the levels from one up to another one, it too.
func upTo(from, to int) []int {
	var l []int
	for level := from; level <= to; level++ {
		l = append(l, level)
	}
	return l
}

// listsOf calls do with each list of some of these that is no longer than length.
func listsOf[T any](some []T, length int, do func([]T)) {
	var more func(l []T)
	more = func(l []T) {
		do(slices.Clone(l))
		if len(l) == length {
			return
		}
		for _, x := range some {
			more(append(l, x))
		}
	}
	more(make([]T, 0, length))
}

// mixed are long lists of some of these, always the same ones.
func mixed[T any](some []T, count, length int, do func([]T)) {
	seed := uint64(15)
	for range count {
		l := make([]T, length)
		for i := range l {
			seed = seed*6364136223846793005 + 1442695040888963407
			l[i] = some[int(seed>>33)%len(some)]
		}
		do(l)
	}
}

// eachLine calls do with all small lists of levels over the choices, and with long ones, with each base.
func eachLine(length, long int, do func(levels []int, base int)) {
	for _, base := range bases {
		each := func(levels []int) { do(levels, base) }
		listsOf(upTo(-1, 127), 1, each)
		for _, some := range levelChoices {
			listsOf(some, length, each)
			mixed(some, 4, long, each)
		}
		mixed(upTo(-1, 127), 4, long, each)
		mixed(upTo(0, 127), 2, long, each)
		mixed(join(upTo(0, 3), repeat(12, -1)), 4, long, each)
		each(repeat(long, -1))
		each(join(repeat(long/2, -1), list(1), repeat(long/2, -1)))
		each(join(upTo(0, 127), upTo(-1, 127)))
	}
}

// eachSpots calls do with all small lists of any spots, and with long ones.
func eachSpots(do func([]complex128)) {
	listsOf(someSpots, 4, do)
	all := slices.Concat(someSpots, moreSpots)
	listsOf(all, 2, do)
	do(all)
	mixed(all, 10, 60, do)
	mixed(someSpots, 10, 60, do)
}

func checkSpots(t *testing.T, levels []int, base int, want []complex128) {
	t.Helper()
	if got, e := Spots(levels, base); e != api.OK || !slices.Equal(got, want) {
		t.Fatalf("Spots(%v, %d): %v, %d; wanted %v", levels, base, got, e, want)
	}
}

func checkSpotsError(t *testing.T, levels []int, base int) {
	t.Helper()
	if got, e := Spots(levels, base); e != api.ErrArg || len(got) != 0 {
		t.Fatalf("Spots(%v, %d): %v, %d; wanted the error %d", levels, base, got, e, api.ErrArg)
	}
}

// mustSpots are the spots of a line that is not refused.
func mustSpots(t *testing.T, levels []int, base int) []complex128 {
	t.Helper()
	got, e := Spots(levels, base)
	if e != api.OK || len(got) != len(levels)+1 {
		t.Fatalf("Spots(%v, %d): %v, %d", levels, base, got, e)
	}
	return got
}

func checkOffset(t *testing.T, spots []complex128, z complex128, want int, e api.Errno) {
	t.Helper()
	if got, told := Offset(spots, z); got != want || told != e {
		t.Fatalf("Offset(%v, %v): %d, %d; wanted %d, %d", spots, z, got, told, want, e)
	}
}

func checkStep(t *testing.T, spots []complex128, i, by, want int, e api.Errno) {
	t.Helper()
	if got, told := Step(spots, i, by); got != want || told != e {
		t.Fatalf("Step(%v, %d, %d): %d, %d; wanted %d, %d", spots, i, by, got, told, want, e)
	}
}

func checkFlip(t *testing.T, spots, want []complex128) {
	t.Helper()
	if got := Flip(spots); !slices.Equal(got, want) {
		t.Fatalf("Flip(%v): %v; wanted %v", spots, got, want)
	}
}

func TestP15_1Examples(t *testing.T) {
	checkSpots(t, list(0, 1, 1), 0, spots(0+1i, 2-1i, 1-1i, 3+1i))
	checkSpots(t, list(-1, 2), 1, spots(1, 1+1i, 0-1i))
}

func TestP15_1LineWithoutAPlace(t *testing.T) {
	for _, none := range [][]int{nil, {}, list(7, 7)[:0]} {
		checkSpots(t, none, 0, spots(0+1i))
		checkSpots(t, none, 1, spots(0-1i))
	}
}

func TestP15_1OnePlaceAlone(t *testing.T) {
	for level := 0; level <= 126; level += 2 {
		checkSpots(t, list(level), 0, spots(0+1i, 1+1i))
		checkSpots(t, list(level+1), 0, spots(0-1i, 1+1i))
		checkSpots(t, list(level+1), 1, spots(1-1i, 0-1i))
		if level > 0 {
			checkSpots(t, list(level), 1, spots(1+1i, 0-1i))
		}
	}
	// The level below the base is the least one between the place and the end.
	checkSpots(t, list(0), 1, spots(0+1i, 1-1i))
	checkSpots(t, list(-1), 0, spots(0, 0+1i))
	checkSpots(t, list(-1), 1, spots(0, 0-1i))
}

// Each of these is worked out by hand.
func TestP15_1WorkedOut(t *testing.T) {
	for _, x := range []struct {
		levels []int
		base   int
		want   []complex128
	}{
		{list(0, 1, 1, 0), 0, spots(0+1i, 2-1i, 1-1i, 3+1i, 4+1i)},
		{list(1, 1, 2, 1), 1, spots(4-1i, 3-1i, 2+1i, 1-1i, 0-1i)},
		// The end stands where the paragraph ends, not beside the last place.
		{list(1, 1), 0, spots(1-1i, 0-1i, 2+1i)},
		{list(2, 2), 1, spots(1+1i, 2+1i, 0-1i)},
		{list(0, 0), 1, spots(0+1i, 1+1i, 2-1i)},
		{list(1, 0, 1), 1, spots(0-1i, 1+1i, 3-1i, 2-1i)},
		{list(2, 1, 2), 1, spots(3+1i, 2-1i, 1+1i, 0-1i)},
		// Digits within what goes to the left, and a blank at the end.
		{list(1, 1, 2, 2, 0), 0, spots(3-1i, 2-1i, 0+1i, 1+1i, 4+1i, 5+1i)},
		// What is not seen: at the beginning, between, several running, just ahead of the end.
		{list(-1, 0), 0, spots(0, 0+1i, 1+1i)},
		{list(-1, -1, 1, 1), 0, spots(1, 1, 1-1i, 0-1i, 2+1i)},
		{list(0, -1, 1, -1, -1, 1), 0, spots(0+1i, 2, 2-1i, 1, 1, 1-1i, 3+1i)},
		{list(1, -1), 0, spots(0-1i, 1, 1+1i)},
		{list(1, -1), 1, spots(1-1i, 0, 0-1i)},
		{list(2, 2, -1, -1), 1, spots(1+1i, 2+1i, 0, 0, 0-1i)},
		{list(-1, 3, -1, -1, 4, -1), 0, spots(1, 1-1i, 0, 0, 0+1i, 2, 2+1i)},
		// None is seen.
		{list(-1, -1, -1), 0, spots(0, 0, 0, 0+1i)},
		{list(-1, -1, -1), 1, spots(0, 0, 0, 0-1i)},
		// The deepest levels.
		{list(127, 126), 0, spots(0-1i, 1+1i, 2+1i)},
		{list(126, 127), 1, spots(1+1i, 2-1i, 0-1i)},
	} {
		checkSpots(t, x.levels, x.base, x.want)
	}
}

func TestP15_1AsTheWordsHaveIt(t *testing.T) {
	eachLine(5, 120, func(levels []int, base int) { checkSpots(t, levels, base, spotsByWords(t, levels, base)) })
	for _, base := range bases {
		listsOf(upTo(-1, 127), 2, func(levels []int) { checkSpots(t, levels, base, spotsByWords(t, levels, base)) })
		listsOf(list(-1, 1, 2), 8, func(levels []int) { checkSpots(t, levels, base, spotsByWords(t, levels, base)) })
	}
}

// Chapter 13's words are held against the columns themselves here, without its Order.
func TestP15_1ColumnsByTheLeastLevel(t *testing.T) {
	eachLine(4, 40, func(levels []int, base int) {
		all, got := append(slices.Clone(levels), base), mustSpots(t, levels, base)
		for j := range all {
			for i := range j {
				if all[i] == -1 || all[j] == -1 {
					continue
				}
				if even := leastByWords(all, i, j)%2 == 0; real(got[i]) == real(got[j]) || real(got[i]) < real(got[j]) != even {
					t.Fatalf("Spots(%v, %d): %v: the places %d and %d", levels, base, got, i, j)
				}
			}
		}
	})
}

func TestP15_1LongLines(t *testing.T) {
	for _, base := range bases {
		check := func(levels []int) { checkSpots(t, levels, base, spotsByWords(t, levels, base)) }
		for _, some := range append(levelChoices, upTo(-1, 127), list(-1, -1, -1, -1, 1, 4)) {
			mixed(some, 2, api.MaxText, check)
		}
		// Nothing is said of how long a line may be.
		for _, length := range list(4095, 4096, 4097, 5000) {
			check(repeat(length, 0))
			check(repeat(length, 1))
			check(repeat(length, -1))
		}
	}
}

// far is how long the longest lists are.
const far = 1 << 18

func TestP15_1FarLines(t *testing.T) {
	right, left, none := mustSpots(t, repeat(far, 0), 0), mustSpots(t, repeat(far, 127), 1), mustSpots(t, repeat(far, -1), 0)
	for place := range far + 1 {
		want := float64(place)
		if right[place] != complex(want, 1) || left[place] != complex(far-want, -1) || real(none[place]) != 0 {
			t.Fatalf("the place %d: %v, %v, %v", place, right[place], left[place], none[place])
		}
	}
}

func TestP15_1WrongBases(t *testing.T) {
	for _, base := range wrongBases {
		for _, levels := range [][]int{nil, {}, {0}, {1}, {-1}, {127}, {0, 1, 1}, {128}, {0, -2}, repeat(4096, 0)} {
			checkSpotsError(t, levels, base)
		}
	}
	for base := -300; base <= 300; base++ {
		if base == 0 || base == 1 {
			mustSpots(t, list(0, 1), base)
		} else {
			checkSpotsError(t, list(0, 1), base)
		}
	}
}

func TestP15_1WrongLevels(t *testing.T) {
	for _, level := range wrongLevels {
		for count := range 6 {
			for at := range count {
				levels := list(0, 1, -1, 127, 2)[:count]
				levels[at] = level
				checkSpotsError(t, levels, 0)
				checkSpotsError(t, levels, 1)
			}
		}
		checkSpotsError(t, join(repeat(4096, -1), list(level)), 0)
	}
}

func TestP15_1WhichLevelsMayBe(t *testing.T) {
	for level := -300; level <= 300; level++ {
		if level < -1 || level > 127 {
			checkSpotsError(t, list(level), 0)
			checkSpotsError(t, list(-1, level), 1)
			continue
		}
		checkSpots(t, list(level, level), 1, spotsByWords(t, list(level, level), 1))
	}
	checkSpots(t, list(-1, 127, 0), 0, spots(0, 0-1i, 1+1i, 2+1i))
}

// eachColumn are real parts of what spots are asked for.
var eachColumn = []float64{-2, -1.5, -1, math.Copysign(0, -1), 0, 0.25, 0.5, 1, 1.5, 2, 3, 4, 5, 1e9, -1e9, 1e300, math.SmallestNonzeroFloat64, math.MaxFloat64, -math.MaxFloat64, math.Inf(1), math.Inf(-1)}

// wrongLeanings are imaginary parts that are neither 1 nor -1.
var wrongLeanings = []float64{0, math.Copysign(0, -1), math.Nextafter(1, 0), math.Nextafter(1, 2), math.Nextafter(-1, 0), math.Nextafter(-1, -2), 0.5, -0.5, 2, -2, 3, 255, 257, math.SmallestNonzeroFloat64, -math.SmallestNonzeroFloat64, math.MaxFloat64, math.Inf(1), math.Inf(-1), math.NaN()}

func TestP15_2Examples(t *testing.T) {
	line := spots(0+1i, 2-1i, 1-1i, 3+1i)
	for place, z := range line {
		checkOffset(t, line, z, place, api.OK)
		// To which side z leans does not matter, as long as it leans.
		checkOffset(t, line, cmplx.Conj(z), place, api.OK)
		checkOffset(t, line, complex(real(z), 0), 0, api.ErrRange)
	}
	for _, z := range spots(4+1i, -1+1i, 4-1i, 0.5+1i, 2.5-1i) {
		checkOffset(t, line, z, 0, api.ErrEdge)
	}
	line = spots(1, 1+1i, 0-1i)
	checkOffset(t, line, 1-1i, 1, api.OK)
	checkOffset(t, line, 0+1i, 2, api.OK)
	checkOffset(t, line, 2+1i, 0, api.ErrEdge)
}

func TestP15_2NoSpots(t *testing.T) {
	for _, none := range [][]complex128{nil, {}, spots(0+1i, 1+1i)[:0]} {
		for _, column := range eachColumn {
			checkOffset(t, none, complex(column, 1), 0, api.ErrEdge)
			checkOffset(t, none, complex(column, -1), 0, api.ErrEdge)
		}
		checkOffset(t, none, 0, 0, api.ErrRange)
	}
}

func TestP15_2TheFirstOneCounts(t *testing.T) {
	checkOffset(t, spots(5+1i, 2-1i, 2-1i, 2+1i), 2+1i, 1, api.OK)
	checkOffset(t, spots(2, 0+1i, 2, 2-1i, 2+1i), 2+1i, 3, api.OK)
	checkOffset(t, spots(2+0.5i, 2+1i), 2+1i, 0, api.OK)
	checkOffset(t, spots(2, 2, 2), 2+1i, 0, api.ErrEdge)
}

func TestP15_2AnySpots(t *testing.T) {
	eachSpots(func(l []complex128) {
		for _, column := range eachColumn {
			for _, z := range spots(complex(column, 1), complex(column, -1)) {
				place, e := offsetByWords(l, z)
				checkOffset(t, l, z, place, e)
			}
		}
	})
}

func TestP15_2WrongLeanings(t *testing.T) {
	for _, l := range [][]complex128{nil, spots(0+1i, 2-1i, 1-1i, 3+1i), someSpots, moreSpots} {
		for _, column := range append(eachColumn, math.NaN()) {
			for _, leaning := range wrongLeanings {
				checkOffset(t, l, complex(column, leaning), 0, api.ErrRange)
			}
		}
	}
	// It is the lean of z that may not be: ahead of whether a spot is like it.
	checkOffset(t, spots(0+2i), 0+2i, 0, api.ErrRange)
	checkOffset(t, spots(0), 0, 0, api.ErrRange)
}

// A part that is no number is like no other one, and is not 0.
func TestP15_2PartsThatAreNoNumbers(t *testing.T) {
	nan := math.NaN()
	l := spots(complex(nan, 1), complex(0, nan), 0+1i, 1+1i)
	checkOffset(t, l, complex(nan, 1), 0, api.ErrEdge)
	checkOffset(t, l, 0-1i, 1, api.OK)
	checkOffset(t, l, 1-1i, 3, api.OK)
	checkStep(t, l, 0, 1, 0, api.ErrEdge)
	checkStep(t, l, 1, 1, 3, api.OK)
	checkStep(t, l, 3, -1, 1, api.OK)
	if got := Flip(l); len(got) != 4 || !math.IsNaN(real(got[0])) || real(got[1]) != 3 || got[2] != 3-1i || got[3] != 2-1i {
		t.Errorf("Flip(%v): %v", l, got)
	}
}

func TestP15_2OfALine(t *testing.T) {
	eachLine(4, 60, func(levels []int, base int) {
		l := mustSpots(t, levels, base)
		m := 0
		for place, z := range l {
			if imag(z) != 0 {
				checkOffset(t, l, z, place, api.OK)
				m++
			} else {
				checkOffset(t, l, z, 0, api.ErrRange)
			}
		}
		checkOffset(t, l, complex(float64(m), 1), 0, api.ErrEdge)
		checkOffset(t, l, -1-1i, 0, api.ErrEdge)
	})
}

func TestP15_3Examples(t *testing.T) {
	line := spots(0+1i, 2-1i, 1-1i, 3+1i)
	for _, x := range [][3]int{{0, 1, 2}, {2, 1, 1}, {1, 1, 3}, {3, -1, 1}, {1, -1, 2}, {2, -1, 0}} {
		checkStep(t, line, x[0], x[1], x[2], api.OK)
	}
	checkStep(t, line, 3, 1, 0, api.ErrEdge)
	checkStep(t, line, 0, -1, 0, api.ErrEdge)
	// The third of the whole.
	line = mustSpots(t, list(0, 1, 1, 0), 0)
	for _, x := range [][2]int{{4, 3}, {3, 1}, {1, 2}, {2, 0}} {
		checkStep(t, line, x[0], -1, x[1], api.OK)
	}
	checkStep(t, line, 0, -1, 0, api.ErrEdge)
}

// From a place that is not seen a step leads beside the stop that its column is of.
func TestP15_3PlacesThatAreNotSeen(t *testing.T) {
	line := spots(1, 1+1i, 0-1i)
	checkStep(t, line, 0, -1, 2, api.OK)
	checkStep(t, line, 0, 1, 0, api.ErrEdge)
	line = spots(0+1i, 2, 2-1i, 1, 1, 1-1i, 3+1i)
	checkStep(t, line, 1, 1, 6, api.OK)
	checkStep(t, line, 1, -1, 5, api.OK)
	checkStep(t, line, 3, 1, 2, api.OK)
	checkStep(t, line, 4, -1, 0, api.OK)
	for place := range 4 {
		checkStep(t, spots(0, 0, 0, 0-1i), place, 1, 0, api.ErrEdge)
		checkStep(t, spots(0, 0, 0, 0-1i), place, -1, 0, api.ErrEdge)
	}
	eachLine(4, 60, func(levels []int, base int) {
		line := mustSpots(t, levels, base)
		for place := len(levels) - 1; place >= 0; place-- {
			if levels[place] == -1 {
				for _, by := range list(1, -1) {
					want, e := Step(line, place+1, by)
					checkStep(t, line, place, by, want, e)
				}
			}
		}
	})
}

func TestP15_3AnySpots(t *testing.T) {
	eachSpots(func(l []complex128) {
		for i := -2; i < len(l)+3; i++ {
			for _, by := range list(1, -1) {
				place, e := stepByWords(l, i, by)
				checkStep(t, l, i, by, place, e)
			}
		}
	})
	// Twice in the list, itself not seen, beside parts that are no whole numbers.
	checkStep(t, spots(3, 2-1i, 2+1i), 0, -1, 1, api.OK)
	checkStep(t, spots(0.5+1i, 1+1i, 1.5, 1.5-3i), 0, 1, 3, api.OK)
	checkStep(t, spots(0.5+1i, 1+1i, 1.5), 0, 1, 0, api.ErrEdge)
	checkStep(t, spots(1+1i, 1-1i, 0+0.25i), 1, -1, 2, api.OK)
	checkStep(t, spots(-1-1i, -2+1i), 0, -1, 1, api.OK)
}

func TestP15_3NoSuchPlace(t *testing.T) {
	for _, l := range [][]complex128{nil, {}, spots(0 + 1i), spots(0+1i, 2-1i, 1-1i, 3+1i), someSpots} {
		n := len(l)
		for _, i := range list(math.MinInt, math.MinInt+1, math.MinInt32, -1<<32, -n-1, -n, -2, -1, n, n+1, 2*n, n+256, 1<<32, 1<<32+n, math.MaxInt-1, math.MaxInt) {
			if i >= 0 && i < n {
				continue
			}
			for _, by := range append(wrongSteps, 1, -1) {
				checkStep(t, l, i, by, 0, api.ErrRange)
			}
		}
	}
	// What lies behind the list's length is no place of it.
	checkStep(t, spots(0+1i, 1+1i)[:1], 1, -1, 0, api.ErrRange)
}

func TestP15_3WrongSteps(t *testing.T) {
	for _, l := range [][]complex128{spots(0 + 1i), spots(0), spots(0+1i, 2-1i, 1-1i, 3+1i), someSpots, moreSpots} {
		for i := range l {
			for _, by := range wrongSteps {
				checkStep(t, l, i, by, 0, api.ErrRange)
			}
			for by := -300; by <= 300; by++ {
				if by != 1 && by != -1 {
					checkStep(t, l, i, by, 0, api.ErrRange)
				}
			}
		}
	}
}

// At either edge of a line there is no further stop.
func TestP15_3Edges(t *testing.T) {
	eachLine(4, 60, func(levels []int, base int) {
		line := mustSpots(t, levels, base)
		left, e := Offset(line, 0+1i)
		if e != api.OK {
			t.Fatalf("Offset(%v, 0+1i): %d, %d", line, left, e)
		}
		checkStep(t, line, left, -1, 0, api.ErrEdge)
		right := left
		for place, z := range line {
			if imag(z) != 0 && real(z) > real(line[right]) {
				right = place
			}
		}
		checkStep(t, line, right, 1, 0, api.ErrEdge)
	})
}

func TestP15_4Examples(t *testing.T) {
	checkFlip(t, spots(0+1i, 2-1i, 1-1i, 3+1i), spots(3-1i, 1+1i, 2+1i, 0-1i))
	checkFlip(t, spots(1, 1+1i, 0-1i), spots(0, 0-1i, 1+1i))
}

func TestP15_4NoSpots(t *testing.T) {
	for _, none := range [][]complex128{nil, {}, spots(0+1i, 1+1i)[:0]} {
		checkFlip(t, none, nil)
	}
}

// Those alone whose imaginary part is not 0 are counted.
func TestP15_4WhatIsCounted(t *testing.T) {
	checkFlip(t, spots(0), spots(-1))
	checkFlip(t, spots(0, 3, -2), spots(-1, -4, 1))
	checkFlip(t, spots(0+1i), spots(0-1i))
	checkFlip(t, spots(7, 0+1i, 7, 7), spots(-7, 0-1i, -7, -7))
	checkFlip(t, spots(2, 2-1i, 1, 1, 1+1i, 0+1i), spots(0, 0+1i, 1, 1, 1-1i, 2-1i))
	// Spots that no line has: the same one twice, parts that are no whole numbers, others than 1, -1 and 0.
	checkFlip(t, spots(0+1i, 0+1i, 0-1i), spots(2-1i, 2-1i, 2+1i))
	checkFlip(t, spots(0.5+2i, -1-0.25i, 0.25), spots(0.5-2i, 2+0.25i, 0.75))
	checkFlip(t, spots(complex(1, math.SmallestNonzeroFloat64), 1), spots(complex(-1, -math.SmallestNonzeroFloat64), -1))
	checkFlip(t, spots(complex(1, math.Copysign(0, -1)), complex(math.Copysign(0, -1), 0)), spots(-2, -1))
}

func TestP15_4AnySpots(t *testing.T) {
	eachSpots(func(l []complex128) { checkFlip(t, l, flipByWords(l)) })
	eachLine(5, 120, func(levels []int, base int) {
		l := mustSpots(t, levels, base)
		checkFlip(t, l, flipByWords(l))
	})
}

func TestP15_4FarLines(t *testing.T) {
	flipped := Flip(mustSpots(t, repeat(far, 1), 0))
	for place := range far {
		if flipped[place] != complex(float64(place+1), 1) {
			t.Fatalf("the place %d: %v", place, flipped[place])
		}
	}
	if flipped[far] != 0-1i {
		t.Errorf("the end: %v", flipped[far])
	}
}

func TestP15_5ColumnsOfOneStopEach(t *testing.T) {
	eachLine(5, 120, func(levels []int, base int) {
		line := mustSpots(t, levels, base)
		var columns []float64
		for place, z := range line {
			stop := place == len(levels) || levels[place] != -1
			if stop != (imag(z) == 1 || imag(z) == -1) || !stop && imag(z) != 0 {
				t.Fatalf("Spots(%v, %d): %v: the place %d", levels, base, line, place)
			}
			if stop {
				columns = append(columns, real(z))
			}
		}
		slices.Sort(columns)
		for column, x := range columns {
			if x != float64(column) {
				t.Fatalf("Spots(%v, %d): the columns %v", levels, base, columns)
			}
		}
	})
}

func TestP15_5StepsLeadBack(t *testing.T) {
	eachLine(5, 60, func(levels []int, base int) {
		line, edges := mustSpots(t, levels, base), 0
		for place, z := range line {
			if imag(z) == 0 {
				continue
			}
			for _, by := range list(1, -1) {
				beside, e := Step(line, place, by)
				if e == api.ErrEdge {
					edges++
					continue
				}
				if e != api.OK || real(line[beside]) != real(z)+float64(by) || imag(line[beside]) == 0 {
					t.Fatalf("Step(%v, %d, %d): %d, %d", line, place, by, beside, e)
				}
				checkStep(t, line, beside, -by, place, api.OK)
			}
		}
		if edges != 2 {
			t.Fatalf("%v has %d edges", line, edges)
		}
	})
}

func TestP15_5InAMirror(t *testing.T) {
	eachLine(5, 60, func(levels []int, base int) {
		line := mustSpots(t, levels, base)
		mirrored := Flip(line)
		for place := range line {
			for _, by := range list(1, -1) {
				want, e := Step(line, place, -by)
				checkStep(t, mirrored, place, by, want, e)
			}
		}
		checkFlip(t, mirrored, line)
	})
}

// With all levels one more, and the other base, the columns are turned about.
func TestP15_5OneLevelMoreIsTheMirror(t *testing.T) {
	for _, some := range [][]int{{-1, 0, 1, 2}, {0, 3, 126}, {1, 2, 5}} {
		listsOf(some, 5, func(levels []int) {
			more := slices.Clone(levels)
			for place := range more {
				if more[place] != -1 {
					more[place]++
				}
			}
			checkSpots(t, more, 1, Flip(mustSpots(t, levels, 0)))
		})
	}
}
