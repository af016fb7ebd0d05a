package order

import (
	"math"
	"slices"
	"testing"

	"colophon/api"
)

var (
	blanks     = []int{api.WS, api.LRI, api.RLI, api.FSI, api.PDI}
	separators = []int{api.S, api.B}
	// others are classes that are neither, and numbers that are no classes, some of which have the lower bits of one.
	others = []int{
		api.L, api.R, api.AL, api.EN, api.ES, api.ET, api.AN, api.CS, api.NSM, api.BN, api.ON, api.LRE, api.LRO, api.RLE, api.RLO, api.PDF,
		math.MinInt, math.MinInt + api.WS, -256 + api.S, -api.PDI, -api.WS, -api.S, -api.B, -1, 0, 24, 25, 32 + api.B, 64 + api.S, 256 + api.WS, 1<<16 + api.LRI, 1<<32 + api.S, 1<<32 + api.WS, math.MaxInt - 1, math.MaxInt,
	}
	bases       = []int{0, 1}
	wrongBases  = []int{math.MinInt, math.MinInt + 1, -1 << 32, -257, -256, -2, -1, 2, 3, 127, 255, 256, 257, 1 << 32, 1<<32 + 1, math.MaxInt - 1, math.MaxInt}
	wrongLevels = []int{math.MinInt, math.MinInt + 1, math.MinInt32, -1 << 32, -257, -256, -255, -128, -127, -3, -2, 128, 129, 130, 255, 256, 257, 1 << 32, 1<<32 + 1, math.MaxInt - 1, math.MaxInt}
	wrongCounts = []int{math.MinInt, math.MinInt + 1, -1 << 32, -4096, -2, -1, 4097, 4098, 8192, 1<<16 + 1, 1 << 32, 1<<32 + 1, math.MaxInt - 1, math.MaxInt}
)

// levelChoices are levels that small lists are made of.
var levelChoices = [][]int{
	{-1, 0, 1, 2, 3}, {0, 1, 2, 3, 4}, {-1, 1, 2, 4}, {-1, 0, 2, 4}, {1, 3, 5}, {0, 3, 4, 7}, {-1, 2, 5, 6}, {-1, 0, 1, 126, 127}, {61, 62, 63, 64}, {-1, 124, 125, 126}, {3, 6},
}

// list puts some together, as a list.
func list(some ...int) []int { return some }

// repeat puts the same ones together some times over.
func repeat(count int, some ...int) []int { return slices.Repeat(some, count) }

func join(lists ...[]int) []int { return slices.Concat(lists...) }

// listsOf calls do with each list of some of these that is no longer than length.
func listsOf(some []int, length int, do func([]int)) {
	var more func(l []int)
	more = func(l []int) {
		do(slices.Clone(l))
		if len(l) == length {
			return
		}
		for _, x := range some {
			more(append(l, x))
		}
	}
	more(make([]int, 0, length))
}

// mixed are long lists of some of these, always the same ones.
func mixed(some []int, count, length int, do func([]int)) {
	seed := uint64(13)
	for range count {
		l := make([]int, length)
		for i := range l {
			seed = seed*6364136223846793005 + 1442695040888963407
			l[i] = some[int(seed>>33)%len(some)]
		}
		do(l)
	}
}

// upTo are the levels from one up to another one, it too.
func upTo(from, to int) []int {
	var l []int
	for level := from; level <= to; level++ {
		l = append(l, level)
	}
	return l
}

// eachLevels calls do with all small lists of levels over the choices, and with long ones of few levels, and of all.
func eachLevels(do func([]int)) {
	listsOf(upTo(-1, 127), 2, do)
	for _, some := range levelChoices {
		listsOf(some, 6, do)
		mixed(some, 4, 60, do)
	}
	listsOf(list(-1, 1, 2), 8, do)
	eachLong(do)
}

// eachLong calls do with long lists of levels.
func eachLong(do func([]int)) {
	up := upTo(0, 127)
	down := slices.Clone(up)
	slices.Reverse(down)
	for _, l := range [][]int{up, down, join(up, down), join(down, up), join(list(-1), up, list(-1, -1), down, list(-1)), join(up[1:], down), join(up[:127], list(-1), down[1:127])} {
		do(l)
	}
	mixed(upTo(-1, 127), 10, 120, do)
	mixed(upTo(0, 127), 10, 120, do)
	mixed(join(upTo(124, 127), repeat(9, -1)), 10, 120, do)
	mixed(join(upTo(1, 4), repeat(9, 2)), 10, 120, do)
	do(repeat(100, -1))
	do(repeat(100, 127))
	do(repeat(100, 126))
	do(join(repeat(50, -1), list(1), repeat(50, -1)))
}

// split puts a number apart into a class and a level.
func split(both, some, levels []int) (c, l []int) {
	c, l = make([]int, len(both)), make([]int, len(both))
	for i, x := range both {
		c[i], l[i] = some[x/len(levels)], levels[x%len(levels)]
	}
	return c, l
}

// linesOf calls do with each list of some of these classes and levels that is no longer than length.
func linesOf(some, levels []int, length int, do func(c, levels []int)) {
	listsOf(upTo(0, len(some)*len(levels)-1), length, func(both []int) {
		do(split(both, some, levels))
	})
}

// eachStretch calls do with each stretch of so many places.
func eachStretch(count int, do func(from, to int)) {
	for to := range count + 1 {
		for from := range to + 1 {
			do(from, to)
		}
	}
}

func checkLine(t *testing.T, c, levels []int, base, from, to int, want []int) {
	t.Helper()
	if got, e := Line(c, levels, base, from, to); e != api.OK || !slices.Equal(got, want) {
		t.Fatalf("Line(%v, %v, %d, %d, %d): %v, %d; wanted %v", c, levels, base, from, to, got, e, want)
	}
}

func checkLineError(t *testing.T, c, levels []int, base, from, to int, want api.Errno) {
	t.Helper()
	if got, e := Line(c, levels, base, from, to); e != want || len(got) != 0 {
		t.Fatalf("Line(%v, %v, %d, %d, %d): %v, %d; wanted the error %d", c, levels, base, from, to, got, e, want)
	}
}

// checkLines asks for all stretches, with both bases.
func checkLines(t *testing.T, c, levels []int) {
	t.Helper()
	for _, base := range bases {
		eachStretch(len(c), func(from, to int) {
			checkLine(t, c, levels, base, from, to, lineByWords(c, levels, base, from, to))
		})
	}
}

func checkOrder(t *testing.T, levels, want []int) {
	t.Helper()
	if got, e := Order(levels); e != api.OK || !slices.Equal(got, want) {
		t.Fatalf("Order(%v): %v, %d; wanted %v", levels, got, e, want)
	}
}

// checkLevelsError asks the two calls that are given nothing but levels.
func checkLevelsError(t *testing.T, levels []int, want api.Errno) {
	t.Helper()
	if got, e := Order(levels); e != want || len(got) != 0 {
		t.Fatalf("Order(%v): %v, %d; wanted the error %d", levels, got, e, want)
	}
	if got, e := Runs(levels); e != want || len(got) != 0 {
		t.Fatalf("Runs(%v): %v, %d; wanted the error %d", levels, got, e, want)
	}
}

func checkColumns(t *testing.T, order []int, n int, want []int) {
	t.Helper()
	if got, e := Columns(order, n); e != api.OK || !slices.Equal(got, want) {
		t.Fatalf("Columns(%v, %d): %v, %d; wanted %v", order, n, got, e, want)
	}
}

func checkColumnsError(t *testing.T, order []int, n int, want api.Errno) {
	t.Helper()
	if got, e := Columns(order, n); e != want || len(got) != 0 {
		t.Fatalf("Columns(%v, %d): %v, %d; wanted the error %d", order, n, got, e, want)
	}
}

func checkRuns(t *testing.T, levels []int, want ...[]int) {
	t.Helper()
	if got, e := Runs(levels); e != api.OK || !slices.EqualFunc(got, want, slices.Equal) {
		t.Fatalf("Runs(%v): %v, %d; wanted %v", levels, got, e, want)
	}
}

// mustOrder is what is told of levels that are not refused.
func mustOrder(t *testing.T, levels []int) []int {
	t.Helper()
	got, e := Order(levels)
	if e != api.OK {
		t.Fatalf("Order(%v): %v, %d", levels, got, e)
	}
	return got
}

func TestP13_1Examples(t *testing.T) {
	checkLine(t, list(api.L, api.WS), list(0, 0), 1, 0, 2, list(0, 1))
	checkLine(t, list(api.L, api.S, api.R), list(2, 2, 1), 1, 0, 3, list(2, 1, 1))
	checkLine(t, list(api.L, api.S, api.R), list(0, 0, 1), 0, 0, 3, list(0, 0, 1))
	checkLine(t, list(api.L, api.S, api.R), list(0, 1, 1), 0, 0, 3, list(0, 0, 1))
}

func TestP13_1Empty(t *testing.T) {
	for _, base := range bases {
		checkLine(t, nil, nil, base, 0, 0, nil)
		checkLine(t, []int{}, []int{}, base, 0, 0, nil)
		checkLine(t, nil, []int{}, base, 0, 0, nil)
		for at := range 4 {
			checkLine(t, list(api.L, api.S, api.WS), list(5, 6, -1), base, at, at, nil)
		}
	}
}

func TestP13_1OnePlaceAlone(t *testing.T) {
	for _, base := range bases {
		for level := range 128 {
			for _, class := range join(blanks, separators) {
				checkLine(t, list(class), list(level), base, 0, 1, list(base))
			}
			for _, class := range others {
				checkLine(t, list(class), list(level), base, 0, 1, list(level))
			}
		}
		for _, class := range join(blanks, separators, others) {
			checkLine(t, list(class), list(-1), base, 0, 1, list(-1))
		}
	}
}

// Each of these is worked out by hand.
func TestP13_1WorkedOut(t *testing.T) {
	for _, x := range []struct{ c, levels, want []int }{
		// Ahead of S, of B, and of the end.
		{list(api.R, api.WS, api.S, api.R), list(5, 5, 5, 5), list(5, 1, 1, 5)},
		{list(api.R, api.WS, api.PDI, api.B), list(5, 5, 5, 5), list(5, 1, 1, 1)},
		{list(api.R, api.WS, api.LRI, api.RLI, api.FSI, api.PDI), list(5, 5, 5, 5, 5, 5), list(5, 1, 1, 1, 1, 1)},
		// Ahead of something else, and behind S.
		{list(api.WS, api.R, api.PDI, api.ON, api.S, api.WS, api.L), list(5, 5, 5, 5, 5, 5, 6), list(5, 5, 5, 5, 1, 5, 6)},
		{list(api.S, api.S, api.WS, api.S, api.LRI), list(5, 5, 5, 5, 5), list(1, 1, 1, 1, 1)},
		// What is removed within, ahead of, and behind a stretch.
		{list(api.R, api.BN, api.WS, api.RLE, api.PDI, api.PDF, api.S, api.BN), list(5, -1, 5, -1, 5, -1, 5, -1), list(5, -1, 1, -1, 1, -1, 1, -1)},
		{list(api.WS, api.BN, api.R), list(5, -1, 5), list(5, -1, 5)},
		{list(api.WS, api.BN, api.WS, api.BN), list(5, -1, 5, -1), list(1, -1, 1, -1)},
		{list(api.WS, api.L, api.WS, api.R), list(5, -1, 5, -1), list(1, -1, 1, -1)},
		// BN and the like part, if they have a level.
		{list(api.WS, api.BN, api.WS), list(5, 5, 5), list(5, 5, 1)},
		{list(api.WS, api.PDF, api.S), list(5, 5, 5), list(5, 5, 1)},
	} {
		checkLine(t, x.c, x.levels, 1, 0, len(x.c), x.want)
	}
}

func TestP13_1LinesWithin(t *testing.T) {
	c := list(api.R, api.WS, api.R, api.WS, api.BN, api.PDI, api.R, api.WS, api.S, api.R)
	levels := list(3, 4, 5, 6, -1, 7, 8, 9, 10, 11)
	checkLine(t, c, levels, 0, 0, 1, list(3))
	checkLine(t, c, levels, 0, 0, 2, list(3, 0))
	checkLine(t, c, levels, 0, 0, 3, list(3, 4, 5))
	checkLine(t, c, levels, 0, 1, 6, list(4, 5, 0, -1, 0))
	checkLine(t, c, levels, 0, 2, 5, list(5, 0, -1))
	checkLine(t, c, levels, 0, 3, 4, list(0))
	checkLine(t, c, levels, 0, 3, 7, list(6, -1, 7, 8))
	checkLine(t, c, levels, 0, 6, 8, list(8, 0))
	checkLine(t, c, levels, 0, 4, 10, list(-1, 7, 8, 0, 0, 11))
	checkLine(t, c, levels, 0, 10, 10, nil)
}

// What is removed is passed over, of whichever class it is said to be: no stretch ends with it, and none is parted.
func TestP13_1RemovedSeparators(t *testing.T) {
	for _, class := range separators {
		checkLine(t, list(api.WS, class, api.R), list(5, -1, 5), 0, 0, 3, list(5, -1, 5))
		checkLine(t, list(api.WS, class, api.WS), list(5, -1, 5), 0, 0, 3, list(0, -1, 0))
		checkLine(t, list(api.WS, class, api.WS, api.R), list(5, -1, 5, 5), 0, 0, 4, list(5, -1, 5, 5))
	}
}

func TestP13_1AsTheWordsHaveIt(t *testing.T) {
	linesOf(join(separators, blanks, list(api.L, api.BN)), list(-1, 2, 3), 2, func(c, levels []int) { checkLines(t, c, levels) })
	linesOf(list(api.S, api.B, api.WS, api.LRI, api.PDI, api.R), list(-1, 0, 1), 3, func(c, levels []int) { checkLines(t, c, levels) })
	linesOf(list(api.B, api.RLI, api.FSI, api.ON), list(-1, 5), 4, func(c, levels []int) { checkLines(t, c, levels) })
	linesOf(list(api.S, api.WS, api.L), list(-1, 126), 5, func(c, levels []int) { checkLines(t, c, levels) })
	linesOf(join(separators, blanks, others), list(9), 2, func(c, levels []int) { checkLines(t, c, levels) })
}

func TestP13_1EachOther(t *testing.T) {
	for _, class := range others {
		for _, behind := range join(separators, blanks) {
			c := list(api.WS, api.PDI, class, api.WS, behind)
			checkLine(t, c, list(4, 5, 6, 7, 8), 1, 0, 5, list(4, 5, 6, 1, 1))
			checkLine(t, c, list(4, 5, -1, 7, 8), 1, 0, 5, list(1, 1, -1, 1, 1))
			checkLine(t, c, list(4, 5, 6, 7, 8), 0, 0, 3, list(4, 5, 6))
		}
	}
}

func TestP13_1LongLines(t *testing.T) {
	mixed(upTo(0, 59), 20, 40, func(both []int) {
		c, levels := split(both, join(separators, repeat(3, blanks...), list(api.L, api.R, api.BN)), list(-1, 1, 2))
		checkLines(t, c, levels)
	})
	mixed(upTo(0, 4*60-1), 10, 4096, func(both []int) {
		c, levels := split(both, join(list(api.S, api.R), repeat(11, blanks...), list(api.B, api.L, api.BN)), list(-1, 126, 3, 0))
		for _, base := range bases {
			checkLine(t, c, levels, base, 0, 4096, lineByWords(c, levels, base, 0, 4096))
			checkLine(t, c, levels, base, 100, 3000, lineByWords(c, levels, base, 100, 3000))
		}
	})
}

// far is how long the longest lists are; going through one anew at each of its places would take far too long.
const far = 1 << 20

func TestP13_1FarLines(t *testing.T) {
	blank, high := repeat(far, api.WS, api.PDI), repeat(far, 6, 7)
	checkLine(t, blank, high, 1, 0, 2*far, repeat(2*far, 1))
	checkLine(t, join(blank, list(api.L)), join(high, list(4)), 1, 0, 2*far+1, join(high, list(4)))
	checkLine(t, repeat(far, api.WS, api.S), high, 0, 0, 2*far, repeat(2*far, 0))
	checkLine(t, repeat(far, api.WS, api.L), high, 0, 0, 2*far, high)
	checkLine(t, blank, repeat(far, 6, -1), 1, 0, 2*far, repeat(far, 1, -1))
}

func TestP13_1UnlikeLengths(t *testing.T) {
	for long := range 6 {
		for short := range long {
			c, levels := repeat(long, api.L), repeat(short, 1)
			for _, base := range bases {
				eachStretch(short, func(from, to int) {
					checkLineError(t, c, levels, base, from, to, api.ErrArg)
					checkLineError(t, levels, c, base, from, to, api.ErrArg)
				})
			}
			checkLineError(t, c, levels, 0, -1, 9, api.ErrArg)
			checkLineError(t, levels, c, 0, 1, 0, api.ErrArg)
		}
	}
	checkLineError(t, nil, list(0), 0, 0, 0, api.ErrArg)
	checkLineError(t, list(api.L), nil, 0, 0, 0, api.ErrArg)
}

func TestP13_1WrongBases(t *testing.T) {
	for _, base := range wrongBases {
		checkLineError(t, nil, nil, base, 0, 0, api.ErrArg)
		checkLineError(t, list(api.L, api.WS), list(0, 1), base, 0, 2, api.ErrArg)
		checkLineError(t, list(api.L, api.WS), list(0, 1), base, 1, 1, api.ErrArg)
		checkLineError(t, list(api.L, api.WS), list(0, 1), base, 0, 3, api.ErrArg)
		checkLineError(t, list(api.L, api.WS), list(0, 1), base, -1, 1, api.ErrArg)
		checkLineError(t, list(api.L, api.WS), list(0, 1), base, 2, 1, api.ErrArg)
	}
}

func TestP13_1WrongLevels(t *testing.T) {
	c := list(api.L, api.WS, api.BN, api.S)
	for _, level := range wrongLevels {
		for at := range c {
			levels := list(0, 1, -1, 127)
			levels[at] = level
			for _, base := range bases {
				eachStretch(len(c), func(from, to int) { checkLineError(t, c, levels, base, from, to, api.ErrArg) })
				checkLineError(t, c, levels, base, -1, 2, api.ErrArg)
				checkLineError(t, c, levels, base, 0, 5, api.ErrArg)
				checkLineError(t, c, levels, base, 3, 2, api.ErrArg)
			}
		}
	}
}

func TestP13_1WhichLevelsMayBe(t *testing.T) {
	for level := -300; level <= 300; level++ {
		if level < -1 || level > 127 {
			checkLineError(t, list(api.L), list(level), 0, 0, 1, api.ErrArg)
			checkLineError(t, list(api.L), list(level), 0, 0, 0, api.ErrArg)
			continue
		}
		checkLine(t, list(api.L), list(level), 0, 0, 1, list(level))
	}
	checkLine(t, list(api.L, api.R, api.L), list(-1, 127, 0), 1, 0, 3, list(-1, 127, 0))
	checkLine(t, list(api.L, api.R, api.L), list(-1, 0, 127), 1, 1, 2, list(0))
}

func TestP13_1WrongStretches(t *testing.T) {
	edges := []int{math.MinInt, math.MinInt + 1, -1 << 32, -257, -2, -1, 0, 1, 2, 3, 4, 5, 256, 1 << 32, 1<<32 + 1, math.MaxInt - 1, math.MaxInt}
	for count := range 5 {
		c, levels := repeat(count, api.L), repeat(count, 1)
		for _, from := range edges {
			for _, to := range edges {
				for _, base := range bases {
					if from < 0 || to > count || from > to {
						checkLineError(t, c, levels, base, from, to, api.ErrRange)
						continue
					}
					checkLine(t, c, levels, base, from, to, repeat(to-from, 1))
				}
			}
		}
	}
}

func TestP13_2Examples(t *testing.T) {
	checkOrder(t, list(0, 0, 1, 1, 0), list(0, 1, 3, 2, 4))
	checkOrder(t, list(1, 2, 2, 1), list(3, 1, 2, 0))
	checkOrder(t, list(1, -1, 0), list(0, 2))
	// Those of the whole.
	checkOrder(t, list(0, 1, 1, 0), list(0, 2, 1, 3))
	checkOrder(t, list(1, 1, 2, 1), list(3, 2, 1, 0))
}

func TestP13_2Empty(t *testing.T) {
	checkOrder(t, nil, nil)
	checkOrder(t, []int{}, nil)
	for n := range 70 {
		checkOrder(t, repeat(n, -1), nil)
	}
}

func TestP13_2OnePlaceAlone(t *testing.T) {
	for level := range 128 {
		checkOrder(t, list(level), list(0))
		checkOrder(t, list(-1, level), list(1))
		checkOrder(t, list(-1, -1, level, -1), list(2))
		checkOrder(t, list(level, -1), list(0))
	}
}

// Each of these is worked out by hand.
func TestP13_2WorkedOut(t *testing.T) {
	for _, x := range [][2][]int{
		{list(1, 1, 1), list(2, 1, 0)},
		{list(2, 2, 2), list(0, 1, 2)},
		// A level that none has between two that some have.
		{list(1, 4, 4, 1), list(3, 1, 2, 0)},
		{list(0, 3, 3, 0), list(0, 2, 1, 3)},
		{list(0, 4, 4, 2), list(0, 1, 2, 3)},
		{list(2, 5, 5, 2), list(0, 2, 1, 3)},
		{list(3, 5, 5), list(2, 1, 0)},
		{list(1, 2, 3, 3, 2, 1), list(5, 1, 3, 2, 4, 0)},
		// What is not seen parts nothing.
		{list(0, 1, -1, 1, 0), list(0, 3, 1, 4)},
		{list(-1, 1, -1, 2, -1, -1, 2, 1, -1), list(7, 3, 6, 1)},
		{list(127, 126, -1, 127, 127), list(0, 1, 4, 3)},
	} {
		checkOrder(t, x[0], x[1])
	}
}

func TestP13_2AsTheWordsHaveIt(t *testing.T) {
	eachLevels(func(levels []int) { checkOrder(t, levels, orderByWords(levels)) })
}

// checkPairs holds each two places against the least level between them.
func checkPairs(t *testing.T, levels []int) {
	t.Helper()
	columns := slices.Repeat([]int{-1}, len(levels))
	for column, i := range mustOrder(t, levels) {
		columns[i] = column
	}
	for i, level := range levels {
		if (columns[i] < 0) != (level == -1) {
			t.Fatalf("the place %d of the level %d has the column %d", i, level, columns[i])
		}
		if level == -1 {
			continue
		}
		least := level
		for j := i + 1; j < len(levels); j++ {
			if levels[j] == -1 {
				continue
			}
			least = min(least, levels[j])
			if (columns[i] < columns[j]) != (least%2 == 0) {
				t.Fatalf("the places %d, %d, with the least level %d: columns %d, %d", i, j, least, columns[i], columns[j])
			}
		}
	}
}

func TestP13_2OfLongLists(t *testing.T) {
	do := func(levels []int) { checkPairs(t, levels) }
	mixed(upTo(-1, 127), 3, 4096, do)
	mixed(upTo(0, 2), 2, 4096, do)
	mixed(join(upTo(1, 6), repeat(5, -1), repeat(20, 3)), 2, 4096, do)
	mixed(list(126, 127, 125), 1, 4096, do)
}

func TestP13_2OfFarLists(t *testing.T) {
	want := upTo(0, far-1)
	checkOrder(t, repeat(far, 126), want)
	slices.Reverse(want)
	checkOrder(t, repeat(far, 127), want)
	checkOrder(t, repeat(far, -1), nil)
	checkOrder(t, join(repeat(far, -1), list(1, 1)), list(far+1, far))
}

func TestP13_2WrongLevels(t *testing.T) {
	for _, level := range wrongLevels {
		checkLevelsError(t, list(level), api.ErrArg)
		for at := range 5 {
			checkLevelsError(t, slices.Insert(list(0, -1, 1, 127), at, level), api.ErrArg)
			checkLevelsError(t, slices.Insert(repeat(4, -1), at, level), api.ErrArg)
		}
		checkLevelsError(t, join(repeat(5000, 1), list(level)), api.ErrArg)
	}
}

func TestP13_2WhichLevelsMayBe(t *testing.T) {
	for level := -300; level <= 300; level++ {
		switch {
		case level < -1 || level > 127:
			checkLevelsError(t, list(level), api.ErrArg)
		case level == -1:
			checkOrder(t, list(level), nil)
		default:
			checkOrder(t, list(level), list(0))
		}
	}
}

func TestP13_3Examples(t *testing.T) {
	checkColumns(t, list(3, 1, 2, 0), 5, list(3, 1, 2, 0, -1))
}

func TestP13_3Empty(t *testing.T) {
	checkColumns(t, nil, 0, nil)
	checkColumns(t, []int{}, 0, nil)
	for _, n := range list(1, 2, 100, 4095, 4096) {
		checkColumns(t, nil, n, repeat(n, -1))
		checkColumns(t, []int{}, n, repeat(n, -1))
	}
}

func TestP13_3OnePlaceAlone(t *testing.T) {
	checkColumns(t, list(0), 1, list(0))
	for _, n := range list(1, 2, 3, 64, 4095, 4096) {
		for _, place := range list(0, n/2, n-1) {
			want := repeat(n, -1)
			want[place] = 0
			checkColumns(t, list(place), n, want)
		}
	}
}

func TestP13_3WrongCounts(t *testing.T) {
	for _, n := range wrongCounts {
		for _, order := range [][]int{nil, {}, {0}, {0, 1}, {1, 0, 4096}, {-1}, {0, 0}, {math.MaxInt}} {
			checkColumnsError(t, order, n, api.ErrArg)
		}
	}
	all := upTo(0, 4096)
	checkColumns(t, all[:4096], 4096, all[:4096])
	checkColumnsError(t, all, 4096, api.ErrForm)
	checkColumnsError(t, all, 4097, api.ErrArg)
	checkColumnsError(t, all[:4096], 4095, api.ErrForm)
}

func TestP13_3WrongPlaces(t *testing.T) {
	places := func(n int) []int {
		return list(math.MinInt, math.MinInt+1, -1<<32, -256, -n, -2, -1, n, n+1, n+256, 1<<32, 1<<32+1, math.MaxInt-1, math.MaxInt)
	}
	for n := range 6 {
		for _, place := range places(n) {
			if place >= 0 && place < n {
				continue
			}
			checkColumnsError(t, list(place), n, api.ErrForm)
			for at := range n + 1 {
				checkColumnsError(t, slices.Insert(upTo(0, n-1), at, place), n, api.ErrForm)
			}
		}
	}
	checkColumnsError(t, list(0), 0, api.ErrForm)
	checkColumnsError(t, list(4096), 4096, api.ErrForm)
	checkColumnsError(t, list(4095), 4095, api.ErrForm)
}

func TestP13_3PlacesTwice(t *testing.T) {
	for n := 1; n <= 6; n++ {
		for place := range n {
			checkColumnsError(t, list(place, place), n, api.ErrForm)
			for at := range n + 1 {
				checkColumnsError(t, slices.Insert(upTo(0, n-1), at, place), n, api.ErrForm)
			}
		}
	}
	checkColumnsError(t, join(upTo(0, 4095), list(0)), 4096, api.ErrForm)
	checkColumnsError(t, join(upTo(1, 4095), list(4095)), 4096, api.ErrForm)
	checkColumnsError(t, repeat(far, 7), 4096, api.ErrForm)
}

func TestP13_3AsTheWordsHaveIt(t *testing.T) {
	for n := range 6 {
		listsOf(upTo(-1, n), 5, func(order []int) {
			sorted := slices.Sorted(slices.Values(order))
			twice := len(slices.Compact(sorted)) < len(order)
			if twice || slices.Contains(order, -1) || slices.Contains(order, n) {
				checkColumnsError(t, order, n, api.ErrForm)
				return
			}
			checkColumns(t, order, n, columnsByWords(order, n))
		})
	}
}

func TestP13_3OfOrders(t *testing.T) {
	eachLong(func(levels []int) {
		order := mustOrder(t, levels)
		checkColumns(t, order, len(levels), columnsByWords(order, len(levels)))
	})
	down := upTo(0, 4095)
	slices.Reverse(down)
	checkColumns(t, down, 4096, down)
}

func TestP13_4Examples(t *testing.T) {
	checkRuns(t, list(0, 1, 1, 0), list(0), list(2, 1), list(3))
}

func TestP13_4Empty(t *testing.T) {
	checkRuns(t, nil)
	checkRuns(t, []int{})
	checkRuns(t, list(-1))
	checkRuns(t, repeat(100, -1))
}

func TestP13_4OnePlaceAlone(t *testing.T) {
	for level := range 128 {
		checkRuns(t, list(level), list(0))
		checkRuns(t, list(-1, level, -1), list(1))
	}
}

// Each of these is worked out by hand.
func TestP13_4WorkedOut(t *testing.T) {
	checkRuns(t, list(1, 2, 2, 1), list(3), list(1, 2), list(0))
	checkRuns(t, list(0, 0, 0), list(0, 1, 2))
	checkRuns(t, list(1, 1, 1), list(2, 1, 0))
	// What is not seen cuts nothing.
	checkRuns(t, list(0, -1, 0, 1, -1, 1), list(0, 2), list(5, 3))
	// Levels that go to the same side are cut, too.
	checkRuns(t, list(0, 2, 2, 0), list(0), list(1, 2), list(3))
	checkRuns(t, list(3, 1, 3), list(2), list(1), list(0))
	checkRuns(t, list(126, 127, -1), list(0), list(1))
}

func TestP13_4AsTheWordsHaveIt(t *testing.T) {
	do := func(levels []int) { checkRuns(t, levels, runsByWords(mustOrder(t, levels), levels)...) }
	eachLevels(do)
	mixed(upTo(-1, 127), 2, 4096, do)
	mixed(upTo(1, 2), 2, 4096, do)
}

func TestP13_4OfFarLists(t *testing.T) {
	levels := repeat(far, 0, 1)
	runs, e := Runs(levels)
	if e != api.OK || len(runs) != 2*far {
		t.Fatalf("%d runs, %d", len(runs), e)
	}
	for i, run := range runs {
		if !slices.Equal(run, list(i)) {
			t.Fatalf("the run %d: %v", i, run)
		}
	}
	checkRuns(t, repeat(far, 2), upTo(0, far-1))
}

func TestP13_5EachPlaceThatIsSeenOnce(t *testing.T) {
	eachLevels(func(levels []int) {
		var want []int
		for i, level := range levels {
			if level != -1 {
				want = append(want, i)
			}
		}
		if got := slices.Sorted(slices.Values(mustOrder(t, levels))); !slices.Equal(got, want) {
			t.Fatalf("Order(%v) has %v", levels, got)
		}
	})
}

func TestP13_5ByTurningAbout(t *testing.T) {
	do := func(levels []int) { checkOrder(t, levels, orderByTurning(levels)) }
	eachLevels(do)
	mixed(upTo(-1, 127), 3, 1000, do)
	mixed(upTo(0, 3), 3, 1000, do)
}

// raised has all levels more by so many, but those that are not seen; none, if one would be too great.
func raised(levels []int, by int) ([]int, bool) {
	more := slices.Clone(levels)
	for i := range more {
		if more[i] == -1 {
			continue
		}
		more[i] += by
		if more[i] > 127 {
			return nil, false
		}
	}
	return more, true
}

func TestP13_5LevelsTwoMore(t *testing.T) {
	eachLevels(func(levels []int) {
		want := mustOrder(t, levels)
		for by := 2; by <= 126; by += 2 {
			more, ok := raised(levels, by)
			if !ok {
				return
			}
			checkOrder(t, more, want)
		}
	})
}

func TestP13_5LevelsOneMore(t *testing.T) {
	eachLevels(func(levels []int) {
		more, ok := raised(levels, 1)
		if !ok {
			return
		}
		want := mustOrder(t, levels)
		slices.Reverse(want)
		checkOrder(t, more, want)
	})
}

// spoil writes over a list, its spare room too.
func spoil(l []int) {
	l = l[:cap(l)]
	for i := range l {
		l[i] = -5
	}
}

func TestRule4WhatIsHandedInStaysAsItIs(t *testing.T) {
	c := list(api.R, api.WS, api.BN, api.S, api.L, api.PDI, api.B, api.WS, 77)
	levels := list(5, 6, -1, 2, 1, 2, 1, 4, 127)
	order := list(3, 1, 0, 2, 4, 4, -1, 9, 77)
	before := [3][]int{slices.Clone(c), slices.Clone(levels), slices.Clone(order)}
	for k := range len(c) + 1 {
		for base := -1; base <= 2; base++ {
			for from := -1; from <= k+1; from++ {
				for to := -1; to <= k+1; to++ {
					Line(c[:k], levels[:k], base, from, to)
				}
			}
		}
		Order(levels[:k])
		Runs(levels[:k])
		for n := -1; n <= 10; n++ {
			Columns(order[:k], n)
		}
	}
	for k, l := range [3][]int{c, levels, order} {
		if !slices.Equal(l, before[k]) {
			t.Errorf("%v has become %v", before[k], l)
		}
	}
}

func TestRule8WhatLiesBehindALengthIsNotRead(t *testing.T) {
	c := list(api.R, api.WS, api.S, api.L, api.WS, api.L)
	levels := list(1, 3, 3, 2, 2, 200)
	checkLine(t, c[:2], levels[:2], 0, 0, 2, list(1, 0))
	checkLine(t, c[:3], levels[:3], 0, 1, 3, list(0, 0))
	checkLine(t, c[:5], levels[:5], 1, 0, 5, list(1, 1, 1, 2, 1))
	checkLineError(t, c, levels, 1, 0, 5, api.ErrArg)
	checkLineError(t, c[:5], levels[:5], 1, 0, 6, api.ErrRange)
	checkOrder(t, levels[:0], nil)
	checkOrder(t, levels[:3], list(2, 1, 0))
	checkOrder(t, levels[3:5], list(0, 1))
	checkRuns(t, levels[:3], list(2, 1), list(0))
	order := list(1, 0, 1, -1)
	checkColumns(t, order[:2], 2, list(1, 0))
	checkColumns(t, order[1:3], 3, list(0, 1, -1))
	checkColumnsError(t, order[:3], 2, api.ErrForm)
}

// samples are levels of many kinds, none of which is refused.
var samples = [][]int{nil, {}, {0}, {1}, {-1}, {0, 1, 1, 0}, {1, 2, 2, 1}, {1, -1, 0}, {3, 3, -1, 4, 127, 0}, {2, 2, 2, 2, 2}}

func TestRule4WhatIsHandedOutIsNew(t *testing.T) {
	for _, levels := range samples {
		// Spare room, of which nothing may be handed out.
		room := append(slices.Clone(levels), 1, 1, 1)
		classes := repeat(len(room), api.L)
		before := slices.Clone(room)
		levels = room[:len(levels)]
		eachStretch(len(levels), func(from, to int) {
			line, _ := Line(classes[:len(levels)], levels, 0, from, to)
			again, _ := Line(classes[:len(levels)], levels, 0, from, to)
			_ = append(line, -9, -9)
			spoil(line)
			if !slices.Equal(room, before) || !slices.Equal(again, before[from:to]) || slices.Max(classes) != api.L || slices.Min(classes) != api.L {
				t.Errorf("Line: %v has become %v, %v", before, room, again)
			}
		})
		order, other := mustOrder(t, levels), mustOrder(t, levels)
		_ = append(order, -9, -9)
		spoil(order)
		if !slices.Equal(room, before) || !slices.Equal(other, orderByWords(levels)) {
			t.Errorf("Order: %v has become %v, %v", before, room, other)
		}
		rest := append(slices.Clone(other), -7, -7)
		columns, e := Columns(rest[:len(other)], len(levels))
		_ = append(columns, -9, -9)
		spoil(columns)
		if e != api.OK || !slices.Equal(rest, append(other, -7, -7)) {
			t.Errorf("Columns: %v has become %v, %d", other, rest, e)
		}
	}
}

func TestRule4RunsShareNothing(t *testing.T) {
	for _, levels := range samples {
		room := append(slices.Clone(levels), 1, 1, 1)
		before := slices.Clone(room)
		levels = room[:len(levels)]
		want := runsByWords(orderByWords(levels), levels)
		for k := range want {
			runs, _ := Runs(levels)
			again, _ := Runs(levels)
			_ = append(runs[k], -9, -9)
			spoil(runs[k])
			for at, run := range runs {
				if at != k && !slices.Equal(run, want[at]) {
					t.Errorf("Runs(%v): the run %d has become %v by the run %d", levels, at, run, k)
				}
			}
			if !slices.Equal(room, before) || !slices.EqualFunc(again, want, slices.Equal) {
				t.Errorf("Runs: %v has become %v, %v", before, room, again)
			}
		}
	}
}

func TestRule4WhatIsHandedInIsNotKept(t *testing.T) {
	c, levels, order := list(api.R, api.WS, api.R), list(1, 2, 1), list(2, 0)
	line, _ := Line(c, levels, 0, 0, 3)
	told := mustOrder(t, levels)
	runs, _ := Runs(levels)
	columns, _ := Columns(order, 3)
	spoil(c)
	spoil(levels)
	spoil(order)
	if !slices.Equal(line, list(1, 2, 1)) || !slices.Equal(told, list(2, 1, 0)) || !slices.Equal(columns, list(1, -1, 0)) || len(runs) != 3 {
		t.Errorf("they have become %v, %v, %v, %v", line, told, columns, runs)
	}
	// What was kept of a call would be seen in the next one.
	checkLine(t, list(api.R, api.WS, api.S), list(1, 2, 1), 0, 0, 3, list(1, 0, 0))
	checkOrder(t, list(0, 0), list(0, 1))
	checkRuns(t, list(0, 0), list(0, 1))
	checkColumns(t, list(0), 3, list(0, -1, -1))
}
