package isolate

import (
	"math"
	"slices"
	"testing"

	"colophon/api"
)

// initiators are the classes of the three kinds of them.
var initiators = []int{api.LRI, api.RLI, api.FSI}

// strong are the classes that tell a direction.
var strong = []int{api.L, api.R, api.AL}

// noClasses are numbers that are no classes, some of which have the lower bits of one, or are one below 0.
var noClasses = []int{
	math.MinInt, math.MinInt + api.LRI, math.MinInt + api.PDI, math.MinInt + api.R, -256 + api.LRI, -256 + api.PDI, -256 + api.R,
	-api.PDI, -api.FSI, -api.RLI, -api.LRI, -api.AL, -api.R, -api.L, -1, 0, 24, 25,
	32 + api.R, 32 + api.LRI, 32 + api.PDI, 64 + api.L, 128 + api.R, 128 + api.RLI, 256 + api.L, 256 + api.AL, 256 + api.LRI, 256 + api.FSI, 256 + api.PDI,
	1<<16 + api.R, 1<<16 + api.RLI, 1<<16 + api.PDI, 1<<32 + api.L, 1<<32 + api.R, 1<<32 + api.AL, 1<<32 + api.LRI, 1<<32 + api.RLI, 1<<32 + api.FSI, 1<<32 + api.PDI,
	math.MaxInt - 1, math.MaxInt,
}

// outside are numbers that are far from being a place.
var outside = []int{math.MinInt, math.MinInt + 1, math.MinInt32, -4097, -2, -1, math.MaxInt32, 1 << 40, math.MaxInt - 1, math.MaxInt}

// lists have isolates of all kinds, and places of all kinds ahead of them, in them and behind them.
var lists = [][]int{
	nil,
	{},
	{api.LRI}, {api.RLI}, {api.FSI}, {api.PDI},
	{api.LRI, api.L, api.PDI, api.R},
	{api.RLI, api.R},
	{api.PDI, api.AL},
	{api.LRI, api.PDI}, {api.PDI, api.LRI}, {api.PDI, api.FSI, api.PDI, api.PDI},
	{api.RLI, api.R, api.PDI, api.LRI, api.AL, api.PDI, api.FSI, api.R, api.PDI, api.L},
	{api.RLI, api.PDI, api.LRI, api.PDI, api.FSI, api.PDI, api.R},
	{api.LRI, api.FSI, api.L, api.PDI, api.PDI, api.R},
	{api.LRI, api.R, api.FSI, api.L, api.RLI, api.AL, api.PDI, api.L, api.PDI, api.R, api.PDI, api.AL},
	{api.LRI, api.RLI, api.R, api.PDI, api.L}, {api.LRI, api.RLI, api.R, api.PDI, api.FSI, api.L},
	{api.PDI, api.PDI, api.RLI, api.LRI, api.PDI, api.PDI, api.PDI, api.AL, api.FSI},
	{api.EN, api.WS, api.ON, api.S, api.NSM, api.B}, {api.EN, api.FSI, api.R, api.PDI, api.AN, api.R},
	{api.LRE, api.LRI, api.RLE, api.PDF, api.RLO, api.PDI, api.PDF, api.LRO, api.R, api.BN},
	{api.RLI, api.B, api.PDI, api.B, api.L},
	{api.L, api.R}, {api.R, api.L}, {api.AL, api.L}, {api.L, api.AL}, {api.ON, api.L, api.LRI, api.R}, {api.FSI, api.L, api.PDI},
	{0, api.LRI, -1, api.PDI, 24, math.MinInt, api.R, math.MaxInt}, {math.MaxInt, math.MinInt},
}

// listsOf calls do with each list of some of these numbers that is no longer than length.
func listsOf(numbers []int, length int, do func([]int)) {
	var more func(l []int)
	more = func(l []int) {
		do(slices.Clone(l))
		if len(l) == length {
			return
		}
		for _, n := range numbers {
			more(append(l, n))
		}
	}
	more(make([]int, 0, length))
}

// eachList calls do with the lists above, with all small ones, and with lists of numbers that are no classes.
func eachList(do func([]int)) {
	for _, c := range lists {
		do(c)
	}
	listsOf([]int{api.LRI, api.RLI, api.FSI, api.PDI, api.L}, 6, do)
	listsOf([]int{api.LRI, api.PDI}, 12, do)
	listsOf([]int{api.FSI, api.PDI, api.L, api.R, api.AL, api.ON}, 5, do)
	for _, n := range noClasses {
		listsOf([]int{api.RLI, api.PDI, api.R, n}, 4, do)
	}
}

// pdiByWords is the PDI of the initiator at i, or -1: at each place behind it the initiators and the PDIs up to there are counted anew.
func pdiByWords(c []int, i int) int {
	for j := i + 1; j < len(c); j++ {
		begun, ended := 0, 0
		for _, class := range c[i : j+1] {
			if slices.Contains(initiators, class) {
				begun++
			}
			if class == api.PDI {
				ended++
			}
		}
		if begun == ended {
			return j
		}
	}
	return -1
}

func matchByWords(c []int) []int {
	match := make([]int, len(c))
	for i, class := range c {
		match[i] = i
		if class == api.PDI {
			match[i] = -1
		}
	}
	for i, class := range c {
		if !slices.Contains(initiators, class) {
			continue
		}
		match[i] = len(c)
		if j := pdiByWords(c, i); j >= 0 {
			match[i], match[j] = j, i
		}
	}
	return match
}

func depthByWords(c []int) []int {
	depth := make([]int, len(c))
	for i, class := range c {
		if !slices.Contains(initiators, class) {
			continue
		}
		end := pdiByWords(c, i)
		if end < 0 {
			end = len(c)
		}
		for j := i + 1; j < end; j++ {
			depth[j]++
		}
	}
	return depth
}

func baseByWords(c []int, from, to int) int {
	own := slices.Clone(c[from:to])
	for i, depth := range depthByWords(own) {
		if depth == 0 && slices.Contains(strong, own[i]) {
			if own[i] == api.L {
				return 0
			}
			return 1
		}
	}
	return 0
}

// repeat is a list in which these numbers stand n times.
func repeat(n int, numbers ...int) []int { return slices.Repeat(numbers, n) }

func checkMatch(t *testing.T, c, want []int) {
	t.Helper()
	if m := Match(c); !slices.Equal(m, want) {
		t.Errorf("Match(%v): %v; wanted %v", c, m, want)
	}
}

func checkDepth(t *testing.T, c, want []int) {
	t.Helper()
	if d := Depth(c); !slices.Equal(d, want) {
		t.Errorf("Depth(%v): %v; wanted %v", c, d, want)
	}
}

func checkBase(t *testing.T, c []int, from, to, want int, wantE api.Errno) {
	t.Helper()
	n, e := Base(c, from, to)
	if n == want && e == wantE {
		return
	}
	if len(c) > 100 {
		t.Errorf("Base of %d classes, %d, %d: %d, %d; wanted %d, %d", len(c), from, to, n, e, want, wantE)
		return
	}
	t.Errorf("Base(%v, %d, %d): %d, %d; wanted %d, %d", c, from, to, n, e, want, wantE)
}

func TestP6_1AsTheExamplesHaveIt(t *testing.T) {
	for _, x := range []struct{ c, match, depth []int }{
		{[]int{api.LRI, api.L, api.PDI, api.R}, []int{2, 1, 0, 3}, []int{0, 1, 0, 0}},
		{[]int{api.RLI, api.R}, []int{2, 1}, []int{0, 1}},
		{[]int{api.PDI, api.AL}, []int{-1, 1}, []int{0, 0}},
		{nil, nil, nil},
		{[]int{}, nil, nil},
		{[]int{api.LRI}, []int{1}, []int{0}},
		{[]int{api.PDI}, []int{-1}, []int{0}},
		{[]int{api.PDI, api.PDI}, []int{-1, -1}, []int{0, 0}},
		{[]int{api.FSI, api.FSI, api.FSI}, []int{3, 3, 3}, []int{0, 1, 2}},
		{[]int{api.PDI, api.LRI}, []int{-1, 2}, []int{0, 0}},
		// One within another.
		{[]int{api.LRI, api.FSI, api.L, api.PDI, api.PDI, api.R}, []int{4, 3, 2, 1, 0, 5}, []int{0, 1, 2, 1, 0, 0}},
		// One right behind another.
		{[]int{api.LRI, api.PDI, api.RLI, api.R, api.PDI, api.FSI, api.PDI}, []int{1, 0, 4, 3, 2, 6, 5}, []int{0, 0, 0, 1, 0, 0, 0}},
		// The one inside has the PDI, the one around it has none.
		{[]int{api.RLI, api.LRI, api.R, api.PDI, api.L}, []int{5, 3, 2, 1, 4}, []int{0, 1, 2, 1, 1}},
		// One PDI too many, and then another isolate.
		{[]int{api.FSI, api.PDI, api.PDI, api.LRI, api.PDI, api.PDI}, []int{1, 0, -1, 4, 3, -1}, []int{0, 0, 0, 0, 0, 0}},
		// Neither embeddings nor a separator end an isolate.
		{[]int{api.RLI, api.PDF, api.B, api.RLE, api.PDI, api.PDF}, []int{4, 1, 2, 3, 0, 5}, []int{0, 1, 1, 1, 0, 0}},
	} {
		checkMatch(t, x.c, x.match)
		checkDepth(t, x.c, x.depth)
	}
}

func TestP6_1EachKindOfInitiatorIsOne(t *testing.T) {
	for _, kind := range initiators {
		checkMatch(t, []int{api.ON, kind, api.R, api.PDI, api.L}, []int{0, 3, 2, 1, 4})
		checkDepth(t, []int{api.ON, kind, api.R, api.PDI, api.L}, []int{0, 0, 1, 0, 0})
		checkMatch(t, []int{kind, api.R}, []int{2, 1})
		for _, other := range initiators {
			checkMatch(t, []int{kind, other, api.PDI, api.PDI}, []int{3, 2, 1, 0})
			checkDepth(t, []int{kind, other, api.PDI, api.PDI}, []int{0, 1, 1, 0})
			checkMatch(t, []int{kind, other, api.PDI}, []int{3, 2, 1})
			checkDepth(t, []int{kind, other, api.PDI}, []int{0, 1, 1})
			checkMatch(t, []int{kind, api.PDI, other, api.PDI}, []int{1, 0, 3, 2})
		}
	}
}

func TestP6_1NothingElseBeginsOrEndsAnIsolate(t *testing.T) {
	others := slices.Clone(noClasses)
	for class := api.L; class < api.LRI; class++ {
		others = append(others, class)
	}
	for _, n := range others {
		checkMatch(t, []int{n, n, api.PDI}, []int{0, 1, -1})
		checkDepth(t, []int{n, n, api.PDI}, []int{0, 0, 0})
		checkMatch(t, []int{api.LRI, n, n, api.PDI, n}, []int{3, 1, 2, 0, 4})
		checkDepth(t, []int{api.LRI, n, n, api.PDI, n}, []int{0, 1, 1, 0, 0})
	}
}

func TestP6_1AsTheWordsHaveIt(t *testing.T) {
	eachList(func(c []int) {
		checkMatch(t, c, matchByWords(c))
		checkDepth(t, c, depthByWords(c))
	})
}

// far is how long the long lists are; going through one anew at each of its places would take far too long.
const far = 1 << 20

func TestP6_1InitiatorsWithoutEnd(t *testing.T) {
	c := repeat(far, api.LRI)
	match, depth := Match(c), Depth(c)
	if len(match) != far || len(depth) != far {
		t.Fatalf("%d, %d", len(match), len(depth))
	}
	for i := range c {
		if match[i] != far || depth[i] != i {
			t.Fatalf("at %d: %d, %d", i, match[i], depth[i])
		}
	}
}

func TestP6_1PDIsWithoutEnd(t *testing.T) {
	c := repeat(far, api.PDI)
	match, depth := Match(c), Depth(c)
	if len(match) != far || len(depth) != far {
		t.Fatalf("%d, %d", len(match), len(depth))
	}
	for i := range c {
		if match[i] != -1 || depth[i] != 0 {
			t.Fatalf("at %d: %d, %d", i, match[i], depth[i])
		}
	}
}

func TestP6_1AsDeepAsLong(t *testing.T) {
	for _, more := range []int{-5, 0, 5} {
		// So many initiators around one letter, and more PDIs than that, or fewer.
		c := slices.Concat(repeat(far/3, api.LRI, api.RLI, api.FSI), []int{api.R}, repeat(far/3*3+more, api.PDI))
		middle := far / 3 * 3
		match, depth := Match(c), Depth(c)
		if len(match) != len(c) || len(depth) != len(c) {
			t.Fatalf("%d, %d", len(match), len(depth))
		}
		for i := range c {
			wantMatch, wantDepth := 2*middle-i, middle-max(i-middle, middle-i)
			switch {
			case i == middle:
				wantDepth = middle
			case i < middle:
				wantMatch = min(wantMatch, len(c))
			case wantMatch < 0:
				wantMatch, wantDepth = -1, 0
			}
			if match[i] != wantMatch || depth[i] != wantDepth {
				t.Fatalf("%d more, at %d: %d, %d; wanted %d, %d", more, i, match[i], depth[i], wantMatch, wantDepth)
			}
		}
	}
}

func TestP6_1ManyBehindOneAnother(t *testing.T) {
	c := slices.Concat([]int{api.FSI}, repeat(far, api.LRI, api.L, api.PDI))
	match, depth := Match(c), Depth(c)
	if match[0] != len(c) || depth[0] != 0 {
		t.Fatalf("the first one: %d, %d", match[0], depth[0])
	}
	for i := 1; i < len(c); i += 3 {
		if !slices.Equal(match[i:i+3], []int{i + 2, i + 1, i}) || !slices.Equal(depth[i:i+3], []int{1, 2, 1}) {
			t.Fatalf("at %d: %v, %v", i, match[i:i+3], depth[i:i+3])
		}
	}
}

func TestP6_2AsTheExamplesHaveIt(t *testing.T) {
	for _, x := range []struct {
		c    []int
		want int
	}{
		{[]int{api.LRI, api.L, api.PDI, api.R}, 1}, {[]int{api.RLI, api.R}, 0}, {[]int{api.PDI, api.AL}, 1},
		{nil, 0}, {[]int{}, 0}, {[]int{api.L}, 0}, {[]int{api.R}, 1}, {[]int{api.AL}, 1},
		// The first one tells.
		{[]int{api.L, api.R}, 0}, {[]int{api.R, api.L}, 1}, {[]int{api.AL, api.L}, 1}, {[]int{api.L, api.AL}, 0},
		{[]int{api.EN, api.ON, api.L, api.R}, 0}, {[]int{api.AN, api.WS, api.AL, api.L}, 1},
		// There is none.
		{[]int{api.EN, api.AN, api.ON, api.WS, api.B, api.S, api.RLE, api.RLO, api.PDF}, 0},
		{[]int{api.RLI, api.PDI}, 0}, {[]int{api.RLI}, 0}, {[]int{api.PDI}, 0}, {[]int{api.RLE, api.RLO, api.AN}, 0},
		// What lies in an isolate is left out, and what lies behind it is not.
		{[]int{api.RLI, api.R, api.PDI}, 0}, {[]int{api.LRI, api.R, api.PDI, api.L}, 0}, {[]int{api.FSI, api.L, api.PDI, api.AL}, 1},
		{[]int{api.RLI, api.R, api.PDI, api.FSI, api.AL, api.PDI, api.L, api.R}, 0},
		{[]int{api.LRI, api.FSI, api.L, api.PDI, api.L, api.PDI, api.R}, 1}, {[]int{api.LRI, api.FSI, api.PDI, api.R}, 0},
		{[]int{api.LRI, api.FSI, api.R, api.PDI, api.R, api.L}, 0},
		{[]int{api.R, api.LRI, api.L, api.PDI}, 1}, {[]int{api.ON, api.AL, api.LRI, api.L}, 1},
		{[]int{api.PDI, api.PDI, api.LRI, api.L, api.PDI, api.PDI, api.R}, 1},
		// Neither embeddings nor a separator end an isolate, or leave anything out.
		{[]int{api.LRE, api.R}, 1}, {[]int{api.LRI, api.B, api.R}, 0}, {[]int{api.B, api.R}, 1}, {[]int{api.FSI, api.PDF, api.R}, 0},
	} {
		checkBase(t, x.c, 0, len(x.c), x.want, api.OK)
	}
}

func TestP6_2OfAPart(t *testing.T) {
	c := []int{api.R, api.ON, api.LRI, api.AL, api.PDI, api.L, api.PDI, api.R}
	for _, x := range [][3]int{
		{0, 8, 1}, {0, 1, 1}, {0, 0, 0}, {8, 8, 0}, {3, 3, 0},
		// R lies ahead of from.
		{1, 8, 0}, {1, 6, 0}, {1, 5, 0}, {1, 2, 0},
		// The initiator lies ahead of from, so that there is no isolate.
		{3, 8, 1}, {3, 4, 1}, {4, 8, 0}, {4, 5, 0}, {6, 8, 1}, {6, 7, 0},
		// The PDI lies from to on, or to lies at it, or right behind it.
		{2, 4, 0}, {2, 5, 0}, {2, 6, 0}, {2, 3, 0}, {5, 6, 0}, {7, 8, 1},
	} {
		checkBase(t, c, x[0], x[1], x[2], api.OK)
	}
	c = []int{api.LRI, api.L, api.PDI, api.R}
	for _, x := range [][3]int{{0, 4, 1}, {0, 3, 0}, {1, 4, 0}, {2, 4, 1}, {3, 4, 1}} {
		checkBase(t, c, x[0], x[1], x[2], api.OK)
	}
	// Where from lies behind RLI, R lies in no isolate; where to lies ahead of RLI's PDI, all behind RLI does.
	c = []int{api.RLI, api.FSI, api.L, api.PDI, api.R, api.PDI, api.AL}
	for _, x := range [][3]int{{0, 7, 1}, {0, 5, 0}, {0, 6, 0}, {1, 7, 1}, {1, 3, 0}, {1, 5, 1}, {2, 7, 0}, {3, 5, 1}} {
		checkBase(t, c, x[0], x[1], x[2], api.OK)
	}
}

func TestP6_2OfEachPartOfEachList(t *testing.T) {
	eachPart := func(c []int) {
		for from := range len(c) + 1 {
			for to := from; to <= len(c); to++ {
				checkBase(t, c, from, to, baseByWords(c, from, to), api.OK)
			}
		}
	}
	for _, c := range lists {
		eachPart(c)
	}
	listsOf([]int{api.LRI, api.RLI, api.FSI, api.PDI, api.L, api.R, api.AL, api.ON}, 4, eachPart)
	listsOf([]int{api.LRI, api.PDI, api.L, api.R}, 6, eachPart)
	for _, n := range noClasses {
		listsOf([]int{api.FSI, api.PDI, api.AL, n}, 4, eachPart)
	}
}

func TestP6_2EachNumberByItself(t *testing.T) {
	numbers := slices.Clone(noClasses)
	for class := api.L; class <= api.PDI; class++ {
		numbers = append(numbers, class)
	}
	for _, n := range numbers {
		one, beforeR := 0, 1
		switch n {
		case api.R, api.AL:
			one = 1
		case api.L, api.LRI, api.RLI, api.FSI:
			beforeR = 0
		}
		checkBase(t, []int{n}, 0, 1, one, api.OK)
		checkBase(t, []int{n, api.R}, 0, 2, beforeR, api.OK)
	}
}

func TestP6_2Outside(t *testing.T) {
	check := func(c []int) {
		n := len(c)
		for _, x := range [][2]int{
			{-1, 0}, {-1, n}, {-1, -1}, {-2, -1}, {0, n + 1}, {n, n + 1}, {n + 1, n + 1}, {n + 1, n}, {n + 1, 0}, {1, 0}, {0, -1}, {n + 2, n + 1}, {-1, n + 1},
			{math.MinInt, math.MaxInt}, {math.MaxInt, math.MinInt}, {math.MaxInt, math.MaxInt}, {math.MinInt, math.MinInt},
		} {
			checkBase(t, c, x[0], x[1], 0, api.ErrRange)
		}
		for _, far := range outside {
			checkBase(t, c, far, n, 0, api.ErrRange)
			checkBase(t, c, 0, far, 0, api.ErrRange)
			checkBase(t, c, far, far, 0, api.ErrRange)
		}
		for from := range n + 1 {
			for to := range from {
				checkBase(t, c, from, to, 0, api.ErrRange)
			}
		}
	}
	for _, c := range lists {
		check(c)
	}
	// Each place alone would tell 1.
	check([]int{api.R, api.AL, api.R})
	room := []int{api.ON, api.R, api.AL}
	checkBase(t, room[:1], 0, 2, 0, api.ErrRange)
	checkBase(t, room[:1], 1, 2, 0, api.ErrRange)
}

func TestP6_2OfLongLists(t *testing.T) {
	deep := slices.Concat(repeat(far, api.FSI), []int{api.L}, repeat(far, api.PDI), []int{api.R})
	checkBase(t, deep, 0, len(deep), 1, api.OK)
	checkBase(t, deep, 1, len(deep), 1, api.OK)
	checkBase(t, deep, far, len(deep), 0, api.OK)
	checkBase(t, deep, 0, len(deep)-1, 0, api.OK)
	short := slices.Concat(repeat(far, api.FSI), []int{api.R}, repeat(far-1, api.PDI), []int{api.R})
	checkBase(t, short, 0, len(short), 0, api.OK)
	checkBase(t, short, 1, len(short), 1, api.OK)
	checkBase(t, repeat(far, api.RLI), 0, far, 0, api.OK)
	wide := slices.Concat(repeat(far, api.LRI, api.L, api.PDI, api.PDI), []int{api.AL})
	checkBase(t, wide, 0, len(wide), 1, api.OK)
	checkBase(t, wide, 0, len(wide)-1, 0, api.OK)
}

func TestP6_3InitiatorsAndPDIsTellOneAnother(t *testing.T) {
	eachList(func(c []int) {
		match := Match(c)
		for i, m := range match {
			switch {
			case slices.Contains(initiators, c[i]):
				if m <= i || m > len(c) || m < len(c) && (c[m] != api.PDI || match[m] != i) {
					t.Errorf("Match(%v): %v: the initiator at %d has no PDI that tells it", c, match, i)
				}
			case c[i] == api.PDI:
				if m < -1 || m >= i || m >= 0 && (!slices.Contains(initiators, c[m]) || match[m] != i) {
					t.Errorf("Match(%v): %v: the PDI at %d has no initiator that tells it", c, match, i)
				}
			case m != i:
				t.Errorf("Match(%v): %v: at %d", c, match, i)
			}
		}
	})
}

func TestP6_3NoPairsCross(t *testing.T) {
	eachList(func(c []int) {
		match := Match(c)
		for i, end := range match {
			if end <= i {
				continue
			}
			// What lies between the two of a pair has its other one there, too; without a PDI at the end, all behind lies there.
			for j := i + 1; j < min(end, len(c)); j++ {
				if match[j] <= i || match[j] > end || match[j] == end && end < len(c) {
					t.Errorf("Match(%v): %v: the pair of %d crosses that of %d", c, match, j, i)
				}
			}
		}
	})
}

func TestP6_3HowDeepPairsLie(t *testing.T) {
	eachList(func(c []int) {
		match, depth := Match(c), Depth(c)
		for i, end := range match {
			if end <= i {
				continue
			}
			if end < len(c) && depth[end] != depth[i] {
				t.Errorf("Depth(%v): %v: an initiator at %d, its PDI at %d", c, depth, i, end)
			}
			for j := i + 1; j < end; j++ {
				if depth[j] <= depth[i] {
					t.Errorf("Depth(%v): %v: %d lies in the isolate of %d", c, depth, j, i)
				}
			}
		}
		for i, m := range match {
			if m == -1 && depth[i] != 0 {
				t.Errorf("Depth(%v): %v: the PDI at %d would end an isolate", c, depth, i)
			}
		}
	})
}

// filled is a list in which other places stand in the outermost isolates.
func filled(c, inside []int) []int {
	var out []int
	depth := Depth(c)
	for i, class := range c {
		if depth[i] > 0 {
			continue
		}
		out = append(out, class)
		if slices.Contains(initiators, class) {
			out = append(out, inside...)
		}
	}
	return out
}

func TestP6_3BaseDoesNotHangOnWhatLiesInIsolates(t *testing.T) {
	fills := [][]int{
		nil, {api.L}, {api.R}, {api.AL}, {api.L, api.R}, {api.R, api.L}, {api.ON, 0, -1, 24, math.MaxInt},
		{api.FSI, api.R, api.PDI}, {api.RLI, api.PDI, api.L}, {api.RLI, api.LRI, api.R, api.PDI, api.R, api.PDI, api.R},
	}
	eachList(func(c []int) {
		want, e := Base(c, 0, len(c))
		if e != api.OK {
			t.Errorf("Base(%v): %d", c, e)
		}
		for _, inside := range fills {
			other := filled(c, inside)
			checkBase(t, other, 0, len(other), want, api.OK)
		}
	})
}

func TestRule4WhatIsHandedInStaysAsItIs(t *testing.T) {
	room := []int{api.LRI, api.FSI, api.L, api.PDI, api.R, api.PDI, api.AL, 77}
	before := slices.Clone(room)
	for k := range len(room) + 1 {
		Match(room[:k])
		Depth(room[:k])
		Base(room[:k], 0, k)
		Base(room[:k], 1, k)
		Base(room[:k], 0, k+1)
	}
	if !slices.Equal(room, before) {
		t.Errorf("the classes have become %v", room)
	}
}

func TestRule8WhatLiesBehindALengthIsNotRead(t *testing.T) {
	room := []int{api.LRI, api.R, api.PDI, api.R}
	checkMatch(t, room[:2], []int{2, 1})
	checkDepth(t, room[:2], []int{0, 1})
	checkBase(t, room[:2], 0, 2, 0, api.OK)
	checkBase(t, room[:3], 0, 3, 0, api.OK)
	checkBase(t, room[:0], 0, 0, 0, api.OK)
}

// spoil writes over a list, its spare room too.
func spoil(l []int) {
	l = l[:cap(l)]
	for i := range l {
		l[i] = -5
	}
}

func TestRule4WhatIsHandedOutIsNew(t *testing.T) {
	for _, c := range lists {
		before := slices.Clone(c)
		match, depth := Match(c), Depth(c)
		spoil(match)
		if !slices.Equal(depth, depthByWords(c)) {
			t.Errorf("Depth(%v) has become %v", c, depth)
		}
		spoil(depth)
		if !slices.Equal(c, before) {
			t.Errorf("%v has become %v", before, c)
		}
		checkMatch(t, c, matchByWords(c))
		checkDepth(t, c, depthByWords(c))
	}
}

func TestRule4WhatIsHandedInIsNotKept(t *testing.T) {
	c := []int{api.LRI, api.L, api.PDI, api.R}
	match, depth := Match(c), Depth(c)
	spoil(c)
	if !slices.Equal(match, []int{2, 1, 0, 3}) || !slices.Equal(depth, []int{0, 1, 0, 0}) {
		t.Errorf("Match, Depth: %v, %v", match, depth)
	}
	checkMatch(t, c, []int{0, 1, 2, 3})
	checkBase(t, c, 0, 4, 0, api.OK)
}
