package runs

import (
	"math"
	"slices"
	"testing"

	"colophon/api"
	"colophon/explicit"
)

var (
	initiators = []int{api.RLI, api.LRI, api.FSI}
	removed    = []int{api.RLE, api.LRE, api.RLO, api.LRO, api.PDF, api.BN}
)

// noClasses are numbers that are no classes, some of which have the lower bits of one.
var noClasses = []int{
	math.MinInt, math.MinInt + api.L, -256 + api.R, -api.PDI, -api.RLI, -1, 0, 24, 25, 32 + api.R, 64 + api.PDI, 256 + api.L, 1<<16 + api.B, 1<<32 + api.RLI, math.MaxInt - 1, math.MaxInt,
}

// wrongBases are numbers that are no base levels.
var wrongBases = []int{math.MinInt, math.MinInt + 1, math.MinInt32, -256, -2, -1, 2, 3, 125, 126, 256, 257, 1 << 32, 1<<32 + 1, math.MaxInt - 1, math.MaxInt}

// allClassesButB are those of api, one by one, without B, which may stand last alone.
func allClassesButB() []int {
	var l []int
	for class := api.L; class <= api.PDI; class++ {
		if class != api.B {
			l = append(l, class)
		}
	}
	return l
}

// repeat is a list in which these numbers stand n times.
func repeat(n int, numbers ...int) []int { return slices.Repeat(numbers, n) }

// list puts lists together.
func list(parts ...[]int) []int { return slices.Concat(parts...) }

// from are n numbers, from one on.
func from(first, n int) []int {
	l := make([]int, n)
	for i := range l {
		l[i] = first + i
	}
	return l
}

// listsOf calls do with each list of some of these numbers that is no longer than length.
func listsOf(numbers []int, length int, do func([]int)) {
	var more func(l []int)
	more = func(l []int) {
		do(slices.Clone(l))
		if len(l) == length {
			return
		}
		for _, n := range numbers {
			more(append(l, n))
		}
	}
	more(make([]int, 0, length))
}

// mixed are long lists of some of these numbers, always the same ones.
func mixed(numbers []int, count, length int, do func([]int)) {
	seed := uint64(7)
	for range count {
		l := make([]int, length)
		for i := range l {
			seed = seed*6364136223846793005 + 1442695040888963407
			l[i] = numbers[int(seed>>33)%len(numbers)]
		}
		do(l)
	}
}

// lists are paragraphs with isolates, embeddings and overrides of all kinds.
var lists = [][]int{
	nil, {}, {api.L}, {api.B}, {api.PDI}, {api.RLI}, {api.BN}, {api.RLE, api.PDF},
	{api.L, api.RLI, api.R, api.PDI, api.L}, {api.RLI, api.R, api.PDI, api.LRI, api.L, api.PDI},
	{api.L, api.RLI, api.AL, api.LRI, api.EN, api.PDI, api.R, api.PDI, api.L, api.B},
	{api.RLE, api.L, api.PDF, api.L}, {api.LRO, api.FSI, api.R, api.PDF, api.PDI, api.BN, api.R, api.PDF, api.L, api.B},
	{api.RLI, api.LRE, api.R, api.PDI, api.RLO, api.FSI, api.BN, api.AL, api.PDI, api.ON, api.PDF, api.S, api.B},
	{api.PDI, api.BN, api.RLI, api.PDF, api.PDI, api.PDI, api.LRE, api.ON, api.LRI, api.WS},
	{api.R, api.LRI, api.L, api.RLI, api.BN, api.R, api.PDI, api.RLE, api.L, api.PDI, api.PDI, api.L},
}

// deepStarts lead up to the deepest levels, and beyond them, by embeddings, by isolates, and by both in turn.
func deepStarts() [][]int {
	var starts [][]int
	for _, pair := range [][]int{{api.RLE, api.LRE}, {api.RLI, api.LRI}, {api.RLO, api.LRI}, {api.FSI, api.RLE}} {
		for n := 61; n <= 63; n++ {
			starts = append(starts, repeat(n, pair...), list([]int{api.LRE}, repeat(n, pair...)))
		}
	}
	return starts
}

// eachList calls do with the lists above, with all small ones over some choices of classes, with small ones behind deep starts, and with long ones.
func eachList(do func([]int)) {
	for _, c := range lists {
		do(c)
	}
	listsOf(allClassesButB(), 3, do)
	listsOf(allClassesButB(), 2, func(c []int) { do(append(c, api.B)) })
	listsOf([]int{api.RLI, api.LRI, api.PDI, api.L, api.BN}, 6, do)
	listsOf([]int{api.RLI, api.FSI, api.PDI, api.R, api.LRE, api.PDF}, 5, do)
	listsOf([]int{api.LRI, api.PDI, api.RLE, api.LRO, api.PDF, api.ON}, 5, do)
	listsOf([]int{api.RLI, api.LRI, api.PDI, api.RLE}, 6, func(c []int) { do(append(c, api.B)) })
	for _, start := range deepStarts() {
		listsOf([]int{api.RLI, api.LRI, api.PDI, api.RLE, api.PDF, api.R}, 3, func(c []int) { do(list(start, c)) })
		do(list(start, []int{api.L}, repeat(140, api.PDI, api.R)))
		do(list(start, []int{api.LRI, api.L, api.PDI}, repeat(140, api.PDI), []int{api.R, api.B}))
	}
	mixed([]int{api.RLI, api.LRI, api.FSI, api.PDI, api.PDI, api.PDI, api.L, api.R, api.BN}, 20, 300, do)
	mixed([]int{api.RLE, api.LRE, api.RLO, api.PDF, api.RLI, api.LRI, api.PDI, api.PDI, api.AL, api.ON}, 20, 300, do)
	mixed(allClassesButB(), 20, 300, do)
}

// runsByWords takes what is kept, and cuts it wherever the kept place ahead has another level.
func runsByWords(levels []int) [][]int {
	var kept []int
	for i, level := range levels {
		if level >= 0 {
			kept = append(kept, i)
		}
	}
	var all [][]int
	for at := 0; at < len(kept); {
		end := at + 1
		for end < len(kept) && levels[kept[end]] == levels[kept[end-1]] {
			end++
		}
		all = append(all, slices.Clone(kept[at:end]))
		at = end
	}
	return all
}

func isInitiator(class int) bool { return slices.Contains(initiators, class) }

// pdiByWords is the first place behind an initiator up to which as many PDIs stand as initiators, and whether there is one.
func pdiByWords(c []int, initiator int) (int, bool) {
	open := 1
	for i := initiator + 1; i < len(c); i++ {
		if isInitiator(c[i]) {
			open++
		} else if c[i] == api.PDI {
			open--
		}
		if open == 0 {
			return i, true
		}
	}
	return 0, false
}

// pairsByWords are the PDIs of initiators, and the initiators of PDIs.
func pairsByWords(c []int) (pdis, owners map[int]int) {
	pdis, owners = map[int]int{}, map[int]int{}
	for i, class := range c {
		if !isInitiator(class) {
			continue
		}
		if pdi, has := pdiByWords(c, i); has {
			pdis[i], owners[pdi] = pdi, i
		}
	}
	return pdis, owners
}

// keptBy goes from a place on by steps of 1 or -1 to the next kept one, and tells its level; base, if there is none.
func keptBy(levels []int, place, step, base int) int {
	for i := place + step; i >= 0 && i < len(levels); i += step {
		if levels[i] >= 0 {
			return levels[i]
		}
	}
	return base
}

func sideByWords(a, b int) int {
	if a < b {
		a = b
	}
	if a&1 == 1 {
		return api.R
	}
	return api.L
}

func sequencesByWords(c []int, base int) []api.Seq {
	levels, _, e := explicit.Resolve(c, base)
	if e != api.OK {
		panic(e)
	}
	pdis, owners := pairsByWords(c)
	all := runsByWords(levels)
	var out []api.Seq
	for _, run := range all {
		if _, owned := owners[run[0]]; owned {
			continue
		}
		places := slices.Clone(run)
		for {
			pdi, has := pdis[places[len(places)-1]]
			if !has {
				break
			}
			k := slices.IndexFunc(all, func(other []int) bool { return other[0] == pdi })
			places = append(places, all[k]...)
		}
		first, last := places[0], places[len(places)-1]
		level := levels[first]
		behind := base
		if !isInitiator(c[last]) {
			behind = keptBy(levels, last, 1, base)
		}
		out = append(out, api.Seq{Places: places, Level: level, Sos: sideByWords(level, keptBy(levels, first, -1, base)), Eos: sideByWords(level, behind)})
	}
	return out
}

func sameRuns(a, b [][]int) bool {
	return slices.EqualFunc(a, b, func(x, y []int) bool { return slices.Equal(x, y) })
}

func sameSequences(a, b []api.Seq) bool {
	return slices.EqualFunc(a, b, func(x, y api.Seq) bool {
		return slices.Equal(x.Places, y.Places) && x.Level == y.Level && x.Sos == y.Sos && x.Eos == y.Eos
	})
}

func checkLevels(t *testing.T, levels []int, want ...[]int) {
	t.Helper()
	if got := Levels(levels); !sameRuns(got, want) {
		t.Fatalf("Levels(%v): %v; wanted %v", levels, got, want)
	}
}

// seq is a sequence: its level, what stands ahead of it and behind it, its places.
func seq(level, sos, eos int, places ...int) api.Seq {
	return api.Seq{Places: places, Level: level, Sos: sos, Eos: eos}
}

func check(t *testing.T, c []int, base int, want ...api.Seq) {
	t.Helper()
	if got, e := Sequences(c, base); e != api.OK || !sameSequences(got, want) {
		t.Fatalf("Sequences(%v, %d): %v, %d; wanted %v", c, base, got, e, want)
	}
}

func checkError(t *testing.T, c []int, base int, want api.Errno) {
	t.Helper()
	if got, e := Sequences(c, base); len(got) != 0 || e != want {
		t.Fatalf("Sequences(%v, %d): %v, %d; wanted the error %d", c, base, got, e, want)
	}
}

// mustSequences are those of a list of which there is no error.
func mustSequences(t *testing.T, c []int, base int) []api.Seq {
	t.Helper()
	all, e := Sequences(c, base)
	if e != api.OK {
		t.Fatalf("Sequences(%v, %d): %d", c, base, e)
	}
	return all
}

// mustResolve are the levels of a list of which there is no error.
func mustResolve(t *testing.T, c []int, base int) []int {
	t.Helper()
	levels, _, e := explicit.Resolve(c, base)
	if e != api.OK {
		t.Fatalf("Resolve(%v, %d): %d", c, base, e)
	}
	return levels
}

func TestP8_1AsTheExampleHasIt(t *testing.T) {
	checkLevels(t, []int{0, 0, -1, 0, 1, 1, 0}, []int{0, 1, 3}, []int{4, 5}, []int{6})
}

func TestP8_1Edges(t *testing.T) {
	checkLevels(t, nil)
	checkLevels(t, []int{})
	checkLevels(t, []int{0}, []int{0})
	checkLevels(t, []int{125}, []int{0})
	// None is kept.
	for _, below := range []int{-1, -2, -125, math.MinInt32, math.MinInt + 1, math.MinInt} {
		checkLevels(t, []int{below})
		checkLevels(t, []int{below, below, -1})
		// What is not kept parts no run, nor is it in one.
		checkLevels(t, []int{below, 3, below, below, 3, below}, []int{1, 4})
		checkLevels(t, []int{3, below, 4, below, 3}, []int{0}, []int{2}, []int{4})
	}
	// Any level may come in.
	for _, level := range []int{0, 1, 2, 3, 124, 125, 126, 255, 256, 1 << 32, math.MaxInt - 1, math.MaxInt} {
		checkLevels(t, []int{level}, []int{0})
		checkLevels(t, []int{level, level, -1, level}, []int{0, 1, 3})
	}
	checkLevels(t, []int{0, 1 << 32, 256, 0}, []int{0}, []int{1}, []int{2}, []int{3})
	checkLevels(t, []int{math.MaxInt, math.MinInt, math.MaxInt, math.MaxInt - 1, 0}, []int{0, 2}, []int{3}, []int{4})
}

func TestP8_1ALevelThatComesAgain(t *testing.T) {
	checkLevels(t, []int{2, -1, 2}, []int{0, 2})
	checkLevels(t, []int{2, -1, -1, -7, 2, 2}, []int{0, 4, 5})
	checkLevels(t, []int{2, 1, 2}, []int{0}, []int{1}, []int{2})
	checkLevels(t, []int{2, -1, 1, -1, 2, -1, 2, 1, 1}, []int{0}, []int{2}, []int{4, 6}, []int{7, 8})
	checkLevels(t, []int{-1, 0, 2, 4, 2, 0}, []int{1}, []int{2}, []int{3}, []int{4}, []int{5})
}

func TestP8_1AsTheWordsHaveIt(t *testing.T) {
	byWords := func(levels []int) { checkLevels(t, levels, runsByWords(levels)...) }
	listsOf([]int{-1, 0, 1, 2}, 7, byWords)
	listsOf([]int{-1, -3, math.MinInt, 0, 1, 125, math.MaxInt}, 5, byWords)
	mixed([]int{-1, 0, 0, 0, 1, 1, 2}, 50, 1000, byWords)
	mixed([]int{-1, -1, -2, 5, 5, 5, 6}, 50, 1000, byWords)
}

// far is how long the long lists are; going through one anew at each of its places would take far too long.
const far = 1 << 20

func TestP8_1OfLongLists(t *testing.T) {
	checkLevels(t, repeat(far, 3), from(0, far))
	checkLevels(t, repeat(far, -1))
	checkLevels(t, list([]int{4}, repeat(far, -1), []int{4}), []int{0, far + 1})
	all := Levels(repeat(far/2, 0, 1))
	if len(all) != far {
		t.Fatalf("%d", len(all))
	}
	for i, run := range all {
		if len(run) != 1 || run[0] != i {
			t.Fatalf("at %d: %v", i, run)
		}
	}
}

func TestP8_2AsTheExamplesHaveIt(t *testing.T) {
	check(t, []int{api.L, api.RLI, api.R, api.PDI, api.L}, 0, seq(0, api.L, api.L, 0, 1, 3, 4), seq(1, api.R, api.R, 2))
	check(t, []int{api.R, api.L}, 1, seq(1, api.R, api.R, 0, 1))
}

func TestP8_2EmptyAndSmall(t *testing.T) {
	sides := []int{api.L, api.R}
	for base := range 2 {
		check(t, nil, base)
		check(t, []int{}, base)
		for _, class := range removed {
			check(t, []int{class}, base)
			check(t, []int{class, api.BN, class, api.PDF, class}, base)
			check(t, []int{class, api.B}, base, seq(base, sides[base], sides[base], 1))
		}
		for class := api.L; class <= api.PDI; class++ {
			if !slices.Contains(removed, class) {
				check(t, []int{class}, base, seq(base, sides[base], sides[base], 0))
			}
		}
	}
}

func TestP8_2InitiatorsAndPDIsWithoutOneAnother(t *testing.T) {
	for _, x := range []struct {
		c    []int
		base int
		want []api.Seq
	}{
		// Without a PDI: what lies in the isolate is a sequence of its own, and base stands behind the initiator.
		{[]int{api.L, api.RLI, api.R}, 0, []api.Seq{seq(0, api.L, api.L, 0, 1), seq(1, api.R, api.R, 2)}},
		{[]int{api.L, api.RLI}, 0, []api.Seq{seq(0, api.L, api.L, 0, 1)}},
		{[]int{api.R, api.LRI, api.L}, 1, []api.Seq{seq(1, api.R, api.R, 0, 1), seq(2, api.L, api.L, 2)}},
		{[]int{api.LRI, api.L, api.B}, 0, []api.Seq{seq(0, api.L, api.L, 0), seq(2, api.L, api.L, 1), seq(0, api.L, api.L, 2)}},
		// A PDI without an initiator is like any other place.
		{[]int{api.PDI, api.L}, 0, []api.Seq{seq(0, api.L, api.L, 0, 1)}},
		{[]int{api.L, api.PDI, api.PDI, api.R}, 1, []api.Seq{seq(1, api.R, api.R, 0, 1, 2, 3)}},
		{[]int{api.RLE, api.L, api.PDF, api.PDI, api.L}, 0, []api.Seq{seq(1, api.R, api.R, 1), seq(0, api.R, api.L, 3, 4)}},
		{[]int{api.LRE, api.PDI, api.RLE, api.PDI, api.R}, 0, []api.Seq{seq(2, api.L, api.R, 1), seq(3, api.R, api.R, 3, 4)}},
		// Of two PDIs the first one is the initiator's, of two initiators the last one has the PDI.
		{[]int{api.RLI, api.R, api.PDI, api.PDI}, 0, []api.Seq{seq(0, api.L, api.L, 0, 2, 3), seq(1, api.R, api.R, 1)}},
		{[]int{api.RLI, api.LRI, api.L, api.PDI, api.R}, 0, []api.Seq{seq(0, api.L, api.L, 0), seq(1, api.R, api.R, 1, 3, 4), seq(2, api.L, api.L, 2)}},
	} {
		check(t, x.c, x.base, x.want...)
	}
}

func TestP8_2SeveralIsolates(t *testing.T) {
	for _, x := range []struct {
		c    []int
		want []api.Seq
	}{
		// One within another.
		{[]int{api.L, api.RLI, api.R, api.LRI, api.L, api.PDI, api.R, api.PDI, api.L},
			[]api.Seq{seq(0, api.L, api.L, 0, 1, 7, 8), seq(1, api.R, api.R, 2, 3, 5, 6), seq(2, api.L, api.L, 4)}},
		{[]int{api.RLI, api.LRI, api.L, api.PDI, api.PDI}, []api.Seq{seq(0, api.L, api.L, 0, 4), seq(1, api.R, api.R, 1, 3), seq(2, api.L, api.L, 2)}},
		{[]int{api.RLI, api.RLI, api.PDI, api.PDI}, []api.Seq{seq(0, api.L, api.L, 0, 3), seq(1, api.R, api.R, 1, 2)}},
		// One behind another.
		{[]int{api.RLI, api.R, api.PDI, api.L, api.LRI, api.L, api.PDI},
			[]api.Seq{seq(0, api.L, api.L, 0, 2, 3, 4, 6), seq(1, api.R, api.R, 1), seq(2, api.L, api.L, 5)}},
		// Next to one another: the PDI and the initiator behind it are one run.
		{[]int{api.RLI, api.R, api.PDI, api.RLI, api.R, api.PDI},
			[]api.Seq{seq(0, api.L, api.L, 0, 2, 3, 5), seq(1, api.R, api.R, 1), seq(1, api.R, api.R, 4)}},
		{[]int{api.RLI, api.R, api.PDI, api.LRI, api.L}, []api.Seq{seq(0, api.L, api.L, 0, 2, 3), seq(1, api.R, api.R, 1), seq(2, api.L, api.L, 4)}},
		// Those that are empty, or hold nothing that is kept, part no run.
		{[]int{api.L, api.RLI, api.PDI, api.L}, []api.Seq{seq(0, api.L, api.L, 0, 1, 2, 3)}},
		{[]int{api.L, api.RLI, api.RLE, api.BN, api.PDF, api.PDI, api.L}, []api.Seq{seq(0, api.L, api.L, 0, 1, 5, 6)}},
		// FSIs.
		{[]int{api.FSI, api.R, api.PDI, api.FSI, api.L, api.PDI}, []api.Seq{seq(0, api.L, api.L, 0, 2, 3, 5), seq(1, api.R, api.R, 1), seq(2, api.L, api.L, 4)}},
	} {
		check(t, x.c, 0, x.want...)
	}
}

func TestP8_2WhatIsRemoved(t *testing.T) {
	check(t, []int{api.BN, api.PDF, api.L, api.BN, api.RLI, api.BN, api.R, api.BN, api.R, api.PDF, api.PDI, api.BN, api.L, api.BN}, 0,
		seq(0, api.L, api.L, 2, 4, 10, 12), seq(1, api.R, api.R, 6, 8))
	// What is kept is sought beyond it, for Sos and for Eos.
	check(t, []int{api.L, api.BN, api.RLE, api.BN, api.L, api.BN, api.PDF, api.BN, api.L}, 0,
		seq(0, api.L, api.R, 0), seq(1, api.R, api.R, 4), seq(0, api.R, api.L, 8))
	// It is no place ahead or behind.
	check(t, []int{api.BN, api.LRE, api.L, api.PDF, api.BN}, 1, seq(2, api.L, api.L, 2))
	// A PDF within an isolate ends nothing around it.
	check(t, []int{api.RLE, api.LRI, api.PDF, api.L, api.PDI, api.L}, 0, seq(1, api.R, api.R, 1, 4, 5), seq(2, api.L, api.L, 3))
}

func TestP8_2EmbeddingsAndIsolates(t *testing.T) {
	for _, x := range []struct {
		c    []int
		base int
		want []api.Seq
	}{
		// Embeddings part runs, and nothing joins them again.
		{[]int{api.L, api.RLE, api.R, api.PDF, api.L}, 0, []api.Seq{seq(0, api.L, api.R, 0), seq(1, api.R, api.R, 2), seq(0, api.R, api.L, 4)}},
		{[]int{api.L, api.RLO, api.R, api.LRO, api.R, api.PDF, api.L, api.PDF, api.L}, 0,
			[]api.Seq{seq(0, api.L, api.R, 0), seq(1, api.R, api.L, 2), seq(2, api.L, api.L, 4), seq(1, api.L, api.R, 6), seq(0, api.R, api.L, 8)}},
		// Embeddings within isolates: an initiator's run is joined with its PDI's beyond all of them.
		{[]int{api.L, api.RLI, api.R, api.LRE, api.L, api.PDF, api.R, api.PDI, api.L}, 0,
			[]api.Seq{seq(0, api.L, api.L, 0, 1, 7, 8), seq(1, api.R, api.L, 2), seq(2, api.L, api.L, 4), seq(1, api.L, api.R, 6)}},
		{[]int{api.RLI, api.LRO, api.R, api.PDI, api.AL}, 0, []api.Seq{seq(0, api.L, api.L, 0, 3, 4), seq(2, api.L, api.L, 2)}},
		// Isolates within embeddings and overrides: initiators and PDIs are told by their classes, not by their types.
		{[]int{api.L, api.RLE, api.R, api.LRI, api.L, api.PDI, api.R, api.PDF, api.L}, 0,
			[]api.Seq{seq(0, api.L, api.R, 0), seq(1, api.R, api.R, 2, 3, 5, 6), seq(2, api.L, api.L, 4), seq(0, api.R, api.L, 8)}},
		{[]int{api.RLO, api.LRI, api.ON, api.PDI, api.ON}, 0, []api.Seq{seq(1, api.R, api.R, 1, 3, 4), seq(2, api.L, api.L, 2)}},
		{[]int{api.LRO, api.RLI, api.ON}, 0, []api.Seq{seq(2, api.L, api.L, 1), seq(3, api.R, api.R, 2)}},
		// An embedding that an isolate leaves open ends with it.
		{[]int{api.LRI, api.RLE, api.L, api.PDI, api.L, api.PDF, api.L}, 1, []api.Seq{seq(1, api.R, api.R, 0, 3, 4, 6), seq(3, api.R, api.R, 2)}},
	} {
		check(t, x.c, x.base, x.want...)
	}
}

func TestP8_2WhatStandsAheadAndBehind(t *testing.T) {
	for _, x := range []struct {
		c    []int
		base int
		want []api.Seq
	}{
		// At the paragraph's ends it is base, where that is greater or lesser: a level is never below it.
		{[]int{api.LRE, api.L}, 0, []api.Seq{seq(2, api.L, api.L, 1)}},
		{[]int{api.LRE, api.L}, 1, []api.Seq{seq(2, api.L, api.L, 1)}},
		{[]int{api.RLE, api.L}, 0, []api.Seq{seq(1, api.R, api.R, 1)}},
		{[]int{api.RLE, api.L}, 1, []api.Seq{seq(3, api.R, api.R, 1)}},
		// The greater one, ahead and behind.
		{[]int{api.L, api.LRE, api.L, api.RLE, api.L, api.PDF, api.PDF, api.L}, 0,
			[]api.Seq{seq(0, api.L, api.L, 0), seq(2, api.L, api.R, 2), seq(3, api.R, api.R, 4), seq(0, api.R, api.L, 7)}},
		{[]int{api.L, api.LRE, api.L, api.PDF, api.RLE, api.L}, 1, []api.Seq{seq(1, api.R, api.L, 0), seq(2, api.L, api.R, 2), seq(3, api.R, api.R, 5)}},
		// Ahead of a sequence lies an initiator, behind it a PDI, both of a lesser level.
		{[]int{api.RLI, api.L, api.PDI}, 0, []api.Seq{seq(0, api.L, api.L, 0, 2), seq(1, api.R, api.R, 1)}},
		{[]int{api.LRI, api.L, api.PDI}, 1, []api.Seq{seq(1, api.R, api.R, 0, 2), seq(2, api.L, api.L, 1)}},
		// A sequence begins behind an embedding that goes on up to an isolate's end; behind it lies the PDI.
		{[]int{api.LRI, api.RLE, api.L, api.PDF, api.L, api.PDI}, 0, []api.Seq{seq(0, api.L, api.L, 0, 5), seq(3, api.R, api.R, 2), seq(2, api.R, api.L, 4)}},
		// What stands behind an initiator without a PDI counts for nothing, nor does what is kept behind it: base does.
		{[]int{api.RLE, api.LRI, api.LRE, api.L}, 0, []api.Seq{seq(1, api.R, api.R, 1), seq(4, api.L, api.L, 3)}},
		{[]int{api.LRE, api.RLI, api.L}, 0, []api.Seq{seq(2, api.L, api.L, 1), seq(3, api.R, api.R, 2)}},
		{[]int{api.LRE, api.RLI, api.L}, 1, []api.Seq{seq(2, api.L, api.L, 1), seq(3, api.R, api.R, 2)}},
		// Of a sequence of several runs: ahead of the first one, and behind the last one.
		{[]int{api.RLE, api.R, api.PDF, api.L, api.LRI, api.L, api.PDI, api.LRE, api.L}, 0,
			[]api.Seq{seq(1, api.R, api.R, 1), seq(0, api.R, api.L, 3, 4, 6), seq(2, api.L, api.L, 5), seq(2, api.L, api.L, 8)}},
		{[]int{api.LRE, api.L, api.PDF, api.L, api.LRI, api.L, api.PDI, api.RLE, api.L}, 0,
			[]api.Seq{seq(2, api.L, api.L, 1), seq(0, api.L, api.R, 3, 4, 6), seq(2, api.L, api.L, 5), seq(1, api.R, api.R, 8)}},
		// The separator has the level base, wherever it stands.
		{[]int{api.RLE, api.LRE, api.L, api.B}, 0, []api.Seq{seq(2, api.L, api.L, 2), seq(0, api.L, api.L, 3)}},
		{[]int{api.RLE, api.L, api.B}, 0, []api.Seq{seq(1, api.R, api.R, 1), seq(0, api.R, api.L, 2)}},
		{[]int{api.LRI, api.L, api.RLI, api.B}, 1, []api.Seq{seq(1, api.R, api.R, 0), seq(2, api.L, api.L, 1, 2), seq(1, api.L, api.R, 3)}},
	} {
		check(t, x.c, x.base, x.want...)
	}
}

func TestP8_2BeyondMaxDepth(t *testing.T) {
	// 125 embeddings lead up to the level 125; an isolate there is none: all of it is one run.
	up := list(repeat(62, api.RLE, api.LRE), []int{api.RLE})
	n := len(up)
	for _, initiator := range initiators {
		check(t, list(up, []int{api.L, initiator, api.R, api.PDI, api.L}), 0, seq(125, api.R, api.R, from(n, 5)...))
		check(t, list(up, []int{api.L, initiator, api.R}), 0, seq(125, api.R, api.R, from(n, 3)...))
		check(t, list(up, []int{api.L, initiator, initiator, api.RLE, api.R, api.PDI, api.PDI}), 0,
			seq(125, api.R, api.R, n, n+1, n+2, n+4, n+5, n+6))
	}
	// One less, and there is one, of the level 125; LRI leads beyond.
	up = repeat(62, api.RLE, api.LRE)
	n = len(up)
	check(t, list(up, []int{api.RLI, api.R, api.PDI}), 0, seq(124, api.L, api.L, n, n+2), seq(125, api.R, api.R, n+1))
	check(t, list(up, []int{api.LRI, api.R, api.PDI}), 0, seq(124, api.L, api.L, n, n+1, n+2))
	// An initiator that overflows, without a PDI, at a sequence's end: base stands behind it, though a greater level does in the text.
	up = list([]int{api.RLE}, repeat(61, api.LRE, api.RLE), []int{api.LRI})
	n = len(up)
	check(t, list(up, []int{api.LRI, api.B}), 0, seq(123, api.R, api.R, n-1), seq(124, api.L, api.L, n), seq(0, api.L, api.L, n+1))
	// The isolates that are valid are told behind those that are not.
	deep := list(repeat(70, api.RLI), []int{api.L}, repeat(70, api.PDI))
	all := mustSequences(t, deep, 0)
	if len(all) != 64 {
		t.Fatalf("%d", len(all))
	}
	for k, s := range all[:63] {
		if !slices.Equal(s.Places, []int{k, 140 - k}) || s.Level != max(2*k-1, 0) {
			t.Errorf("at %d: %v", k, s)
		}
	}
	if s := all[63]; s.Level != 125 || !slices.Equal(s.Places, from(63, 15)) {
		t.Errorf("the deepest one: %v", s)
	}
}

func TestP8_2AsTheWordsHaveIt(t *testing.T) {
	eachList(func(c []int) {
		for base := range 2 {
			check(t, c, base, sequencesByWords(c, base)...)
		}
	})
}

func TestP8_2WrongBase(t *testing.T) {
	for _, base := range wrongBases {
		for _, c := range lists {
			checkError(t, c, base, api.ErrArg)
		}
		// It is told ahead of what else is wrong.
		checkError(t, []int{api.B, api.L}, base, api.ErrArg)
		checkError(t, []int{0}, base, api.ErrArg)
		checkError(t, []int{api.RLI, math.MaxInt, api.B, api.B}, base, api.ErrArg)
	}
}

func TestP8_2WrongClasses(t *testing.T) {
	for base := range 2 {
		for _, n := range noClasses {
			checkError(t, []int{n}, base, api.ErrForm)
			checkError(t, []int{n, api.L}, base, api.ErrForm)
			checkError(t, []int{api.RLI, n, api.PDI}, base, api.ErrForm)
			checkError(t, []int{api.L, api.RLI, api.R, api.PDI, n}, base, api.ErrForm)
			checkError(t, []int{n, api.B}, base, api.ErrForm)
			checkError(t, []int{api.B, n}, base, api.ErrForm)
		}
		for class := api.L; class <= api.PDI; class++ {
			checkError(t, []int{api.B, class}, base, api.ErrForm)
			checkError(t, []int{class, api.B, class}, base, api.ErrForm)
			checkError(t, []int{api.RLI, api.B, api.PDI, class}, base, api.ErrForm)
		}
	}
}

func TestP8_2AsResolveRefuses(t *testing.T) {
	listsOf([]int{api.RLI, api.PDI, api.B, 0, api.BN, api.R}, 4, func(c []int) {
		for base := -1; base <= 2; base++ {
			_, _, want := explicit.Resolve(c, base)
			if want != api.OK {
				checkError(t, c, base, want)
			} else {
				mustSequences(t, c, base)
			}
		}
	})
}

func TestP8_2OfLongLists(t *testing.T) {
	// A sequence of very many runs.
	all := mustSequences(t, repeat(far, api.RLI, api.R, api.PDI), 0)
	if len(all) != far+1 || len(all[0].Places) != 2*far {
		t.Fatalf("%d, %d", len(all), len(all[0].Places))
	}
	for k := range far {
		if p := all[0].Places; p[2*k] != 3*k || p[2*k+1] != 3*k+2 {
			t.Fatalf("at %d: %d, %d", k, p[2*k], p[2*k+1])
		}
		if s := all[k+1]; len(s.Places) != 1 || s.Places[0] != 3*k+1 || s.Level != 1 || s.Sos != api.R || s.Eos != api.R {
			t.Fatalf("at %d: %v", k, s)
		}
	}
	// Very many sequences.
	all = mustSequences(t, repeat(far/4, api.L, api.RLE, api.R, api.PDF), 0)
	if len(all) != far/2 || !sameSequences(all[far/2-2:], []api.Seq{seq(0, api.R, api.R, far-4), seq(1, api.R, api.R, far-2)}) {
		t.Fatalf("%d", len(all))
	}
	for _, c := range [][]int{
		repeat(far, api.L), repeat(far, api.BN), repeat(far, api.PDI), repeat(far, api.RLI), repeat(far, api.FSI), repeat(far/2, api.FSI, api.RLE), repeat(far/2, api.FSI, api.PDI),
		list(repeat(far/2, api.RLI), repeat(far/2, api.PDI)), list(repeat(far/2, api.LRI, api.AL), repeat(far/2, api.PDI, api.L)),
		list(repeat(40, api.RLI), repeat(far/3, api.FSI, api.R, api.PDI), repeat(40, api.PDI)),
	} {
		levels := mustResolve(t, c, 1)
		places := 0
		for _, s := range mustSequences(t, c, 1) {
			places += len(s.Places)
			for _, i := range s.Places {
				if levels[i] != s.Level {
					t.Fatalf("at %d: %d; the sequence has %d", i, levels[i], s.Level)
				}
			}
		}
		for _, level := range levels {
			if level >= 0 {
				places--
			}
		}
		if places != 0 {
			t.Fatalf("%d places too many", places)
		}
	}
}

// onceEach tells whether these lists have each kept place once, and nothing else, each of them rising and none empty, by their first places.
func onceEach(levels []int, all [][]int) bool {
	times := make([]int, len(levels))
	first := -1
	for _, l := range all {
		if len(l) == 0 || l[0] <= first || !slices.IsSorted(l) {
			return false
		}
		first = l[0]
		for _, i := range l {
			times[i]++
		}
	}
	for i, level := range levels {
		if want := min(1, max(0, level+1)); times[i] != want {
			return false
		}
	}
	return true
}

func TestP8_3EachKeptPlaceOnce(t *testing.T) {
	eachList(func(c []int) {
		for base := range 2 {
			levels := mustResolve(t, c, base)
			if all := Levels(levels); !onceEach(levels, all) {
				t.Fatalf("Levels(%v): %v", levels, all)
			}
			var all [][]int
			for _, s := range mustSequences(t, c, base) {
				all = append(all, s.Places)
				for _, i := range s.Places {
					if levels[i] != s.Level {
						t.Fatalf("Sequences(%v, %d): the level at %d is %d, not %d", c, base, i, levels[i], s.Level)
					}
				}
			}
			if !onceEach(levels, all) {
				t.Fatalf("Sequences(%v, %d): %v", c, base, all)
			}
		}
	})
}

func TestP8_3BehindAnInitiatorItsPDI(t *testing.T) {
	eachList(func(c []int) {
		pdis, owners := pairsByWords(c)
		for base := range 2 {
			levels := mustResolve(t, c, base)
			for _, s := range mustSequences(t, c, base) {
				for k, i := range s.Places {
					pdi, has := pdis[i]
					if !has {
						continue
					}
					// What lies in an isolate that is valid lies in other sequences; one that overflows has the level of all around it.
					if k == len(s.Places)-1 || s.Places[k+1] != pdi && s.Level < api.MaxDepth-1 {
						t.Fatalf("Sequences(%v, %d): %v: behind the initiator at %d", c, base, s, i)
					}
				}
				if _, owned := owners[s.Places[0]]; owned {
					t.Fatalf("Sequences(%v, %d): %v begins with an initiator's PDI", c, base, s)
				}
				// Where a sequence leaves out a kept place, it goes on from an initiator to its PDI.
				for k := range len(s.Places) - 1 {
					i, next := s.Places[k], s.Places[k+1]
					leaves := slices.ContainsFunc(levels[i+1:next], func(level int) bool { return level >= 0 })
					if pdi, has := pdis[i]; leaves && (!has || pdi != next) {
						t.Fatalf("Sequences(%v, %d): %v goes on from %d to %d", c, base, s, i, next)
					}
				}
			}
		}
	})
}

// spoil writes over a list, its spare room too.
func spoil(l []int) {
	l = l[:cap(l)]
	for i := range l {
		l[i] = -5
	}
}

func TestRule4WhatIsHandedInStaysAsItIs(t *testing.T) {
	room := []int{api.RLO, api.FSI, api.L, api.PDF, api.PDI, api.BN, api.RLI, api.R, api.PDI, api.B, api.LRO, api.R, 77}
	before := slices.Clone(room)
	levels := []int{0, 0, 1, -1, 1, 0, 2, -7, 2, 2}
	levelsBefore := slices.Clone(levels)
	for k := range len(room) + 1 {
		for base := -1; base <= 2; base++ {
			Sequences(room[:k], base)
		}
	}
	for k := range len(levels) + 1 {
		Levels(levels[:k])
	}
	if !slices.Equal(room, before) || !slices.Equal(levels, levelsBefore) {
		t.Errorf("they have become %v, %v", room, levels)
	}
}

func TestRule8WhatLiesBehindALengthIsNotRead(t *testing.T) {
	room := []int{api.L, api.RLI, api.R, api.PDI, api.B, api.L, 0}
	check(t, room[:3], 0, seq(0, api.L, api.L, 0, 1), seq(1, api.R, api.R, 2))
	check(t, room[:4], 0, seq(0, api.L, api.L, 0, 1, 3), seq(1, api.R, api.R, 2))
	check(t, room[:5], 0, seq(0, api.L, api.L, 0, 1, 3, 4), seq(1, api.R, api.R, 2))
	check(t, room[3:5], 0, seq(0, api.L, api.L, 0, 1))
	check(t, room[:0], 0)
	checkError(t, room[:6], 0, api.ErrForm)
	levels := []int{1, -1, 1, 1, 0}
	checkLevels(t, levels[:2], []int{0})
	checkLevels(t, levels[:3], []int{0, 2})
	checkLevels(t, levels[:0])
}

func TestRule4WhatIsHandedOutIsNew(t *testing.T) {
	for _, c := range lists {
		for base := range 2 {
			before := slices.Clone(c)
			levels := mustResolve(t, c, base)
			levelsBefore := slices.Clone(levels)
			wantRuns, want := runsByWords(levels), sequencesByWords(c, base)
			runs := Levels(levels)
			for k := range runs {
				// What is appended to one run would change another one, if they shared memory; so would what is done to it.
				_ = append(runs[k], -9, -9, -9)
				spoil(runs[k])
				if !sameRuns(runs[k+1:], wantRuns[k+1:]) {
					t.Errorf("Levels(%v): they have become %v", levels, runs)
				}
			}
			all := mustSequences(t, c, base)
			for k := range all {
				_ = append(all[k].Places, -9, -9, -9)
				spoil(all[k].Places)
				if !sameSequences(all[k+1:], want[k+1:]) {
					t.Errorf("Sequences(%v, %d): they have become %v", c, base, all)
				}
			}
			if !slices.Equal(c, before) || !slices.Equal(levels, levelsBefore) {
				t.Errorf("%v, %v have become %v, %v", before, levelsBefore, c, levels)
			}
			checkLevels(t, levels, wantRuns...)
			check(t, c, base, want...)
		}
	}
}

func TestRule4NoRunChangesOneAheadOfIt(t *testing.T) {
	levels := []int{0, 0, 1, 0, -1, 0, 2, 2, 2}
	want := runsByWords(levels)
	runs := Levels(levels)
	for k := len(runs) - 1; k >= 0; k-- {
		_ = append(runs[k], -9)
		spoil(runs[k])
		if !sameRuns(runs[:k], want[:k]) {
			t.Errorf("they have become %v", runs)
		}
	}
	c := []int{api.L, api.RLI, api.R, api.PDI, api.LRI, api.L, api.PDI, api.RLE, api.ON}
	sequences := sequencesByWords(c, 0)
	all := mustSequences(t, c, 0)
	for k := len(all) - 1; k >= 0; k-- {
		_ = append(all[k].Places, -9)
		spoil(all[k].Places)
		if !sameSequences(all[:k], sequences[:k]) {
			t.Errorf("they have become %v", all)
		}
	}
}

func TestRule4WhatIsHandedInIsNotKept(t *testing.T) {
	c := []int{api.L, api.RLI, api.R, api.PDI, api.L}
	levels := []int{0, 0, -1, 1}
	all, runs := mustSequences(t, c, 0), Levels(levels)
	spoil(c)
	spoil(levels)
	if !sameSequences(all, []api.Seq{seq(0, api.L, api.L, 0, 1, 3, 4), seq(1, api.R, api.R, 2)}) || !sameRuns(runs, [][]int{{0, 1}, {3}}) {
		t.Errorf("they have become %v, %v", all, runs)
	}
	checkError(t, c, 0, api.ErrForm)
	// What was kept of a call would be seen in the next one.
	check(t, []int{api.PDI, api.R}, 1, seq(1, api.R, api.R, 0, 1))
	checkLevels(t, []int{1, 0}, []int{0}, []int{1})
}
