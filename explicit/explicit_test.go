package explicit

import (
	"math"
	"slices"
	"testing"

	"colophon/api"
	"colophon/isolate"
)

// Kinds of what begins something.
var (
	embeddings = []int{api.RLE, api.LRE, api.RLO, api.LRO}
	initiators = []int{api.RLI, api.LRI, api.FSI}
	beginners  = slices.Concat(embeddings, initiators)
	removed    = []int{api.RLE, api.LRE, api.RLO, api.LRO, api.PDF, api.BN}
)

// noClasses are numbers that are no classes, some of which have the lower bits of one, or are one below 0.
var noClasses = []int{
	math.MinInt, math.MinInt + api.L, math.MinInt + api.RLE, -256 + api.R, -256 + api.PDF, -api.PDI, -api.BN, -api.RLE, -api.L, -1, 0, 24, 25,
	32 + api.R, 32 + api.BN, 64 + api.RLE, 128 + api.LRO, 256 + api.L, 256 + api.RLO, 1<<16 + api.PDF, 1<<16 + api.B,
	1<<32 + api.L, 1<<32 + api.LRE, 1<<32 + api.BN, 1<<32 + api.PDI, math.MaxInt - 1, math.MaxInt,
}

// allClasses are those of api, one by one.
func allClasses() []int {
	var l []int
	for class := api.L; class <= api.PDI; class++ {
		l = append(l, class)
	}
	return l
}

// repeat is a list in which these numbers stand n times.
func repeat(n int, numbers ...int) []int { return slices.Repeat(numbers, n) }

// list puts lists together.
func list(parts ...[]int) []int { return slices.Concat(parts...) }

// listsOf calls do with each list of some of these numbers that is no longer than length.
func listsOf(numbers []int, length int, do func([]int)) {
	var more func(l []int)
	more = func(l []int) {
		do(slices.Clone(l))
		if len(l) == length {
			return
		}
		for _, n := range numbers {
			more(append(l, n))
		}
	}
	more(make([]int, 0, length))
}

// mixed are long lists of some of these classes, always the same ones.
func mixed(classes []int, count, length int, do func([]int)) {
	seed := uint64(7)
	for range count {
		c := make([]int, length)
		for i := range c {
			seed = seed*6364136223846793005 + 1442695040888963407
			c[i] = classes[int(seed>>33)%len(classes)]
		}
		do(c)
	}
}

// lists are paragraphs with places of all kinds in embeddings, overrides and isolates of all kinds.
var lists = [][]int{
	nil, {}, {api.L}, {api.B}, {api.PDF}, {api.PDI}, {api.BN},
	{api.RLE, api.L, api.PDF, api.L}, {api.RLO, api.L, api.ON}, {api.LRI, api.R, api.PDI}, {api.FSI, api.R, api.PDI, api.L},
	{api.RLE, api.LRO, api.R, api.EN, api.PDF, api.AN, api.PDF, api.L, api.B},
	{api.RLI, api.LRE, api.R, api.PDI, api.RLO, api.FSI, api.BN, api.AL, api.PDI, api.ON, api.PDF, api.S, api.B},
	{api.LRO, api.RLI, api.PDF, api.PDF, api.ES, api.PDI, api.NSM, api.PDF, api.WS},
	{api.PDI, api.PDF, api.RLI, api.PDI, api.PDI, api.LRE, api.PDF, api.PDF, api.CS},
}

// deepStarts lead up to the deepest levels, and beyond them, by embeddings, by isolates, and by both in turn.
func deepStarts() [][]int {
	var starts [][]int
	for _, pair := range [][]int{{api.RLE, api.LRE}, {api.RLI, api.LRI}, {api.RLO, api.LRI}, {api.FSI, api.RLE}} {
		for n := 61; n <= 63; n++ {
			starts = append(starts, repeat(n, pair...), list([]int{api.LRE}, repeat(n, pair...)))
		}
	}
	return starts
}

// eachList calls do with the lists above, with all small ones over some choices of classes, with small ones behind deep starts, and with long ones.
func eachList(do func([]int)) {
	for _, c := range lists {
		do(c)
	}
	listsOf(allClassesButB(), 3, do)
	listsOf([]int{api.RLE, api.LRO, api.PDF, api.LRI, api.PDI, api.L}, 6, do)
	listsOf([]int{api.RLO, api.LRE, api.PDF, api.RLI, api.FSI, api.PDI, api.AL, api.BN}, 5, do)
	for _, start := range deepStarts() {
		listsOf([]int{api.RLE, api.LRO, api.PDF, api.FSI, api.PDI, api.R}, 4, func(c []int) { do(list(start, c)) })
	}
	mixed([]int{api.RLE, api.LRE, api.RLO, api.LRO, api.RLI, api.LRI, api.FSI, api.PDF, api.PDI, api.L, api.R, api.ON}, 40, 1500, do)
	mixed([]int{api.RLE, api.LRE, api.RLI, api.FSI, api.R}, 20, 600, do)
	mixed([]int{api.RLI, api.FSI, api.PDI, api.LRO, api.AL, api.NSM}, 40, 1500, do)
	mixed(allClassesButB(), 40, 600, do)
}

func allClassesButB() []int {
	return slices.DeleteFunc(allClasses(), func(class int) bool { return class == api.B })
}

// wordEntry and words are the chapter's 'What is kept on the way'.
type wordEntry struct {
	level, override int
	ofIsolate       bool
}

type words struct {
	stack                                        []wordEntry
	isolatesOverflow, embeddingsOverflow, valids int
}

// nextByWords looks for the next level from the last entry's on, one by one.
func (w *words) nextByWords(odd bool) (int, bool) {
	level := w.stack[len(w.stack)-1].level + 1
	for (level%2 == 1) != odd {
		level++
	}
	return level, level <= 125 && w.isolatesOverflow == 0 && w.embeddingsOverflow == 0
}

// doByWords does what a class does, of which an FSI has been taken as another one.
func (w *words) doByWords(class int) {
	odd := class == api.RLE || class == api.RLO || class == api.RLI
	switch class {
	case api.RLE, api.LRE, api.RLO, api.LRO:
		override := 0
		if class == api.RLO {
			override = api.R
		} else if class == api.LRO {
			override = api.L
		}
		if level, can := w.nextByWords(odd); can {
			w.stack = append(w.stack, wordEntry{level, override, false})
		} else if w.isolatesOverflow == 0 {
			w.embeddingsOverflow++
		}
	case api.RLI, api.LRI:
		if level, can := w.nextByWords(odd); can {
			w.valids++
			w.stack = append(w.stack, wordEntry{level, 0, true})
		} else {
			w.isolatesOverflow++
		}
	case api.PDI:
		if w.isolatesOverflow > 0 {
			w.isolatesOverflow--
		} else if w.valids > 0 {
			w.embeddingsOverflow = 0
			at := len(w.stack) - 1
			for !w.stack[at].ofIsolate {
				at--
			}
			w.stack = w.stack[:at]
			w.valids--
		}
	case api.PDF:
		last := len(w.stack) - 1
		if w.isolatesOverflow == 0 && w.embeddingsOverflow > 0 {
			w.embeddingsOverflow--
		} else if w.isolatesOverflow == 0 && !w.stack[last].ofIsolate && len(w.stack) > 1 {
			w.stack = w.stack[:last]
		}
	}
}

func resolveByWords(c []int, base int) (levels, types []int) {
	w := &words{stack: []wordEntry{{level: base}}}
	match := isolate.Match(c)
	for i, class := range c {
		// What an initiator is told by is there ahead of it, what any other one is told by behind it.
		before := w.stack[len(w.stack)-1]
		does := class
		if class == api.FSI {
			does = api.LRI
			if b, _ := isolate.Base(c, i+1, match[i]); b == 1 {
				does = api.RLI
			}
		}
		w.doByWords(does)
		last := w.stack[len(w.stack)-1]
		if slices.Contains(initiators, class) {
			last = before
		}
		level, kind := last.level, class
		if last.override != 0 {
			kind = last.override
		}
		if slices.Contains(removed, class) {
			level, kind = -1, class
		}
		if class == api.B {
			level, kind = base, class
		}
		levels, types = append(levels, level), append(types, kind)
	}
	return levels, types
}

func check(t *testing.T, c []int, base int, wantLevels, wantTypes []int) {
	t.Helper()
	levels, types, e := Resolve(c, base)
	if e != api.OK || !slices.Equal(levels, wantLevels) || !slices.Equal(types, wantTypes) {
		t.Fatalf("Resolve(%v, %d): %v, %v, %d; wanted %v, %v", c, base, levels, types, e, wantLevels, wantTypes)
	}
}

// checkLevels is check where types are classes.
func checkLevels(t *testing.T, c []int, base int, wantLevels []int) {
	t.Helper()
	check(t, c, base, wantLevels, c)
}

func checkError(t *testing.T, c []int, base int, want api.Errno) {
	t.Helper()
	if levels, types, e := Resolve(c, base); len(levels) != 0 || len(types) != 0 || e != want {
		t.Errorf("Resolve(%v, %d): %v, %v, %d; wanted the error %d", c, base, levels, types, e, want)
	}
}

// mustResolve are levels and types of a list of which there is no error.
func mustResolve(t *testing.T, c []int, base int) (levels, types []int) {
	t.Helper()
	levels, types, e := Resolve(c, base)
	if e != api.OK || len(levels) != len(c) || len(types) != len(c) {
		t.Fatalf("Resolve(%v, %d): %v, %v, %d", c, base, levels, types, e)
	}
	return levels, types
}

func TestP7_1AsTheExamplesHaveIt(t *testing.T) {
	checkLevels(t, []int{api.RLE, api.L, api.PDF, api.L}, 0, []int{-1, 1, -1, 0})
	check(t, []int{api.RLO, api.L, api.ON}, 0, []int{-1, 1, 1}, []int{api.RLO, api.R, api.R})
	checkLevels(t, []int{api.LRI, api.R, api.PDI}, 1, []int{1, 2, 1})
	checkLevels(t, []int{api.FSI, api.R, api.PDI, api.L}, 0, []int{0, 1, 0, 0})
	checkError(t, []int{api.B, api.L}, 0, api.ErrForm)
	for _, n := range []int{63, 64} {
		checkLevels(t, list(repeat(n, api.RLE), []int{api.L}), 0, list(repeat(n, -1), []int{125}))
	}
}

func TestP7_1Empty(t *testing.T) {
	for _, c := range [][]int{nil, {}} {
		checkLevels(t, c, 0, nil)
		checkLevels(t, c, 1, nil)
	}
}

func TestP7_1EachClassAlone(t *testing.T) {
	for _, class := range allClasses() {
		for base := range 2 {
			want := base
			if slices.Contains(removed, class) {
				want = -1
			}
			checkLevels(t, []int{class}, base, []int{want})
		}
	}
}

// firstLevels are what a beginner leads to, ahead of L, from the base 0, and from the base 1; its type is R or L where it overrides.
var firstLevels = map[int][3]int{
	api.RLE: {1, 3, 0}, api.LRE: {2, 2, 0}, api.RLO: {1, 3, api.R}, api.LRO: {2, 2, api.L},
	api.RLI: {1, 3, 0}, api.LRI: {2, 2, 0}, api.FSI: {2, 2, 0},
}

func TestP7_1EachClassBehindEachBeginner(t *testing.T) {
	plain := []int{api.L, api.R, api.AL, api.EN, api.ES, api.ET, api.AN, api.CS, api.NSM, api.S, api.WS, api.ON}
	for _, begin := range beginners {
		end, outside := api.PDF, -1
		for base := range 2 {
			if slices.Contains(initiators, begin) {
				end, outside = api.PDI, base
			}
			for _, class := range plain {
				level, kind := firstLevels[begin][base], class
				if begin == api.FSI && (class == api.R || class == api.AL) {
					level = firstLevels[api.RLI][base]
				}
				if override := firstLevels[begin][2]; override != 0 {
					kind = override
				}
				check(t, []int{begin, class}, base, []int{outside, level}, []int{begin, kind})
				check(t, []int{begin, class, end, class}, base, []int{outside, level, outside, base}, []int{begin, kind, end, class})
				check(t, []int{begin, end, class}, base, []int{outside, outside, base}, []int{begin, end, class})
			}
			checkLevels(t, []int{begin, api.BN}, base, []int{outside, -1})
			checkLevels(t, []int{begin, api.BN, end}, base, []int{outside, -1, outside})
			checkLevels(t, []int{begin, api.B}, base, []int{outside, base})
		}
	}
}

func TestP7_1OneBeginnerWithinAnother(t *testing.T) {
	for _, x := range []struct{ c, levels, types []int }{
		{[]int{api.RLE, api.LRE, api.R}, []int{-1, -1, 2}, nil},
		{[]int{api.RLE, api.RLE, api.R}, []int{-1, -1, 3}, nil},
		{[]int{api.LRE, api.RLE, api.L}, []int{-1, -1, 3}, nil},
		{[]int{api.LRE, api.LRE, api.L}, []int{-1, -1, 4}, nil},
		// The inner one says what is done, whether it overrides or not; behind it the outer one does again.
		{[]int{api.RLO, api.LRO, api.R, api.PDF, api.L, api.PDF, api.ON}, []int{-1, -1, 2, -1, 1, -1, 0}, []int{api.RLO, api.LRO, api.L, api.PDF, api.R, api.PDF, api.ON}},
		{[]int{api.LRO, api.RLE, api.R, api.PDF, api.EN}, []int{-1, -1, 3, -1, 2}, []int{api.LRO, api.RLE, api.R, api.PDF, api.L}},
		// An initiator and its PDI lie in the override, what lies in the isolate does not.
		{[]int{api.RLO, api.LRI, api.ON, api.PDI, api.WS}, []int{-1, 1, 2, 1, 1}, []int{api.RLO, api.R, api.ON, api.R, api.R}},
		{[]int{api.LRO, api.RLI, api.ON, api.PDI}, []int{-1, 2, 3, 2}, []int{api.LRO, api.L, api.ON, api.L}},
		{[]int{api.LRO, api.FSI, api.AL}, []int{-1, 2, 3}, []int{api.LRO, api.L, api.AL}},
		// So does a PDI that ends nothing.
		{[]int{api.RLO, api.PDI, api.L}, []int{-1, 1, 1}, []int{api.RLO, api.R, api.R}},
		// BN and B stay what they are in an override.
		{[]int{api.RLO, api.BN, api.L, api.B}, []int{-1, -1, 1, 0}, []int{api.RLO, api.BN, api.R, api.B}},
		{[]int{api.RLI, api.LRO, api.B}, []int{0, -1, 0}, nil},
		{[]int{api.RLI, api.LRI, api.L, api.PDI, api.L, api.PDI, api.L}, []int{0, 1, 2, 1, 1, 0, 0}, nil},
	} {
		types := x.types
		if types == nil {
			types = x.c
		}
		check(t, x.c, 0, x.levels, types)
	}
}

func TestP7_1PDFsWithinIsolates(t *testing.T) {
	// They end no embedding that lies around the isolate, nor the isolate.
	check(t, []int{api.RLO, api.LRI, api.PDF, api.PDF, api.ON, api.PDI, api.L}, 0, []int{-1, 1, -1, -1, 2, 1, 1},
		[]int{api.RLO, api.R, api.PDF, api.PDF, api.ON, api.R, api.R})
	// They end what was begun within it.
	check(t, []int{api.RLI, api.LRO, api.ON, api.PDF, api.ON, api.PDF, api.ON, api.PDI, api.ON}, 0, []int{0, -1, 2, -1, 1, -1, 1, 0, 0},
		[]int{api.RLI, api.LRO, api.L, api.PDF, api.ON, api.PDF, api.ON, api.PDI, api.ON})
	// Behind the isolate they do again.
	checkLevels(t, []int{api.RLE, api.LRI, api.PDF, api.PDI, api.PDF, api.L}, 0, []int{-1, 1, -1, 1, -1, 0})
	// PDFs that end nothing do nothing.
	checkLevels(t, []int{api.PDF, api.PDF, api.RLE, api.L, api.PDF, api.PDF, api.PDF, api.RLE, api.L}, 0, []int{-1, -1, -1, 1, -1, -1, -1, -1, 1})
	checkLevels(t, []int{api.PDF, api.LRE, api.L, api.PDF, api.PDF, api.LRE, api.L}, 1, []int{-1, -1, 2, -1, -1, -1, 2})
}

func TestP7_1PDIsEndEmbeddingsThatWereLeftOpen(t *testing.T) {
	checkLevels(t, []int{api.LRI, api.RLE, api.RLE, api.LRE, api.L, api.PDI, api.L, api.PDF, api.L}, 0, []int{0, -1, -1, -1, 6, 0, 0, -1, 0})
	check(t, []int{api.RLI, api.LRO, api.RLO, api.PDI, api.ON}, 1, []int{1, -1, -1, 1, 1}, []int{api.RLI, api.LRO, api.RLO, api.PDI, api.ON})
	// Just those of its own isolate.
	check(t, []int{api.RLO, api.LRI, api.RLE, api.LRI, api.RLO, api.PDI, api.ON, api.PDI, api.ON, api.PDI, api.ON}, 0, []int{-1, 1, -1, 3, -1, 3, 3, 1, 1, 1, 1},
		[]int{api.RLO, api.R, api.RLE, api.LRI, api.RLO, api.PDI, api.ON, api.R, api.R, api.R, api.R})
	// A PDI that ends nothing ends no embedding.
	checkLevels(t, []int{api.PDI, api.RLE, api.L, api.PDI, api.L, api.PDF, api.L}, 0, []int{0, -1, 1, 1, 1, -1, 0})
}

func TestP7_1WhatAnFSIIsTakenAs(t *testing.T) {
	for _, x := range []struct {
		inside []int
		odd    bool
	}{
		{nil, false}, {[]int{api.L}, false}, {[]int{api.R}, true}, {[]int{api.AL}, true},
		{[]int{api.L, api.R}, false}, {[]int{api.R, api.L}, true}, {[]int{api.AL, api.L}, true},
		{[]int{api.ON, api.EN, api.AN}, false}, {[]int{api.WS, api.EN, api.AL}, true},
		// An isolate of its own ahead of them.
		{[]int{api.RLI, api.R, api.PDI}, false}, {[]int{api.RLI, api.R, api.PDI, api.L}, false}, {[]int{api.LRI, api.L, api.PDI, api.R}, true},
		{[]int{api.FSI, api.R, api.PDI, api.L, api.R}, false}, {[]int{api.FSI, api.PDI, api.AL}, true},
		// Neither embeddings nor overrides tell.
		{[]int{api.RLE, api.L}, false}, {[]int{api.LRO, api.R}, true}, {[]int{api.RLO, api.PDF}, false},
	} {
		for base := range 2 {
			plain := api.LRI
			if x.odd {
				plain = api.RLI
			}
			for _, behind := range [][]int{nil, {api.PDI}, {api.PDI, api.R}, {api.PDI, api.L}} {
				c, same := list([]int{api.FSI}, x.inside, behind), list([]int{plain}, x.inside, behind)
				wantLevels, wantTypes := mustResolve(t, same, base)
				check(t, c, base, wantLevels, list([]int{api.FSI}, wantTypes[1:]))
			}
		}
	}
	// Without a PDI all behind it counts; what stands ahead of it does not, nor what stands behind its PDI.
	checkLevels(t, []int{api.L, api.FSI, api.ON, api.R}, 0, []int{0, 0, 1, 1})
	checkLevels(t, []int{api.R, api.FSI, api.ON, api.PDI, api.R}, 0, []int{0, 0, 2, 0, 0})
	checkLevels(t, []int{api.FSI, api.RLI, api.ON, api.R}, 0, []int{0, 2, 3, 3})
	// What overrides the FSI does not tell.
	check(t, []int{api.RLO, api.FSI, api.ON, api.PDI}, 0, []int{-1, 1, 2, 1}, []int{api.RLO, api.R, api.ON, api.R})
}

// climb is the level that n of a class lead to from a base, with nothing beyond MaxDepth, and how many of them came onto the stack.
func climb(class, base, n int) (level, count int) {
	level = base
	for range n {
		next := level + 1
		if (next%2 == 1) != (class == api.RLE || class == api.RLO || class == api.RLI) {
			next++
		}
		if next > 125 {
			break
		}
		level = next
		count++
	}
	return level, count
}

func TestP7_1EmbeddingsUpToMaxDepthAndBeyond(t *testing.T) {
	for _, class := range embeddings {
		for base := range 2 {
			for n := 55; n <= 70; n++ {
				top, _ := climb(class, base, n)
				kind := api.EN
				if override := firstLevels[class][2]; override != 0 {
					kind = override
				}
				wantLevels, wantTypes := list(repeat(n, -1), []int{top}), list(repeat(n, class), []int{kind})
				c := list(repeat(n, class), []int{api.EN})
				// As many PDFs as embeddings lead all the way back, one by one, and more lead nowhere.
				for left := n - 1; left >= -3; left-- {
					level, count := climb(class, base, max(left, 0))
					c, wantLevels = append(c, api.PDF, api.EN), append(wantLevels, -1, level)
					kind := api.EN
					if override := firstLevels[class][2]; override != 0 && count > 0 {
						kind = override
					}
					wantTypes = append(wantTypes, api.PDF, kind)
				}
				check(t, c, base, wantLevels, wantTypes)
			}
		}
	}
}

func TestP7_1IsolatesUpToMaxDepthAndBeyond(t *testing.T) {
	for _, class := range []int{api.RLI, api.LRI} {
		for base := range 2 {
			for n := 55; n <= 70; n++ {
				var c, want []int
				for k := range n {
					level, _ := climb(class, base, k)
					c, want = append(c, class), append(want, level)
				}
				top, _ := climb(class, base, n)
				c, want = append(c, api.ON), append(want, top)
				for left := n - 1; left >= -3; left-- {
					level, _ := climb(class, base, max(left, 0))
					c, want = append(c, api.PDI, api.ON), append(want, level, level)
				}
				checkLevels(t, c, base, want)
			}
		}
	}
}

// up leads from the base 0 to the level 124 by a pair of embeddings of one level each.
func up() []int { return repeat(62, api.RLE, api.LRE) }

// upLevels are what is told of it.
func upLevels() []int { return repeat(124, -1) }

func TestP7_1AtTheDeepestLevels(t *testing.T) {
	for _, x := range []struct{ c, levels []int }{
		// One more level can be to the left, none to the right.
		{[]int{api.RLE, api.ON}, []int{-1, 125}}, {[]int{api.LRE, api.ON}, []int{-1, 124}},
		{[]int{api.RLI, api.ON, api.PDI}, []int{124, 125, 124}}, {[]int{api.LRI, api.ON, api.PDI}, []int{124, 124, 124}},
		{[]int{api.FSI, api.R, api.PDI}, []int{124, 125, 124}}, {[]int{api.FSI, api.L, api.PDI}, []int{124, 124, 124}},
		{[]int{api.FSI, api.ON, api.PDI, api.R}, []int{124, 124, 124, 124}},
		// Where something overflows, nothing that could be else comes onto the stack.
		{[]int{api.LRE, api.RLE, api.ON, api.PDF, api.ON, api.PDF, api.RLE, api.ON}, []int{-1, -1, 124, -1, 124, -1, -1, 125}},
		{[]int{api.LRE, api.RLI, api.ON, api.PDI, api.RLE, api.ON, api.PDF, api.PDF, api.RLE, api.ON}, []int{-1, 124, 124, 124, -1, 124, -1, -1, -1, 125}},
		{[]int{api.LRI, api.RLI, api.ON, api.PDI, api.RLE, api.ON, api.PDI, api.RLE, api.ON}, []int{124, 124, 124, 124, -1, 124, 124, -1, 125}},
		// Embeddings within isolates that overflow are not counted, and PDFs there end none.
		{[]int{api.LRI, api.RLE, api.RLE, api.PDI, api.RLE, api.ON}, []int{124, -1, -1, 124, -1, 125}},
		{[]int{api.LRI, api.PDF, api.PDF, api.ON, api.PDI, api.PDF, api.ON}, []int{124, -1, -1, 124, 124, -1, 123}},
		// Isolates that overflow within embeddings that overflow: the embeddings still do behind them.
		{[]int{api.LRE, api.LRE, api.LRI, api.PDF, api.PDF, api.PDI, api.PDF, api.RLE, api.ON, api.PDF, api.PDF, api.RLE, api.ON}, []int{-1, -1, 124, -1, -1, 124, -1, -1, 124, -1, -1, -1, 125}},
		// A PDI that ends nothing takes no overflow away.
		{[]int{api.LRE, api.PDI, api.RLE, api.ON, api.PDF, api.PDF, api.ON, api.PDF, api.ON}, []int{-1, 124, -1, 124, -1, -1, 124, -1, 123}},
		// Embeddings that overflow within an isolate that is valid: its PDI ends them all.
		{[]int{api.RLI, api.LRE, api.RLE, api.ON, api.PDI, api.RLE, api.ON}, []int{124, -1, -1, 125, 124, -1, 125}},
		{[]int{api.RLI, api.LRE, api.RLE, api.PDI, api.PDF, api.ON}, []int{124, -1, -1, 124, -1, 123}},
		{[]int{api.RLI, api.LRE, api.LRI, api.RLE, api.PDI, api.PDF, api.PDF, api.ON, api.PDI, api.ON, api.RLI, api.ON}, []int{124, -1, 125, -1, 125, -1, -1, 125, 124, 124, 124, 125}},
	} {
		checkLevels(t, list(up(), x.c), 0, list(upLevels(), x.levels))
	}
}

func TestP7_1OverridesAtTheDeepestLevels(t *testing.T) {
	// One that overflows overrides nothing, and the one around it goes on.
	start, startLevels := list(up(), []int{api.RLO}), list(upLevels(), []int{-1})
	check(t, list(start, []int{api.LRO, api.ON, api.RLI, api.ON, api.PDI, api.PDF, api.EN, api.PDF, api.EN, api.LRO, api.EN}), 0,
		list(startLevels, []int{-1, 125, 125, 125, 125, -1, 125, -1, 124, -1, 124}),
		list(start, []int{api.LRO, api.R, api.R, api.R, api.R, api.PDF, api.R, api.PDF, api.EN, api.LRO, api.EN}))
}

func TestP7_1MixedUpToMaxDepthAndBeyond(t *testing.T) {
	for n := 120; n <= 130; n++ {
		for _, classes := range [][]int{{api.RLE, api.LRI}, {api.RLI, api.LRE}, {api.RLO, api.LRI, api.RLI, api.LRO}, {api.FSI, api.RLE, api.LRI, api.RLO}} {
			start := repeat(n/len(classes)+1, classes...)[:n]
			for _, ends := range [][]int{{api.PDF}, {api.PDI}, {api.PDI, api.PDF}, {api.PDF, api.PDI}} {
				c := list(start, []int{api.ON})
				for range n + 4 {
					for _, end := range ends {
						c = append(c, end, api.ON)
					}
				}
				for base := range 2 {
					levels, types := resolveByWords(c, base)
					check(t, c, base, levels, types)
				}
			}
		}
	}
}

func TestP7_1AsTheWordsHaveIt(t *testing.T) {
	eachList(func(c []int) {
		for base := range 2 {
			levels, types := resolveByWords(c, base)
			check(t, c, base, levels, types)
		}
	})
}

func TestP7_1AsTheWordsHaveItWithASeparator(t *testing.T) {
	listsOf([]int{api.RLO, api.LRE, api.PDF, api.RLI, api.FSI, api.PDI, api.R}, 4, func(c []int) {
		c = append(c, api.B)
		for base := range 2 {
			levels, types := resolveByWords(c, base)
			check(t, c, base, levels, types)
			if last := len(c) - 1; levels[last] != base || types[last] != api.B {
				t.Fatalf("%v: %v, %v", c, levels, types)
			}
		}
	})
}

func TestP7_1WrongBase(t *testing.T) {
	wrong := []int{math.MinInt, math.MinInt + 1, math.MinInt32, -256, -125, -2, -1, 2, 3, 125, 126, 256, 257, 1 << 32, 1<<32 + 1, math.MaxInt - 1, math.MaxInt}
	for _, base := range wrong {
		for _, c := range lists {
			checkError(t, c, base, api.ErrArg)
		}
		// It is told ahead of what else is wrong.
		checkError(t, []int{api.B, api.L}, base, api.ErrArg)
		checkError(t, []int{0}, base, api.ErrArg)
		checkError(t, []int{api.L, math.MaxInt, api.B, api.B}, base, api.ErrArg)
	}
}

func TestP7_1WrongClasses(t *testing.T) {
	for _, n := range noClasses {
		for base := range 2 {
			checkError(t, []int{n}, base, api.ErrForm)
			checkError(t, []int{n, api.L, api.R}, base, api.ErrForm)
			checkError(t, []int{api.RLE, n, api.PDF}, base, api.ErrForm)
			checkError(t, []int{api.RLI, api.L, api.PDI, n}, base, api.ErrForm)
			checkError(t, []int{n, api.B}, base, api.ErrForm)
			checkError(t, []int{api.B, n}, base, api.ErrForm)
			checkError(t, list(repeat(500, api.L), []int{n}), base, api.ErrForm)
		}
	}
}

func TestP7_1WhereASeparatorMayStand(t *testing.T) {
	for base := range 2 {
		checkLevels(t, []int{api.B}, base, []int{base})
		checkLevels(t, []int{api.L, api.B}, base, []int{base, base})
		checkLevels(t, []int{api.RLE, api.RLI, api.B}, base, []int{-1, 1 + 2*base, base})
		for _, class := range allClasses() {
			checkError(t, []int{api.B, class}, base, api.ErrForm)
			checkError(t, []int{class, api.B, class}, base, api.ErrForm)
			checkError(t, []int{api.RLI, api.B, api.PDI, class}, base, api.ErrForm)
		}
		checkError(t, []int{api.B, api.B}, base, api.ErrForm)
		checkError(t, []int{api.L, api.B, api.B}, base, api.ErrForm)
	}
}

func TestP7_1Removed(t *testing.T) {
	for _, class := range allClasses() {
		if want := slices.Contains(removed, class); Removed(class) != want {
			t.Errorf("Removed(%d): %t", class, !want)
		}
	}
	for _, n := range noClasses {
		if Removed(n) {
			t.Errorf("Removed(%d)", n)
		}
	}
}

// far is how long the long lists are; going through one anew at each of its places would take far too long.
const far = 1 << 20

func TestP7_1OfLongLists(t *testing.T) {
	for _, c := range [][]int{
		repeat(far, api.FSI), repeat(far, api.RLI), repeat(far, api.LRO), repeat(far, api.PDI), repeat(far, api.PDF),
		repeat(far/2, api.FSI, api.RLE), repeat(far/2, api.FSI, api.PDI), repeat(far/3, api.FSI, api.R, api.PDI), repeat(far/4, api.RLI, api.LRO, api.PDI, api.AL),
		list(repeat(far/2, api.FSI), []int{api.R}, repeat(far/2, api.PDI)),
		list(repeat(far/2, api.FSI, api.LRE), repeat(far/2, api.PDI)),
		// Just not deep enough to overflow.
		list(repeat(61, api.FSI), repeat(far/3, api.FSI, api.ON, api.PDI)),
		list(up(), repeat(far, api.FSI)), list(up(), repeat(far/2, api.FSI, api.PDI)),
		list([]int{api.LRE}, repeat(62, api.LRI), repeat(far/2, api.FSI), repeat(far/2, api.PDI)),
	} {
		levels, types, e := Resolve(c, 1)
		if e != api.OK || len(levels) != len(c) || len(types) != len(c) {
			t.Fatalf("%d, %d, %d", len(levels), len(types), e)
		}
		for i, level := range levels {
			if level > api.MaxDepth || (level == -1) != Removed(c[i]) {
				t.Fatalf("at %d: %d", i, level)
			}
		}
	}
	c := list(repeat(far, api.RLI), repeat(far+3, api.PDI))
	levels, _ := mustResolve(t, c, 0)
	for i := range far {
		if want := min(2*i-min(i, 1), 125); levels[i] != want || levels[2*far-1-i] != want {
			t.Fatalf("at %d: %d, %d; wanted %d", i, levels[i], levels[2*far-1-i], want)
		}
	}
	if tail := levels[2*far:]; !slices.Equal(tail, []int{0, 0, 0}) {
		t.Fatalf("behind them: %v", tail)
	}
}

func TestP7_2WhichLevelsThereAre(t *testing.T) {
	eachList(func(c []int) {
		for base := range 2 {
			levels, types := mustResolve(t, c, base)
			for i, level := range levels {
				if slices.Contains(removed, c[i]) {
					if level != -1 || types[i] != c[i] {
						t.Fatalf("Resolve(%v, %d): %v: what is removed at %d", c, base, levels, i)
					}
				} else if level < base || level > 125 {
					t.Fatalf("Resolve(%v, %d): %v: the level at %d", c, base, levels, i)
				}
				if types[i] != c[i] && types[i] != api.L && types[i] != api.R {
					t.Fatalf("Resolve(%v, %d): %v: the type at %d", c, base, types, i)
				}
			}
		}
	})
}

func TestP7_2AnInitiatorAndItsPDIHaveOneLevel(t *testing.T) {
	eachList(func(c []int) {
		match := isolate.Match(c)
		for base := range 2 {
			levels, types := mustResolve(t, c, base)
			for i, end := range match {
				if end <= i || end == len(c) {
					continue
				}
				if levels[i] != levels[end] {
					t.Fatalf("Resolve(%v, %d): %v: the levels of %d and %d", c, base, levels, i, end)
				}
				// They lie in the same overrides, too.
				if (types[i] == c[i]) != (types[end] == c[end]) || types[i] != c[i] && types[i] != types[end] {
					t.Fatalf("Resolve(%v, %d): %v: the types of %d and %d", c, base, types, i, end)
				}
			}
		}
	})
}

func TestP7_2WithoutBeginners(t *testing.T) {
	var others []int
	for _, class := range allClassesButB() {
		if !slices.Contains(beginners, class) {
			others = append(others, class)
		}
	}
	plain := func(c []int) {
		for base := range 2 {
			want := repeat(len(c), base)
			for i, class := range c {
				if slices.Contains(removed, class) {
					want[i] = -1
				}
			}
			checkLevels(t, c, base, want)
		}
	}
	listsOf(others, 3, plain)
	listsOf(others, 2, func(c []int) { plain(append(c, api.B)) })
	listsOf([]int{api.PDI, api.PDF, api.L, api.R}, 6, plain)
	mixed(others, 20, 2000, plain)
}

// filled is a list in which other places stand in the outermost isolates, those that no PDI ends too.
func filled(c, inside []int) []int {
	var out []int
	for i, depth := range isolate.Depth(c) {
		if depth > 0 {
			continue
		}
		out = append(out, c[i])
		if slices.Contains(initiators, c[i]) {
			out = append(out, inside...)
		}
	}
	return out
}

// outsideOf are those numbers of a list whose places lie in no isolate of c.
func outsideOf(c, numbers []int) []int {
	var out []int
	for i, depth := range isolate.Depth(c) {
		if depth == 0 {
			out = append(out, numbers[i])
		}
	}
	return out
}

func TestP7_2WhatLiesInAnIsolateChangesNothingElse(t *testing.T) {
	// Each has as many PDIs as initiators, so that the isolates around it end where they did.
	fills := [][]int{
		nil, {api.L}, {api.R}, {api.RLE}, {api.LRO, api.PDF, api.PDF}, {api.PDF, api.PDF, api.PDF}, {api.RLO, api.RLO, api.LRI, api.LRO, api.PDI}, {api.FSI, api.AL, api.PDI, api.R},
		repeat(130, api.RLE), repeat(130, api.LRE), list(repeat(70, api.LRO), repeat(30, api.PDF)),
		list(repeat(130, api.RLI), repeat(130, api.PDI)), list(repeat(70, api.RLE), repeat(3, api.LRI), repeat(3, api.PDI)),
	}
	refill := func(c []int) {
		for base := range 2 {
			levels, types := mustResolve(t, c, base)
			wantLevels, wantTypes := outsideOf(c, levels), outsideOf(c, types)
			for _, inside := range fills {
				other := filled(c, inside)
				levels, types := mustResolve(t, other, base)
				gotLevels, gotTypes := outsideOf(other, levels), outsideOf(other, types)
				if !slices.Equal(gotLevels, wantLevels) || !slices.Equal(gotTypes, wantTypes) {
					t.Fatalf("%v, %d: %v, %v; with %v: %v, %v", c, base, wantLevels, wantTypes, inside, gotLevels, gotTypes)
				}
			}
		}
	}
	for _, c := range lists {
		refill(c)
	}
	listsOf([]int{api.RLI, api.FSI, api.PDI, api.LRO, api.PDF, api.ON}, 5, refill)
	for _, start := range deepStarts()[:6] {
		listsOf([]int{api.RLI, api.PDI, api.LRO, api.PDF, api.ON}, 3, func(c []int) { refill(list(start, c)) })
	}
}

func TestRule4WhatIsHandedInStaysAsItIs(t *testing.T) {
	room := []int{api.RLO, api.FSI, api.L, api.PDF, api.PDI, api.BN, api.R, api.PDF, api.B, api.LRO, api.R, 77}
	before := slices.Clone(room)
	for k := range len(room) + 1 {
		for base := -1; base <= 2; base++ {
			Resolve(room[:k], base)
		}
	}
	if !slices.Equal(room, before) {
		t.Errorf("the classes have become %v", room)
	}
}

func TestRule8WhatLiesBehindALengthIsNotRead(t *testing.T) {
	room := []int{api.FSI, api.ON, api.R, api.PDI, api.B, api.L, 0}
	checkLevels(t, room[:2], 0, []int{0, 2})
	checkLevels(t, room[:3], 0, []int{0, 1, 1})
	checkLevels(t, room[:5], 0, []int{0, 1, 1, 0, 0})
	checkLevels(t, room[5:6], 0, []int{0})
	checkLevels(t, room[:0], 0, nil)
	checkError(t, room[:6], 0, api.ErrForm)
}

// spoil writes over a list, its spare room too.
func spoil(l []int) {
	l = l[:cap(l)]
	for i := range l {
		l[i] = -5
	}
}

func TestRule4WhatIsHandedOutIsNew(t *testing.T) {
	for _, c := range lists {
		for base := range 2 {
			before := slices.Clone(c)
			wantLevels, wantTypes := resolveByWords(c, base)
			levels, types := mustResolve(t, c, base)
			spoil(levels)
			if !slices.Equal(types, wantTypes) {
				t.Errorf("Resolve(%v, %d): types have become %v", c, base, types)
			}
			spoil(types)
			if !slices.Equal(c, before) {
				t.Errorf("%v has become %v", before, c)
			}
			check(t, c, base, wantLevels, wantTypes)
		}
	}
}

func TestRule4WhatIsHandedInIsNotKept(t *testing.T) {
	c := []int{api.RLO, api.L, api.LRI, api.ON, api.PDI}
	levels, types := mustResolve(t, c, 0)
	spoil(c)
	if !slices.Equal(levels, []int{-1, 1, 1, 2, 1}) || !slices.Equal(types, []int{api.RLO, api.R, api.R, api.ON, api.R}) {
		t.Errorf("they have become %v, %v", levels, types)
	}
	checkError(t, c, 0, api.ErrForm)
	// What was kept of a call would be seen in the next one.
	checkLevels(t, []int{api.L, api.PDF, api.PDI, api.R}, 1, []int{1, -1, 1, 1})
}
