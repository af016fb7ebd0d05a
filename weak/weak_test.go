package weak

import (
	"math"
	"slices"
	"testing"

	"colophon/api"
)

const ruleCount = 7

var (
	sides    = []int{api.L, api.R}
	isolates = []int{api.LRI, api.RLI, api.FSI, api.PDI}
	removed  = []int{api.RLE, api.LRE, api.RLO, api.LRO, api.PDF, api.BN}
)

// noClasses are numbers that are no classes, some of which have the lower bits of one.
var noClasses = []int{
	math.MinInt, math.MinInt + api.L, -256 + api.R, -api.PDI, -api.NSM, -1, 0, 24, 25, 32 + api.EN, 64 + api.AL, 256 + api.L, 1<<16 + api.ET, 1<<32 + api.NSM, math.MaxInt - 1, math.MaxInt,
}

// wrongSides are numbers that are neither L nor R: other classes, and some that have the lower bits of L or R.
var wrongSides = []int{
	math.MinInt, math.MinInt + api.L, -256 + api.R, -api.R, -api.L, 0, api.AL, api.EN, api.AN, api.NSM, api.BN, api.ON, api.LRE, api.RLI, api.PDI, 24, 256 + api.L, 1<<32 + api.L, 1<<32 + api.R, math.MaxInt - 1, math.MaxInt,
}

// wrongRules are numbers of no rules.
var wrongRules = []int{math.MinInt, math.MinInt + 1, math.MinInt + 7, -256 + 3, -7, -1, 0, 8, 9, 16, 256 + 1, 1<<32 + 1, 1<<32 + 7, math.MaxInt - 1, math.MaxInt}

// wrongTypes are numbers of types that may not be.
func wrongTypes() []int { return slices.Concat(removed, noClasses) }

// allTypes are those that may be.
func allTypes() []int {
	var l []int
	for kind := api.L; kind <= api.PDI; kind++ {
		if !slices.Contains(removed, kind) {
			l = append(l, kind)
		}
	}
	return l
}

// list puts numbers together, as a list.
func list(numbers ...int) []int { return numbers }

// join puts lists together.
func join(parts ...[]int) []int { return slices.Concat(parts...) }

// repeat is a list in which these numbers stand n times.
func repeat(n int, numbers ...int) []int { return slices.Repeat(numbers, n) }

// listsOf calls do with each list of some of these numbers that is no longer than length.
func listsOf(numbers []int, length int, do func([]int)) {
	var more func(l []int)
	more = func(l []int) {
		do(slices.Clone(l))
		if len(l) == length {
			return
		}
		for _, n := range numbers {
			more(append(l, n))
		}
	}
	more(make([]int, 0, length))
}

// mixed are long lists of some of these numbers, always the same ones.
func mixed(numbers []int, count, length int, do func([]int)) {
	seed := uint64(9)
	for range count {
		l := make([]int, length)
		for i := range l {
			seed = seed*6364136223846793005 + 1442695040888963407
			l[i] = numbers[int(seed>>33)%len(numbers)]
		}
		do(l)
	}
}

// eachList calls do with all small lists over some choices of types, and with longer ones.
func eachList(do func([]int)) {
	listsOf(allTypes(), 4, do)
	listsOf(list(api.L, api.AL, api.EN, api.ET, api.CS, api.NSM), 6, do)
	listsOf(list(api.EN, api.AN, api.ES, api.CS, api.R), 6, do)
	listsOf(list(api.EN, api.ET, api.AN, api.L), 7, do)
	listsOf(list(api.NSM, api.RLI, api.PDI, api.ON, api.EN), 6, do)
	mixed(allTypes(), 50, 300, do)
	mixed(list(api.EN, api.EN, api.EN, api.ET, api.ET, api.ET, api.CS, api.ES, api.NSM, api.AL, api.L, api.R, api.AN), 50, 300, do)
}

// strongByWords goes backward from a place to the last one ahead of it that is strong.
func strongByWords(t []int, place, sos int) int {
	for i := place - 1; i >= 0; i-- {
		if t[i] == api.L || t[i] == api.R || t[i] == api.AL {
			return t[i]
		}
	}
	return sos
}

// typeByWords is the type at a place, and none, if there is no such place.
func typeByWords(t []int, place int) int {
	if place < 0 || place >= len(t) {
		return -1
	}
	return t[place]
}

// markByWords is the type of an NSM: left is how this rule has left what is ahead of it.
func markByWords(left []int, place, sos int) int {
	if place == 0 {
		return sos
	}
	if slices.Contains(isolates, left[place-1]) {
		return api.ON
	}
	return left[place-1]
}

// separatorByWords is the type of what may be a separator.
func separatorByWords(t, left []int, place int) int {
	ahead, next := typeByWords(left, place-1), typeByWords(t, place+1)
	if t[place] == api.ES && ahead == api.EN && next == api.EN {
		return api.EN
	}
	if t[place] == api.CS && ahead == api.EN && next == api.EN {
		return api.EN
	}
	if t[place] == api.CS && ahead == api.AN && next == api.AN {
		return api.AN
	}
	return t[place]
}

// terminatorByWords is the type of an ET: it looks both ways, past all other ETs.
func terminatorByWords(t []int, place int) int {
	from, to := place, place
	for typeByWords(t, from) == api.ET {
		from--
	}
	for typeByWords(t, to) == api.ET {
		to++
	}
	if typeByWords(t, from) == api.EN || typeByWords(t, to) == api.EN {
		return api.EN
	}
	return api.ET
}

// oneByWords is the type at a place behind a rule: t is what was, left is how the rule has left what is ahead.
func oneByWords(t, left []int, place, sos, rule int) int {
	kind := t[place]
	switch {
	case rule == 1 && kind == api.NSM:
		return markByWords(left, place, sos)
	case rule == 2 && kind == api.EN && strongByWords(left, place, sos) == api.AL:
		return api.AN
	case rule == 3 && kind == api.AL:
		return api.R
	case rule == 4:
		return separatorByWords(t, left, place)
	case rule == 5 && kind == api.ET:
		return terminatorByWords(t, place)
	case rule == 6 && (kind == api.ES || kind == api.ET || kind == api.CS):
		return api.ON
	case rule == 7 && kind == api.EN && strongByWords(left, place, sos) == api.L:
		return api.L
	}
	return kind
}

func stepByWords(t []int, sos, rule int) []int {
	var left []int
	for i := range t {
		left = append(left, oneByWords(t, left, i, sos, rule))
	}
	return left
}

func resolveByWords(t []int, sos int) []int {
	for rule := 1; rule <= ruleCount; rule++ {
		t = stepByWords(t, sos, rule)
	}
	return t
}

func checkStep(t *testing.T, types []int, sos, rule int, want []int) {
	t.Helper()
	if got, e := Step(types, sos, rule); e != api.OK || !slices.Equal(got, want) {
		t.Fatalf("Step(%v, %d, %d): %v, %d; wanted %v", types, sos, rule, got, e, want)
	}
}

// checkBoth holds a rule against what is wanted for both sides.
func checkBoth(t *testing.T, types []int, rule int, want []int) {
	t.Helper()
	for _, sos := range sides {
		checkStep(t, types, sos, rule, want)
	}
}

func checkStepError(t *testing.T, types []int, sos, rule int, want api.Errno) {
	t.Helper()
	if got, e := Step(types, sos, rule); len(got) != 0 || e != want {
		t.Fatalf("Step(%v, %d, %d): %v, %d; wanted the error %d", types, sos, rule, got, e, want)
	}
}

func checkResolve(t *testing.T, types []int, sos int, want []int) {
	t.Helper()
	if got, e := Resolve(types, sos); e != api.OK || !slices.Equal(got, want) {
		t.Fatalf("Resolve(%v, %d): %v, %d; wanted %v", types, sos, got, e, want)
	}
}

func checkResolveError(t *testing.T, types []int, sos int, want api.Errno) {
	t.Helper()
	if got, e := Resolve(types, sos); len(got) != 0 || e != want {
		t.Fatalf("Resolve(%v, %d): %v, %d; wanted the error %d", types, sos, got, e, want)
	}
}

func TestP9_1NoTypes(t *testing.T) {
	for rule := 1; rule <= ruleCount; rule++ {
		checkBoth(t, nil, rule, nil)
		checkBoth(t, list(), rule, nil)
	}
}

func TestP9_1OneType(t *testing.T) {
	// What a rule makes of a type that stands alone; all others stay as they are.
	other := []map[int]int{1: {}, 2: {}, 3: {api.AL: api.R}, 4: {}, 5: {}, 6: {api.ES: api.ON, api.ET: api.ON, api.CS: api.ON}, 7: {}}
	for _, sos := range sides {
		other[1][api.NSM] = sos
		other[7][api.EN] = api.EN
		if sos == api.L {
			other[7][api.EN] = api.L
		}
		for rule := 1; rule <= ruleCount; rule++ {
			for _, kind := range allTypes() {
				want := kind
				if turned, has := other[rule][kind]; has {
					want = turned
				}
				checkStep(t, list(kind), sos, rule, list(want))
			}
		}
	}
}

func TestP9_1Rule1(t *testing.T) {
	for _, sos := range sides {
		checkStep(t, list(api.NSM), sos, 1, list(sos))
		checkStep(t, list(api.NSM, api.NSM, api.NSM), sos, 1, list(sos, sos, sos))
		checkStep(t, list(api.NSM, api.AL, api.NSM), sos, 1, list(sos, api.AL, api.AL))
	}
	for _, kind := range allTypes() {
		switch kind {
		case api.NSM:
		case api.LRI, api.RLI, api.FSI, api.PDI:
			checkBoth(t, list(kind, api.NSM), 1, list(kind, api.ON))
			// The second one stands behind ON, not behind the isolate.
			checkBoth(t, list(kind, api.NSM, api.NSM), 1, list(kind, api.ON, api.ON))
			checkBoth(t, list(api.R, kind, api.NSM, api.L, api.NSM), 1, list(api.R, kind, api.ON, api.L, api.L))
		default:
			checkBoth(t, list(kind, api.NSM), 1, list(kind, kind))
			checkBoth(t, list(kind, api.NSM, api.NSM, api.NSM), 1, list(kind, kind, kind, kind))
			checkBoth(t, list(api.PDI, kind, api.NSM, api.PDI), 1, list(api.PDI, kind, kind, api.PDI))
		}
	}
	// What is behind counts for nothing.
	checkStep(t, list(api.NSM, api.R), api.L, 1, list(api.L, api.R))
	checkBoth(t, list(api.ON, api.NSM, api.L), 1, list(api.ON, api.ON, api.L))
}

func TestP9_1Rule2(t *testing.T) {
	checkBoth(t, list(api.AL, api.EN), 2, list(api.AL, api.AN))
	checkBoth(t, list(api.R, api.EN), 2, list(api.R, api.EN))
	checkBoth(t, list(api.L, api.EN), 2, list(api.L, api.EN))
	checkBoth(t, list(api.EN), 2, list(api.EN))
	// The last strong one ahead counts, none behind does.
	checkBoth(t, list(api.AL, api.L, api.EN), 2, list(api.AL, api.L, api.EN))
	checkBoth(t, list(api.AL, api.R, api.EN), 2, list(api.AL, api.R, api.EN))
	checkBoth(t, list(api.L, api.AL, api.EN), 2, list(api.L, api.AL, api.AN))
	checkBoth(t, list(api.R, api.AL, api.EN, api.L, api.EN), 2, list(api.R, api.AL, api.AN, api.L, api.EN))
	checkBoth(t, list(api.EN, api.AL), 2, list(api.EN, api.AL))
	// All others are gone past, as often as they come.
	for _, kind := range allTypes() {
		switch kind {
		case api.L, api.R, api.AL, api.EN:
		default:
			checkBoth(t, list(api.AL, kind, api.EN), 2, list(api.AL, kind, api.AN))
			checkBoth(t, list(api.AL, kind, kind, api.EN, kind, api.EN), 2, list(api.AL, kind, kind, api.AN, kind, api.AN))
			checkBoth(t, list(api.R, kind, api.EN), 2, list(api.R, kind, api.EN))
			checkBoth(t, list(api.L, kind, api.EN), 2, list(api.L, kind, api.EN))
			checkBoth(t, list(kind, api.EN), 2, list(kind, api.EN))
		}
	}
	checkBoth(t, list(api.AL, api.EN, api.EN, api.EN), 2, list(api.AL, api.AN, api.AN, api.AN))
}

func TestP9_1Rule3(t *testing.T) {
	checkBoth(t, list(api.AL), 3, list(api.R))
	checkBoth(t, list(api.AL, api.EN), 3, list(api.R, api.EN))
	checkBoth(t, list(api.L, api.AL, api.AL, api.NSM, api.R, api.AL), 3, list(api.L, api.R, api.R, api.NSM, api.R, api.R))
}

func TestP9_1Rule4(t *testing.T) {
	for _, x := range []struct{ types, want []int }{
		{list(api.EN, api.ES, api.EN), list(api.EN, api.EN, api.EN)},
		{list(api.EN, api.CS, api.EN), list(api.EN, api.EN, api.EN)},
		{list(api.AN, api.CS, api.AN), list(api.AN, api.AN, api.AN)},
		// ES is no separator of AN, ET of none.
		{list(api.AN, api.ES, api.AN), list(api.AN, api.ES, api.AN)},
		{list(api.EN, api.ET, api.EN), list(api.EN, api.ET, api.EN)},
		// Between numbers of two kinds, or of one kind and something else.
		{list(api.EN, api.CS, api.AN), list(api.EN, api.CS, api.AN)},
		{list(api.AN, api.CS, api.EN), list(api.AN, api.CS, api.EN)},
		{list(api.EN, api.ES, api.AN), list(api.EN, api.ES, api.AN)},
		{list(api.AN, api.ES, api.EN), list(api.AN, api.ES, api.EN)},
		{list(api.L, api.CS, api.L), list(api.L, api.CS, api.L)},
		{list(api.EN, api.CS, api.NSM), list(api.EN, api.CS, api.NSM)},
		{list(api.ET, api.CS, api.EN), list(api.ET, api.CS, api.EN)},
		// At the ends.
		{list(api.CS, api.EN), list(api.CS, api.EN)},
		{list(api.EN, api.CS), list(api.EN, api.CS)},
		{list(api.ES, api.EN, api.ES), list(api.ES, api.EN, api.ES)},
		{list(api.CS, api.AN, api.CS), list(api.CS, api.AN, api.CS)},
		// Twice in a row.
		{list(api.EN, api.ES, api.ES, api.EN), list(api.EN, api.ES, api.ES, api.EN)},
		{list(api.EN, api.CS, api.ES, api.EN), list(api.EN, api.CS, api.ES, api.EN)},
		{list(api.AN, api.CS, api.CS, api.AN), list(api.AN, api.CS, api.CS, api.AN)},
		// Many, each between two numbers.
		{list(api.EN, api.ES, api.EN, api.CS, api.EN, api.ES, api.EN), list(api.EN, api.EN, api.EN, api.EN, api.EN, api.EN, api.EN)},
		{list(api.AN, api.CS, api.AN, api.CS, api.EN, api.CS, api.EN), list(api.AN, api.AN, api.AN, api.CS, api.EN, api.EN, api.EN)},
	} {
		checkBoth(t, x.types, 4, x.want)
	}
}

func TestP9_1Rule5(t *testing.T) {
	for n := 1; n <= 5; n++ {
		stretch, numbers := repeat(n, api.ET), repeat(n, api.EN)
		checkBoth(t, stretch, 5, stretch)
		checkBoth(t, join(stretch, list(api.EN)), 5, join(numbers, list(api.EN)))
		checkBoth(t, join(list(api.EN), stretch), 5, join(list(api.EN), numbers))
		checkBoth(t, join(list(api.EN), stretch, list(api.EN)), 5, join(list(api.EN), numbers, list(api.EN)))
		for _, kind := range allTypes() {
			if kind == api.EN || kind == api.ET {
				continue
			}
			apart := list(kind)
			checkBoth(t, join(apart, stretch, apart), 5, join(apart, stretch, apart))
			checkBoth(t, join(list(api.EN), apart, stretch, apart, list(api.EN)), 5, join(list(api.EN), apart, stretch, apart, list(api.EN)))
			checkBoth(t, join(apart, stretch, list(api.EN), stretch, apart, stretch), 5, join(apart, numbers, list(api.EN), numbers, apart, stretch))
			checkBoth(t, join(stretch, apart, stretch, list(api.EN)), 5, join(stretch, apart, numbers, list(api.EN)))
		}
	}
}

func TestP9_1Rule6(t *testing.T) {
	checkBoth(t, list(api.ES, api.ET, api.CS), 6, list(api.ON, api.ON, api.ON))
	checkBoth(t, list(api.EN, api.ES, api.EN, api.ET, api.AN, api.CS, api.AN), 6, list(api.EN, api.ON, api.EN, api.ON, api.AN, api.ON, api.AN))
	checkBoth(t, list(api.NSM, api.AL, api.WS, api.ON), 6, list(api.NSM, api.AL, api.WS, api.ON))
}

func TestP9_1Rule7(t *testing.T) {
	checkStep(t, list(api.EN), api.L, 7, list(api.L))
	checkStep(t, list(api.EN), api.R, 7, list(api.EN))
	checkStep(t, list(api.ON, api.EN, api.R, api.EN), api.L, 7, list(api.ON, api.L, api.R, api.EN))
	checkStep(t, list(api.ON, api.EN, api.L, api.EN), api.R, 7, list(api.ON, api.EN, api.L, api.L))
	checkBoth(t, list(api.L, api.EN), 7, list(api.L, api.L))
	checkBoth(t, list(api.R, api.EN), 7, list(api.R, api.EN))
	// AL is strong, too, for whoever has not applied rule 3.
	checkBoth(t, list(api.AL, api.EN), 7, list(api.AL, api.EN))
	checkBoth(t, list(api.L, api.AL, api.EN), 7, list(api.L, api.AL, api.EN))
	checkBoth(t, list(api.L, api.AN), 7, list(api.L, api.AN))
	for _, kind := range allTypes() {
		switch kind {
		case api.L, api.R, api.AL, api.EN:
		default:
			checkBoth(t, list(api.L, kind, kind, api.EN, kind, api.EN), 7, list(api.L, kind, kind, api.L, kind, api.L))
			checkBoth(t, list(api.R, kind, kind, api.EN), 7, list(api.R, kind, kind, api.EN))
			checkStep(t, list(kind, api.EN), api.L, 7, list(kind, api.L))
			checkStep(t, list(kind, api.EN), api.R, 7, list(kind, api.EN))
		}
	}
}

func TestP9_1AsTheWordsHaveIt(t *testing.T) {
	eachList(func(types []int) {
		for _, sos := range sides {
			for rule := 1; rule <= ruleCount; rule++ {
				checkStep(t, types, sos, rule, stepByWords(types, sos, rule))
			}
		}
	})
}

func TestP9_1WrongArguments(t *testing.T) {
	listsThatMayBe := [][]int{nil, list(), list(api.L), list(api.NSM, api.B, api.EN, api.PDI)}
	listsThatMayNot := [][]int{list(api.BN), list(api.L, 0), list(math.MaxInt, api.RLE, api.R)}
	for _, types := range slices.Concat(listsThatMayBe, listsThatMayNot) {
		for _, sos := range wrongSides {
			for rule := 1; rule <= ruleCount; rule++ {
				checkStepError(t, types, sos, rule, api.ErrArg)
			}
			for _, rule := range wrongRules {
				checkStepError(t, types, sos, rule, api.ErrArg)
			}
		}
		for _, sos := range sides {
			for _, rule := range wrongRules {
				checkStepError(t, types, sos, rule, api.ErrArg)
			}
		}
	}
	for _, types := range listsThatMayNot {
		for _, sos := range sides {
			for rule := 1; rule <= ruleCount; rule++ {
				checkStepError(t, types, sos, rule, api.ErrForm)
			}
		}
	}
}

// listsWith are lists with a number at each of their places, the only one that may not be.
func listsWith(n int, do func([]int)) {
	do(list(n))
	do(list(n, n))
	some := list(api.AL, api.NSM, api.EN, api.CS, api.EN, api.B, api.PDI)
	for at := range len(some) + 1 {
		do(slices.Insert(slices.Clone(some), at, n))
	}
}

func TestP9_1WrongTypes(t *testing.T) {
	for _, n := range wrongTypes() {
		listsWith(n, func(types []int) {
			for _, sos := range sides {
				for rule := 1; rule <= ruleCount; rule++ {
					checkStepError(t, types, sos, rule, api.ErrForm)
				}
			}
		})
	}
}

// A separator may stand anywhere: these are types of a sequence, not a paragraph.
func TestP9_1WhichTypesMayBe(t *testing.T) {
	for _, kind := range allTypes() {
		for rule := 1; rule <= ruleCount; rule++ {
			for _, types := range [][]int{list(kind, api.L), list(api.B, kind, api.B), list(api.S, kind)} {
				if got, e := Step(types, api.R, rule); e != api.OK || len(got) != len(types) {
					t.Errorf("Step(%v, R, %d): %v, %d", types, rule, got, e)
				}
			}
		}
	}
}

func TestP9_2AsTheExamplesHaveIt(t *testing.T) {
	checkResolve(t, list(api.AL, api.EN), api.L, list(api.R, api.AN))
	checkResolve(t, list(api.EN, api.CS, api.EN), api.R, list(api.EN, api.EN, api.EN))
	checkResolve(t, list(api.EN, api.CS, api.EN), api.L, list(api.L, api.L, api.L))
	checkResolve(t, list(api.ET, api.ET, api.EN), api.R, list(api.EN, api.EN, api.EN))
	checkResolve(t, list(api.AN, api.CS, api.EN), api.R, list(api.AN, api.ON, api.EN))
	checkResolve(t, list(api.NSM), api.R, list(api.R))
	for _, sos := range sides {
		checkResolve(t, list(api.PDI, api.NSM), sos, list(api.PDI, api.ON))
	}
}

func TestP9_2EmptyAndSmall(t *testing.T) {
	for _, sos := range sides {
		checkResolve(t, nil, sos, nil)
		checkResolve(t, list(), sos, nil)
		for _, kind := range allTypes() {
			want := kind
			switch kind {
			case api.NSM:
				want = sos
			case api.AL:
				want = api.R
			case api.ES, api.ET, api.CS:
				want = api.ON
			case api.EN:
				if sos == api.L {
					want = api.L
				}
			}
			checkResolve(t, list(kind), sos, list(want))
		}
	}
}

// What one rule leaves is what the next one works on.
func TestP9_2OneRuleBehindAnother(t *testing.T) {
	for _, x := range []struct {
		types []int
		sos   int
		want  []int
	}{
		// A mark on a letter or a number is one, ahead of all else.
		{list(api.AL, api.NSM, api.EN), api.L, list(api.R, api.R, api.AN)},
		{list(api.EN, api.NSM, api.CS, api.EN), api.R, list(api.EN, api.EN, api.EN, api.EN)},
		{list(api.EN, api.CS, api.NSM, api.EN), api.R, list(api.EN, api.ON, api.ON, api.EN)},
		{list(api.ET, api.NSM, api.EN), api.R, list(api.EN, api.EN, api.EN)},
		// Numbers behind AL are AN, ahead of separators and of terminators.
		{list(api.AL, api.EN, api.CS, api.EN), api.L, list(api.R, api.AN, api.AN, api.AN)},
		{list(api.AL, api.EN, api.ES, api.EN), api.L, list(api.R, api.AN, api.ON, api.AN)},
		{list(api.AL, api.EN, api.CS, api.AN), api.L, list(api.R, api.AN, api.AN, api.AN)},
		{list(api.AL, api.ET, api.EN), api.L, list(api.R, api.ON, api.AN)},
		// Separators ahead of terminators: what has become EN by the one rule draws others, not the other way about.
		{list(api.EN, api.CS, api.EN, api.ET, api.ET), api.R, list(api.EN, api.EN, api.EN, api.EN, api.EN)},
		{list(api.EN, api.CS, api.ET, api.EN), api.R, list(api.EN, api.ON, api.EN, api.EN)},
		{list(api.EN, api.ET, api.ES, api.EN), api.R, list(api.EN, api.EN, api.ON, api.EN)},
		// Numbers behind L are L, behind all else.
		{list(api.L, api.EN, api.ES, api.EN, api.ET, api.R, api.EN), api.R, list(api.L, api.L, api.L, api.L, api.L, api.R, api.EN)},
		{list(api.AL, api.L, api.EN, api.ET), api.R, list(api.R, api.L, api.L, api.L)},
		{list(api.L, api.AL, api.EN), api.L, list(api.L, api.R, api.AN)},
	} {
		checkResolve(t, x.types, x.sos, x.want)
	}
}

func TestP9_2AsTheWordsHaveIt(t *testing.T) {
	eachList(func(types []int) {
		for _, sos := range sides {
			checkResolve(t, types, sos, resolveByWords(types, sos))
		}
	})
}

func TestP9_2AsTheStepsOneByOne(t *testing.T) {
	oneByOne := func(types []int) {
		for _, sos := range sides {
			want := types
			for rule := 1; rule <= ruleCount; rule++ {
				next, e := Step(want, sos, rule)
				if e != api.OK {
					t.Fatalf("Step(%v, %d, %d): %d", want, sos, rule, e)
				}
				want = next
			}
			checkResolve(t, types, sos, want)
		}
	}
	listsOf(allTypes(), 3, oneByOne)
	mixed(allTypes(), 20, 1000, oneByOne)
}

func TestP9_2WhatIsRefused(t *testing.T) {
	for _, sos := range wrongSides {
		for _, types := range [][]int{nil, list(), list(api.L), list(api.BN), list(api.L, 0), list(math.MinInt, api.EN), list(api.RLO)} {
			checkResolveError(t, types, sos, api.ErrArg)
		}
	}
	for _, n := range wrongTypes() {
		listsWith(n, func(types []int) {
			for _, sos := range sides {
				checkResolveError(t, types, sos, api.ErrForm)
			}
		})
	}
}

// far is how long the long lists are; going through one anew at each of its places would take far too long.
const far = 1 << 20

func TestP9_2OfLongLists(t *testing.T) {
	alike := func(kind, sos, want int) { checkResolve(t, repeat(far, kind), sos, repeat(far, want)) }
	alike(api.NSM, api.R, api.R)
	alike(api.ET, api.L, api.ON)
	alike(api.EN, api.R, api.EN)
	alike(api.EN, api.L, api.L)
	alike(api.CS, api.L, api.ON)
	checkResolve(t, join(list(api.EN), repeat(far, api.ET)), api.R, repeat(far+1, api.EN))
	checkResolve(t, join(repeat(far, api.ET), list(api.EN)), api.R, repeat(far+1, api.EN))
	checkResolve(t, join(repeat(far, api.ET), list(api.AN)), api.R, join(repeat(far, api.ON), list(api.AN)))
	checkResolve(t, join(list(api.PDI), repeat(far, api.NSM)), api.R, join(list(api.PDI), repeat(far, api.ON)))
	checkResolve(t, join(list(api.AL), repeat(far, api.ON), list(api.EN)), api.L, join(list(api.R), repeat(far, api.ON), list(api.AN)))
	checkResolve(t, join(list(api.AL), repeat(far, api.EN, api.CS)), api.L, join(list(api.R), repeat(2*far-1, api.AN), list(api.ON)))
	checkResolve(t, repeat(far, api.ET, api.ES), api.R, repeat(2*far, api.ON))
}

// comesFrom tells whether a type may have become another one by the rules.
func comesFrom(was, is int) bool {
	switch is {
	case api.L:
		return slices.Contains(list(api.L, api.EN, api.NSM, api.ES, api.CS, api.ET), was)
	case api.R:
		return slices.Contains(list(api.R, api.AL, api.NSM), was)
	case api.EN:
		return slices.Contains(list(api.EN, api.NSM, api.ES, api.CS, api.ET), was)
	case api.AN:
		return slices.Contains(list(api.AN, api.EN, api.NSM, api.CS), was)
	}
	return was == is || was == api.NSM || is == api.ON && slices.Contains(list(api.ES, api.ET, api.CS), was)
}

func TestP9_3WhatIsLeft(t *testing.T) {
	gone := list(api.NSM, api.AL, api.ES, api.ET, api.CS)
	stays := join(list(api.L, api.R, api.B, api.S, api.WS, api.ON), isolates)
	eachList(func(types []int) {
		for _, sos := range sides {
			got, e := Resolve(types, sos)
			if e != api.OK || len(got) != len(types) {
				t.Fatalf("Resolve(%v, %d): %v, %d", types, sos, got, e)
			}
			for i, kind := range got {
				if slices.Contains(gone, kind) || !comesFrom(types[i], kind) || slices.Contains(stays, types[i]) && kind != types[i] {
					t.Fatalf("Resolve(%v, %d): %v: at %d", types, sos, got, i)
				}
			}
		}
	})
}

// Behind all rules none of them finds anything left to do.
func TestP9_3AllIsDone(t *testing.T) {
	eachList(func(types []int) {
		for _, sos := range sides {
			got, _ := Resolve(types, sos)
			for rule := 1; rule <= ruleCount; rule++ {
				checkStep(t, got, sos, rule, got)
			}
		}
	})
}

// spoil writes over a list, its spare room too.
func spoil(l []int) {
	l = l[:cap(l)]
	for i := range l {
		l[i] = -5
	}
}

func TestRule4WhatIsHandedInStaysAsItIs(t *testing.T) {
	room := list(api.NSM, api.AL, api.EN, api.CS, api.EN, api.PDI, api.NSM, api.L, api.EN, api.ES, api.EN, api.ET, api.ET, api.CS, api.BN, api.L, 77)
	before := slices.Clone(room)
	for k := range len(room) + 1 {
		for sos := -1; sos <= 4; sos++ {
			Resolve(room[:k], sos)
			for rule := -1; rule <= ruleCount+1; rule++ {
				Step(room[:k], sos, rule)
			}
		}
	}
	if !slices.Equal(room, before) {
		t.Errorf("it has become %v", room)
	}
}

func TestRule8WhatLiesBehindALengthIsNotRead(t *testing.T) {
	room := list(api.EN, api.CS, api.EN, api.ET, api.EN, api.BN, 0)
	checkResolve(t, room[:0], api.R, nil)
	checkResolve(t, room[:2], api.R, list(api.EN, api.ON))
	checkResolve(t, room[:3], api.R, list(api.EN, api.EN, api.EN))
	checkResolve(t, room[3:4], api.R, list(api.ON))
	checkResolve(t, room[3:5], api.R, list(api.EN, api.EN))
	checkResolveError(t, room[:6], api.R, api.ErrForm)
	checkBoth(t, room[:2], 4, list(api.EN, api.CS))
	checkBoth(t, room[3:4], 5, list(api.ET))
	checkBoth(t, room[5:5], 1, nil)
}

func TestRule4WhatIsHandedOutIsNew(t *testing.T) {
	lists := [][]int{nil, list(), list(api.L), list(api.ON, api.R), list(api.AL, api.EN, api.CS, api.NSM), list(api.L, api.EN, api.ET, api.PDI, api.B)}
	for _, types := range lists {
		// Spare room, of which nothing may be handed out.
		room := append(slices.Clone(types), api.L, api.R, api.AL)
		before := slices.Clone(room)
		types = room[:len(types)]
		for _, sos := range sides {
			for rule := 1; rule <= ruleCount; rule++ {
				got, _ := Step(types, sos, rule)
				again, _ := Step(types, sos, rule)
				_ = append(got, -9, -9)
				spoil(got)
				if !slices.Equal(room, before) || !slices.Equal(again, stepByWords(types, sos, rule)) {
					t.Errorf("Step(%v, %d, %d): %v has become %v, %v", types, sos, rule, before, room, again)
				}
			}
			got, _ := Resolve(types, sos)
			again, _ := Resolve(types, sos)
			_ = append(got, -9, -9)
			spoil(got)
			if !slices.Equal(room, before) || !slices.Equal(again, resolveByWords(types, sos)) {
				t.Errorf("Resolve(%v, %d): %v has become %v, %v", types, sos, before, room, again)
			}
		}
	}
}

func TestRule4WhatIsHandedInIsNotKept(t *testing.T) {
	types := list(api.L, api.ON, api.EN)
	stepped, _ := Step(types, api.R, 6)
	resolved, _ := Resolve(types, api.R)
	spoil(types)
	if !slices.Equal(stepped, list(api.L, api.ON, api.EN)) || !slices.Equal(resolved, list(api.L, api.ON, api.L)) {
		t.Errorf("they have become %v, %v", stepped, resolved)
	}
}
