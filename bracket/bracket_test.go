package bracket

import (
	"math"
	"slices"
	"testing"

	"colophon/api"
)

// one is what stands at a place: its number, its type ahead of the rules for weak types, and behind them.
type one struct {
	r      rune
	was, t int
}

// What the lists are made of.
var (
	open        = one{'(', api.ON, api.ON}
	shut        = one{')', api.ON, api.ON}
	openSquare  = one{'[', api.ON, api.ON}
	shutSquare  = one{']', api.ON, api.ON}
	openAngle   = one{0x2329, api.ON, api.ON}
	shutAngle   = one{0x232a, api.ON, api.ON}
	openCorner  = one{0x3008, api.ON, api.ON}
	shutCorner  = one{0x3009, api.ON, api.ON}
	latin       = one{'a', api.L, api.L}
	hebrew      = one{0x5d0, api.R, api.R}
	number      = one{'1', api.EN, api.EN}
	arabNumber  = one{0x661, api.AN, api.AN}
	blank       = one{' ', api.WS, api.WS}
	sign        = one{'!', api.ON, api.ON}
	mirrored    = one{'<', api.ON, api.ON}
	separator   = one{0x2029, api.B, api.B}
	isolateOpen = one{0x2067, api.RLI, api.RLI}
	isolateShut = one{0x2069, api.PDI, api.PDI}
	mark        = one{0x300, api.NSM, api.ON}
	markLatin   = one{0x300, api.NSM, api.L}
	markHebrew  = one{0x300, api.NSM, api.R}
	openForced  = one{'(', api.L, api.L}
	shutForced  = one{')', api.R, api.R}
	openMarked  = one{'[', api.NSM, api.ON}
	shutMarked  = one{']', api.NSM, api.ON}
)

var (
	sides    = []int{api.L, api.R}
	types    = []int{api.L, api.R, api.EN, api.AN, api.B, api.S, api.WS, api.ON, api.LRI, api.RLI, api.FSI, api.PDI}
	allPairs = [][2]rune{
		{0x28, 0x29}, {0x5b, 0x5d}, {0x7b, 0x7d}, {0x2045, 0x2046}, {0x207d, 0x207e}, {0x208d, 0x208e}, {0x2329, 0x232a},
		{0x27e6, 0x27e7}, {0x27e8, 0x27e9}, {0x27ea, 0x27eb}, {0x27ec, 0x27ed}, {0x27ee, 0x27ef}, {0x3008, 0x3009}, {0x300a, 0x300b},
		{0x300c, 0x300d}, {0x300e, 0x300f}, {0x3010, 0x3011}, {0x3014, 0x3015}, {0x3016, 0x3017}, {0x3018, 0x3019}, {0x301a, 0x301b},
	}
)

// wrongTypes are numbers of types that may not be: other classes, and numbers that are no classes, some of which have the lower bits of one.
var wrongTypes = []int{
	api.AL, api.ES, api.ET, api.CS, api.NSM, api.BN, api.LRE, api.LRO, api.RLE, api.RLO, api.PDF,
	math.MinInt, math.MinInt + api.L, -256 + api.R, -api.PDI, -api.ON, -api.L, 0, 24, 25, 32 + api.L, 64 + api.ON, 256 + api.L, 1<<16 + api.R, 1<<32 + api.ON, math.MaxInt - 1, math.MaxInt,
}

// wrongSides are numbers that are neither L nor R.
var wrongSides = []int{
	math.MinInt, math.MinInt + api.L, -256 + api.R, -api.R, -api.L, 0, api.AL, api.EN, api.AN, api.NSM, api.ON, api.LRI, api.RLI, api.PDI, 24, 256 + api.L, 1<<32 + api.L, 1<<32 + api.R, math.MaxInt - 1, math.MaxInt,
}

// wrongLevels are numbers that are not from 0 to 126.
var wrongLevels = []int{math.MinInt, math.MinInt + 1, -256, -126, -2, -1, 127, 128, 129, 255, 256, 257, 1 << 32, 1<<32 + 1, math.MaxInt - 1, math.MaxInt}

// list puts some together, as a list.
func list[T any](some ...T) []T { return some }

// numbers, wasTypes and newTypes are the three lists of one.
func numbers(some []one) []rune {
	l := make([]rune, len(some))
	for i, x := range some {
		l[i] = x.r
	}
	return l
}

func wasTypes(some []one) []int {
	l := make([]int, len(some))
	for i, x := range some {
		l[i] = x.was
	}
	return l
}

func newTypes(some []one) []int {
	l := make([]int, len(some))
	for i, x := range some {
		l[i] = x.t
	}
	return l
}

// listsOf calls do with each list of some of these that is no longer than length.
func listsOf(some []one, length int, do func([]one)) {
	var more func(l []one)
	more = func(l []one) {
		do(slices.Clone(l))
		if len(l) == length {
			return
		}
		for _, x := range some {
			more(append(l, x))
		}
	}
	more(make([]one, 0, length))
}

// mixed are long lists of some of these, always the same ones.
func mixed(some []one, count, length int, do func([]one)) {
	seed := uint64(10)
	for range count {
		l := make([]one, length)
		for i := range l {
			seed = seed*6364136223846793005 + 1442695040888963407
			l[i] = some[int(seed>>33)%len(some)]
		}
		do(l)
	}
}

// eachOfBrackets calls do with all small lists over some choices, most of them brackets, and with longer ones.
func eachOfBrackets(do func([]one)) {
	listsOf(list(open, shut, openSquare, shutSquare, openAngle, shutAngle, openCorner, shutCorner, latin, sign, openForced, shutForced), 4, do)
	listsOf(list(open, shut, openSquare, shutSquare, openForced, shutForced), 6, do)
	listsOf(list(openAngle, shutAngle, openCorner, shutCorner, shut), 6, do)
	listsOf(list(open, shut, openSquare, shutSquare), 7, do)
	mixed(list(open, shut, openSquare, shutSquare, openAngle, shutAngle, openCorner, shutCorner, latin, mirrored), 30, 200, do)
	mixed(list(open, open, shut, openSquare, latin), 30, 200, do)
}

// eachOfTypes calls do with all small lists over some choices of brackets and types, and with longer ones. No bracket is a mark among them.
func eachOfTypes(do func([]one)) {
	listsOf(list(open, shut, openSquare, shutSquare, latin, hebrew, number, arabNumber, blank, sign, mark, isolateShut), 4, do)
	listsOf(list(open, shut, latin, hebrew, mark), 6, do)
	listsOf(list(open, shut, openSquare, shutSquare, latin, hebrew), 6, do)
	listsOf(list(open, shut, latin, number, arabNumber, separator), 5, do)
	listsOf(list(open, shut, latin, hebrew, mark, markLatin, markHebrew), 5, do)
	listsOf(list(open, shut, openForced, shutForced, isolateOpen, hebrew), 5, do)
	mixed(list(open, shut, openSquare, shutSquare, latin, hebrew, number, arabNumber, blank, sign, mark, markLatin, markHebrew, separator, isolateOpen, isolateShut), 40, 120, do)
	mixed(list(open, open, shut, shut, openSquare, shutSquare, blank, blank, mark, latin, hebrew), 40, 120, do)
}

// bracketByWords tells which pair of the chapter's a number belongs to, and whether it opens or closes.
func bracketByWords(r rune, kind int) (pair int, isOpen, isShut bool) {
	for k, p := range allPairs {
		if kind == api.ON && (r == p[0] || r == p[1]) {
			if p[0] == 0x2329 {
				k = slices.Index(allPairs, [2]rune{0x3008, 0x3009})
			}
			return k, r == p[0], r == p[1]
		}
	}
	return -1, false, false
}

// pairsByWords keeps of each closing bracket which one it ends, and asks anew at each place who waits there.
func pairsByWords(l []rune, t []int) [][2]int {
	ends := make([]int, len(l)) // -1 of all that ends none
	waits := func(place, at int) bool {
		if _, isOpen, _ := bracketByWords(l[place], t[place]); !isOpen {
			return false
		}
		for k := place + 1; k < at; k++ {
			if ends[k] >= 0 && ends[k] <= place {
				return false
			}
		}
		return true
	}
	var all [][2]int
	for i := range l {
		ends[i] = -1
		pair, isOpen, isShut := bracketByWords(l[i], t[i])
		count := 0
		for k := range i {
			if !isOpen && !isShut || !waits(k, i) {
				continue
			}
			count++
			if other, _, _ := bracketByWords(l[k], t[k]); isShut && other == pair {
				ends[i] = k
			}
		}
		if isOpen && count == 63 {
			break
		}
		if ends[i] >= 0 {
			all = append(all, [2]int{ends[i], i})
		}
	}
	var sorted [][2]int
	for i := range l {
		for _, p := range all {
			if p[0] == i {
				sorted = append(sorted, p)
			}
		}
	}
	return sorted
}

func hasSide(kind, side int) bool {
	if side == api.L {
		return kind == api.L
	}
	return kind == api.R || kind == api.EN || kind == api.AN
}

// aheadByWords is the side of the last type ahead of a place that has a side.
func aheadByWords(t []int, place, sos int) int {
	last := sos
	for _, kind := range t[:place] {
		if hasSide(kind, api.L) {
			last = api.L
		}
		if hasSide(kind, api.R) {
			last = api.R
		}
	}
	return last
}

func resolveByWords(l []rune, was, t []int, level, sos int) []int {
	t = slices.Clone(t)
	e, other := api.L, api.R
	if level&1 == 1 {
		e, other = api.R, api.L
	}
	for _, p := range pairsByWords(l, t) {
		var hasOwn, hasOther bool
		for i := p[0] + 1; i < p[1]; i++ {
			hasOwn = hasOwn || hasSide(t[i], e)
			hasOther = hasOther || hasSide(t[i], other)
		}
		var kind int
		switch {
		case hasOwn:
			kind = e
		case hasOther && aheadByWords(t, p[0], sos) == other:
			kind = other
		case hasOther:
			kind = e
		default:
			continue
		}
		for _, place := range p {
			t[place] = kind
			for i := place + 1; i < len(t); i++ {
				if was[i] != api.NSM {
					break
				}
				t[i] = kind
			}
		}
	}
	return t
}

func checkPairs(t *testing.T, l []rune, kinds []int, want [][2]int) {
	t.Helper()
	if got, e := Pairs(l, kinds); e != api.OK || !slices.Equal(got, want) {
		t.Fatalf("Pairs(%x, %v): %v, %d; wanted %v", l, kinds, got, e, want)
	}
}

// checkPairsOf asks for the pairs of numbers that all have the type ON.
func checkPairsOf(t *testing.T, l []rune, want ...[2]int) {
	t.Helper()
	checkPairs(t, l, slices.Repeat(list(api.ON), len(l)), want)
}

func checkResolve(t *testing.T, some []one, level, sos int, want []int) {
	t.Helper()
	l, was, kinds := numbers(some), wasTypes(some), newTypes(some)
	if got, e := Resolve(l, was, kinds, level, sos); e != api.OK || !slices.Equal(got, want) {
		t.Fatalf("Resolve(%x, %v, %v, %d, %d): %v, %d; wanted %v", l, was, kinds, level, sos, got, e, want)
	}
}

// checkAlways asks with levels odd and even, and with both sos.
func checkAlways(t *testing.T, some []one, want []int) {
	t.Helper()
	for level := range 2 {
		for _, sos := range sides {
			checkResolve(t, some, level, sos, want)
		}
	}
}

func checkError(t *testing.T, l []rune, was, kinds []int, level, sos int, want api.Errno) {
	t.Helper()
	if got, e := Resolve(l, was, kinds, level, sos); len(got) != 0 || e != want {
		t.Fatalf("Resolve(%x, %v, %v, %d, %d): %v, %d; wanted the error %d", l, was, kinds, level, sos, got, e, want)
	}
}

func TestP10_1Examples(t *testing.T) {
	checkPairsOf(t, list('(', '[', ')', ']'), [2]int{0, 2})
	checkPairs(t, []rune{0x2329, 'a', 0x3009}, list(api.ON, api.L, api.ON), [][2]int{{0, 2}})
	checkPairsOf(t, slices.Concat(slices.Repeat(list('('), 64), slices.Repeat(list(')'), 64)))
}

func TestP10_1EmptyAndSmall(t *testing.T) {
	checkPairs(t, nil, nil, nil)
	checkPairs(t, nil, []int{}, nil)
	checkPairs(t, []rune{}, nil, nil)
	for _, r := range list('(', ')', '[', ']', 0x2329, 0x3009, 'a', 0x5d0, '<', 0, -1, 0xd800, 0x110000, math.MinInt32, math.MaxInt32) {
		checkPairsOf(t, list(r))
		checkPairsOf(t, list(r, r))
	}
}

func TestP10_1UnlikeLengths(t *testing.T) {
	for n := range 5 {
		for m := range 5 {
			l, kinds := slices.Repeat(list('(', ')'), 3)[:n], slices.Repeat(list(api.ON), m)
			got, e := Pairs(l, kinds)
			if n != m && (len(got) != 0 || e != api.ErrArg) {
				t.Errorf("Pairs of %d numbers, %d types: %v, %d", n, m, got, e)
			}
			if n == m && (len(got) != n/2 || e != api.OK) {
				t.Errorf("Pairs of %d numbers and types: %v, %d", n, got, e)
			}
		}
	}
}

func TestP10_1EveryKindOfBrackets(t *testing.T) {
	for _, p := range allPairs {
		checkPairsOf(t, list(p[0], p[1]), [2]int{0, 1})
		checkPairsOf(t, list(p[1], p[0]))
		for _, q := range allPairs {
			a, _, _ := bracketByWords(p[0], api.ON)
			b, _, _ := bracketByWords(q[1], api.ON)
			if a == b {
				checkPairsOf(t, list(p[0], q[1]), [2]int{0, 1})
			} else {
				checkPairsOf(t, list(p[0], q[1]))
				checkPairsOf(t, list(p[0], q[0], p[1], q[1]), [2]int{0, 2})
				checkPairsOf(t, list(p[0], q[0], q[1], p[1]), [2]int{0, 3}, [2]int{1, 2})
			}
		}
	}
}

func TestP10_1AlikeByCanon(t *testing.T) {
	for _, opening := range list[rune](0x2329, 0x3008) {
		for _, closing := range list[rune](0x232a, 0x3009) {
			checkPairsOf(t, list(opening, 'a', closing), [2]int{0, 2})
			checkPairsOf(t, list('(', opening, ')', closing), [2]int{0, 2})
			checkPairsOf(t, list(opening, '(', closing, ')'), [2]int{0, 2})
		}
	}
	// The last one that waits, whichever of the two kinds it is of.
	checkPairsOf(t, []rune{0x2329, 0x3008, 0x232a, 0x3009}, [2]int{0, 3}, [2]int{1, 2})
	checkPairsOf(t, []rune{0x3008, 0x2329, 0x232a, 0x3009}, [2]int{0, 3}, [2]int{1, 2})
	checkPairsOf(t, []rune{0x300a, 0x3009, 0x3008, 0x300b}, [2]int{0, 3})
}

func TestP10_1NoBrackets(t *testing.T) {
	for _, x := range []struct{ opening, closing rune }{{'<', '>'}, {0xab, 0xbb}, {0x2039, 0x203a}, {0x2264, 0x2265}, {'a', 'b'}, {'!', '!'}, {-'(', -')'}, {'(' + 0x110000, ')' + 0x110000}, {0xd800, 0xd801}} {
		checkPairsOf(t, list(x.opening, x.closing))
		checkPairsOf(t, list(x.opening, '(', x.closing, ')'), [2]int{1, 3})
	}
}

// Of a type other than ON there is no bracket, whatever number that type is: none of them is refused here.
func TestP10_1BracketsOfOtherTypes(t *testing.T) {
	for _, kind := range slices.Concat(types, wrongTypes) {
		if kind == api.ON {
			continue
		}
		checkPairs(t, list('(', ')'), list(kind, api.ON), nil)
		checkPairs(t, list('(', ')'), list(api.ON, kind), nil)
		checkPairs(t, list('(', ')'), list(kind, kind), nil)
		checkPairs(t, list('(', '(', ')', ')'), list(api.ON, kind, kind, api.ON), [][2]int{{0, 3}})
		checkPairs(t, list('(', '(', ')', ')'), list(api.ON, kind, api.ON, api.ON), [][2]int{{0, 2}})
		checkPairs(t, list('(', '[', ']', ')'), list(api.ON, api.ON, kind, api.ON), [][2]int{{0, 3}})
	}
}

func TestP10_1WhoWaitsNoMore(t *testing.T) {
	checkPairsOf(t, []rune("([)]"), [2]int{0, 2})
	checkPairsOf(t, []rune("([{)]}"), [2]int{0, 3})
	checkPairsOf(t, []rune("{([)]}"), [2]int{0, 5}, [2]int{1, 3})
	checkPairsOf(t, []rune("([)([])]"), [2]int{0, 2}, [2]int{3, 6}, [2]int{4, 5})
	checkPairsOf(t, []rune("[([)]"), [2]int{0, 4}, [2]int{1, 3})
	// Those ahead of the one that is ended wait on.
	checkPairsOf(t, []rune("((])"), [2]int{1, 3})
	checkPairsOf(t, []rune("([[)))"), [2]int{0, 3})
	checkPairsOf(t, []rune("(([)])"), [2]int{0, 5}, [2]int{1, 3})
}

func TestP10_1ClosingWithoutOpening(t *testing.T) {
	checkPairsOf(t, []rune(")("))
	checkPairsOf(t, []rune("))()"), [2]int{2, 3})
	checkPairsOf(t, []rune("())"), [2]int{0, 1})
	// Nothing is done: who waits, waits on.
	checkPairsOf(t, []rune("(])"), [2]int{0, 2})
	checkPairsOf(t, []rune("([}])"), [2]int{0, 4}, [2]int{1, 3})
}

func TestP10_1OrderByOpeningPlaces(t *testing.T) {
	checkPairsOf(t, []rune("((()))"), [2]int{0, 5}, [2]int{1, 4}, [2]int{2, 3})
	checkPairsOf(t, []rune("()[]{}"), [2]int{0, 1}, [2]int{2, 3}, [2]int{4, 5})
	checkPairsOf(t, []rune("({}[])"), [2]int{0, 5}, [2]int{1, 2}, [2]int{3, 4})
	checkPairsOf(t, []rune("[()](())"), [2]int{0, 3}, [2]int{1, 2}, [2]int{4, 7}, [2]int{5, 6})
}

// nested are n opening ones with their closing ones, and the pairs of these, from a place on.
func nested(n, from int) (l []rune, pairs [][2]int) {
	l = slices.Concat(slices.Repeat(list('('), n), slices.Repeat(list(')'), n))
	for k := range n {
		pairs = append(pairs, [2]int{from + k, from + 2*n - 1 - k})
	}
	return l, pairs
}

func TestP10_1HowManyWait(t *testing.T) {
	for _, n := range list(1, 2, 61, 62, 63) {
		l, pairs := nested(n, 0)
		checkPairsOf(t, l, pairs...)
	}
	for _, n := range list(64, 65, 126, 127, 128, 200) {
		l, _ := nested(n, 0)
		checkPairsOf(t, l)
	}
	// Those found till then count, and none behind them.
	some, pairs := nested(63, 0)
	for _, n := range list(64, 65, 100) {
		more, _ := nested(n, 0)
		checkPairsOf(t, slices.Concat(some, more, some), pairs...)
		checkPairsOf(t, slices.Concat([]rune("()"), more), [2]int{0, 1})
		checkPairsOf(t, slices.Concat([]rune("[()"), more, []rune("]")), [2]int{1, 2})
	}
	again, behind := nested(63, len(some))
	checkPairsOf(t, slices.Concat(some, again), slices.Concat(pairs, behind)...)
}

func TestP10_1OneMoreBehind63ThatWait(t *testing.T) {
	waiting := slices.Repeat(list('('), 63)
	// One of them ended: there is room for one more, and for no second one.
	checkPairsOf(t, slices.Concat(waiting, []rune(")(")), [2]int{62, 63})
	checkPairsOf(t, slices.Concat(waiting, []rune(")()")), [2]int{62, 63}, [2]int{64, 65})
	checkPairsOf(t, slices.Concat(waiting, []rune(")[])")), [2]int{61, 66}, [2]int{62, 63}, [2]int{64, 65})
	checkPairsOf(t, slices.Concat(waiting, []rune(")([)")), [2]int{62, 63})
	checkPairsOf(t, slices.Concat(waiting, []rune(")())(()[])")), [2]int{61, 66}, [2]int{62, 63}, [2]int{64, 65}, [2]int{67, 72}, [2]int{68, 69}, [2]int{70, 71})
	checkPairsOf(t, slices.Concat(waiting, []rune(")())(([])")), [2]int{61, 66}, [2]int{62, 63}, [2]int{64, 65})
	// The first one ended: all others wait no more.
	all := slices.Concat(list('['), waiting[1:], list(']'))
	checkPairsOf(t, all, [2]int{0, 63})
	l, pairs := nested(63, 64)
	checkPairsOf(t, slices.Concat(all, l), slices.Concat(list([2]int{0, 63}), pairs)...)
	l, _ = nested(64, 64)
	checkPairsOf(t, slices.Concat(all, l), [2]int{0, 63})
	// A closing one that ends none makes no room; one that comes where 63 wait does not end the search.
	checkPairsOf(t, slices.Concat(waiting, []rune("]()")))
	checkPairsOf(t, slices.Concat(waiting, []rune("]a)")), [2]int{62, 65})
}

func TestP10_1OtherTypesDoNotWait(t *testing.T) {
	l := slices.Concat(slices.Repeat(list('('), 100), list('[', ']'))
	kinds := slices.Concat(slices.Repeat(list(api.L), 100), list(api.ON, api.ON))
	checkPairs(t, l, kinds, [][2]int{{100, 101}})
	for k := range 63 {
		kinds[k] = api.ON
	}
	checkPairs(t, l, kinds, nil)
	kinds[31] = api.R
	checkPairs(t, l, kinds, [][2]int{{100, 101}})
	// Nor do those that are no brackets.
	l, kinds = slices.Repeat(list('<'), 102), slices.Repeat(list(api.ON), 102)
	l[100], l[101] = '(', ')'
	checkPairs(t, l, kinds, [][2]int{{100, 101}})
}

func TestP10_1AsTheWordsHaveIt(t *testing.T) {
	eachOfBrackets(func(some []one) {
		l, kinds := numbers(some), newTypes(some)
		checkPairs(t, l, kinds, pairsByWords(l, kinds))
	})
}

func TestP10_2Examples(t *testing.T) {
	left, right := list(latin, open, latin, shut), list(hebrew, open, latin, shut)
	for _, sos := range sides {
		checkResolve(t, left, 0, sos, list(api.L, api.L, api.L, api.L))
		checkResolve(t, left, 1, sos, list(api.L, api.L, api.L, api.L))
		checkResolve(t, right, 1, sos, list(api.R, api.R, api.L, api.R))
	}
}

func TestP10_2EmptyAndSmall(t *testing.T) {
	checkAlways(t, nil, nil)
	checkAlways(t, []one{}, nil)
	for _, r := range list('(', ')', 'a', 0x5d0, 0x300, -1, 0xd800, math.MinInt32, math.MaxInt32) {
		for _, kind := range types {
			for _, was := range list(kind, api.NSM, api.BN, -1, math.MaxInt) {
				checkAlways(t, list(one{r, was, kind}), list(kind))
			}
		}
	}
}

func TestP10_2UnlikeLengths(t *testing.T) {
	for n := range 4 {
		for m := range 4 {
			for k := range 4 {
				l, was := slices.Repeat(list('('), n), slices.Repeat(list(api.ON), m)
				for _, kind := range list(api.ON, api.L, api.NSM, 0) {
					kinds := slices.Repeat(list(kind), k)
					switch {
					case n != m || m != k:
						checkError(t, l, was, kinds, 0, api.L, api.ErrArg)
						checkError(t, l, was, kinds, 126, api.R, api.ErrArg)
						checkError(t, l, was, kinds, 127, api.ON, api.ErrArg)
					case k > 0 && (kind == api.NSM || kind == 0):
						checkError(t, l, was, kinds, 0, api.L, api.ErrForm)
					default:
						if got, e := Resolve(l, was, kinds, 0, api.L); e != api.OK || !slices.Equal(got, kinds) {
							t.Errorf("Resolve(%x, %v, %v): %v, %d", l, was, kinds, got, e)
						}
					}
				}
			}
		}
	}
}

func TestP10_2Levels(t *testing.T) {
	inside := list(open, latin, hebrew, shut)
	for level := 0; level <= 126; level++ {
		e := api.L
		if level%2 == 1 {
			e = api.R
		}
		for _, sos := range sides {
			checkResolve(t, inside, level, sos, list(e, api.L, api.R, e))
			checkResolve(t, nil, level, sos, nil)
		}
	}
	for _, level := range wrongLevels {
		for _, sos := range slices.Concat(sides, wrongSides) {
			checkError(t, nil, nil, nil, level, sos, api.ErrArg)
			checkError(t, list('('), list(api.ON), list(api.ON), level, sos, api.ErrArg)
			checkError(t, list('('), list(api.ON), list(api.NSM), level, sos, api.ErrArg)
		}
	}
}

func TestP10_2WrongSides(t *testing.T) {
	for _, sos := range wrongSides {
		for _, level := range list(0, 1, 125, 126) {
			checkError(t, nil, nil, nil, level, sos, api.ErrArg)
			checkError(t, list('a'), list(api.L), list(api.L), level, sos, api.ErrArg)
			checkError(t, list('a'), list(api.NSM), list(api.NSM), level, sos, api.ErrArg)
			checkError(t, list('a', 'b'), list(api.L), list(api.L), level, sos, api.ErrArg)
		}
	}
}

func TestP10_2WrongTypes(t *testing.T) {
	some := list(latin, open, mark, hebrew, shut, mark, blank)
	for _, kind := range wrongTypes {
		for at := range len(some) + 1 {
			l := slices.Insert(slices.Clone(some), at, one{'(', kind, kind})
			for level := range 2 {
				for _, sos := range sides {
					checkError(t, numbers(l), wasTypes(l), newTypes(l), level, sos, api.ErrForm)
				}
			}
		}
		checkError(t, list('a'), list(api.L), list(kind), 126, api.L, api.ErrForm)
		// What was may be any number.
		checkAlways(t, list(one{'a', kind, api.L}, one{'(', kind, api.ON}), list(api.L, api.ON))
	}
	for _, kind := range types {
		checkAlways(t, list(one{'a', kind, kind}, one{'b', api.L, kind}), list(kind, kind))
	}
}

// inPair are a pair with one type inside, behind another one.
func inPair(ahead, inside int) []one {
	return list(one{'x', ahead, ahead}, open, one{'x', inside, inside}, shut)
}

// sideOf is a type's side, as the chapter's words have it; 0 of those that have none.
func sideOf(kind int) int {
	for _, side := range sides {
		if hasSide(kind, side) {
			return side
		}
	}
	return 0
}

func TestP10_2OneTypeAheadOneInside(t *testing.T) {
	for _, ahead := range types {
		for _, inside := range types {
			for level := range 2 {
				e := sides[level]
				for _, sos := range sides {
					before := sideOf(ahead)
					if before == 0 {
						before = sos
					}
					want := list(ahead, api.ON, inside, api.ON)
					switch sideOf(inside) {
					case 0:
					case e, before:
						want[1], want[3] = sideOf(inside), sideOf(inside)
					default:
						want[1], want[3] = e, e
					}
					checkResolve(t, inPair(ahead, inside), level, sos, want)
				}
			}
		}
	}
}

func TestP10_2SideInside(t *testing.T) {
	// One that has the side e, wherever it stands among those that have the other one, and whatever is ahead.
	for _, x := range []one{hebrew, number, arabNumber} {
		for at := range 4 {
			l := slices.Insert(list(open, latin, latin, latin, shut), at+1, x)
			want := newTypes(l)
			for _, ahead := range []one{latin, hebrew, blank} {
				for _, sos := range sides {
					want[0], want[5] = api.R, api.R
					checkResolve(t, slices.Insert(slices.Clone(l), 0, ahead), 1, sos, slices.Insert(slices.Clone(want), 0, ahead.t))
					want[0], want[5] = api.L, api.L
					checkResolve(t, slices.Insert(slices.Clone(l), 0, ahead), 0, sos, slices.Insert(slices.Clone(want), 0, ahead.t))
				}
			}
		}
	}
	// What stands outside is not inside.
	checkResolve(t, list(hebrew, open, blank, shut, hebrew), 1, api.R, list(api.R, api.ON, api.WS, api.ON, api.R))
	checkResolve(t, list(hebrew, open, latin, shut, latin), 0, api.R, list(api.R, api.L, api.L, api.L, api.L))
	checkResolve(t, list(latin, open, hebrew, shut, hebrew), 0, api.L, list(api.L, api.L, api.R, api.L, api.R))
}

func TestP10_2OtherSideInside(t *testing.T) {
	for _, x := range []one{hebrew, number, arabNumber} {
		alone := list(open, x, shut)
		checkResolve(t, alone, 0, api.R, list(api.R, x.t, api.R))
		checkResolve(t, alone, 0, api.L, list(api.L, x.t, api.L))
		for _, ahead := range []one{hebrew, number, arabNumber} {
			checkResolve(t, slices.Concat(list(ahead), alone), 0, api.L, list(ahead.t, api.R, x.t, api.R))
			checkResolve(t, slices.Concat(list(latin, ahead, blank, sign), alone), 0, api.L, list(api.L, ahead.t, api.WS, api.ON, api.R, x.t, api.R))
			checkResolve(t, slices.Concat(list(ahead, latin, separator), alone), 0, api.R, list(ahead.t, api.L, api.B, api.L, x.t, api.L))
		}
	}
	checkResolve(t, list(open, latin, shut), 1, api.L, list(api.L, api.L, api.L))
	checkResolve(t, list(open, latin, shut), 1, api.R, list(api.R, api.L, api.R))
	checkResolve(t, list(latin, isolateOpen, isolateShut, open, latin, shut), 1, api.R, list(api.L, api.RLI, api.PDI, api.L, api.L, api.L))
	checkResolve(t, list(number, blank, open, latin, shut), 1, api.L, list(api.EN, api.WS, api.R, api.L, api.R))
}

func TestP10_2NoSideInside(t *testing.T) {
	for _, kind := range types {
		if sideOf(kind) != 0 {
			continue
		}
		x := one{'x', kind, kind}
		checkAlways(t, list(open, shut), list(api.ON, api.ON))
		checkAlways(t, list(open, x, shut), list(api.ON, kind, api.ON))
		checkAlways(t, list(latin, open, x, shut, mark, hebrew), list(api.L, api.ON, kind, api.ON, api.ON, api.R))
		checkAlways(t, list(hebrew, open, mark, x, shut, latin), list(api.R, api.ON, api.ON, kind, api.ON, api.L))
	}
	// Brackets without a partner have no side.
	checkAlways(t, list(open, openSquare, shut, hebrew, shutSquare), list(api.ON, api.ON, api.ON, api.R, api.ON))
	checkAlways(t, list(shut, hebrew, open), list(api.ON, api.R, api.ON))
}

func TestP10_2PairsInsidePairs(t *testing.T) {
	l := list(open, openSquare, hebrew, shutSquare, shut)
	checkResolve(t, l, 0, api.L, list(api.L, api.L, api.R, api.L, api.L))
	checkResolve(t, l, 0, api.R, list(api.R, api.R, api.R, api.R, api.R))
	// The outer one has e by what stands inside it, and is then what is ahead of the inner one.
	l = list(open, openSquare, hebrew, shutSquare, latin, shut)
	checkResolve(t, l, 0, api.L, list(api.L, api.L, api.R, api.L, api.L, api.L))
	checkResolve(t, l, 0, api.R, list(api.L, api.L, api.R, api.L, api.L, api.L))
	checkResolve(t, l, 1, api.L, list(api.R, api.R, api.R, api.R, api.L, api.R))
	// Where the outer one has got R, R is ahead of the inner one, though L has been.
	l = list(latin, open, openSquare, latin, shutSquare, hebrew, shut)
	checkResolve(t, l, 1, api.L, list(api.L, api.R, api.R, api.L, api.R, api.R, api.R))
	// An inner pair gets its type behind the outer one, and is not yet the side inside that.
	l = list(hebrew, open, openSquare, hebrew, shutSquare, shut)
	checkResolve(t, l, 0, api.L, list(api.R, api.R, api.R, api.R, api.R, api.R))
	l = list(open, openSquare, shutSquare, latin, shut)
	checkResolve(t, l, 0, api.R, list(api.L, api.ON, api.ON, api.L, api.L))
}

func TestP10_2PairsBehindPairs(t *testing.T) {
	// The first one gets L by e; L is then ahead of the next one, though R has been the side ahead.
	l := list(hebrew, open, hebrew, latin, shut, openSquare, hebrew, shutSquare)
	checkResolve(t, l, 0, api.R, list(api.R, api.L, api.R, api.L, api.L, api.L, api.R, api.L))
	// The first one gets nothing: R is still ahead.
	l = list(hebrew, open, blank, shut, openSquare, hebrew, shutSquare)
	checkResolve(t, l, 0, api.L, list(api.R, api.ON, api.WS, api.ON, api.R, api.R, api.R))
	// The first one gets R, since sos is; so does the next one.
	l = list(open, number, shut, openSquare, arabNumber, shutSquare)
	checkResolve(t, l, 0, api.R, list(api.R, api.EN, api.R, api.R, api.AN, api.R))
	checkResolve(t, l, 0, api.L, list(api.L, api.EN, api.L, api.L, api.AN, api.L))
	checkResolve(t, l, 1, api.L, list(api.R, api.EN, api.R, api.R, api.AN, api.R))
}

// withMarks puts n marks behind a place.
func withMarks(some []one, place, n int) []one {
	return slices.Insert(slices.Clone(some), place+1, slices.Repeat(list(mark), n)...)
}

func TestP10_2MarksBehindBrackets(t *testing.T) {
	inside := list(open, hebrew, shut)
	for n := range 5 {
		behind := slices.Repeat(list(api.R), n)
		checkResolve(t, withMarks(inside, 0, n), 1, api.L, slices.Concat(list(api.R), behind, list(api.R, api.R)))
		// Up to the end.
		checkResolve(t, withMarks(inside, 2, n), 1, api.L, slices.Concat(list(api.R, api.R, api.R), behind))
		// Up to something else, and no further.
		l := slices.Concat(withMarks(inside, 2, n), list(sign, mark, blank, mark))
		checkResolve(t, l, 1, api.L, slices.Concat(list(api.R, api.R, api.R), behind, list(api.ON, api.ON, api.WS, api.ON)))
		// Of a pair that gets no type, and of a bracket without a partner.
		checkAlways(t, withMarks(list(open, sign, shut), 2, n), slices.Repeat(list(api.ON), 3+n))
		checkAlways(t, withMarks(list(hebrew, shut), 1, n), slices.Concat(list(api.R, api.ON), slices.Repeat(list(api.ON), n)))
	}
	// Behind something other than a bracket.
	checkResolve(t, list(open, hebrew, mark, shut), 1, api.L, list(api.R, api.R, api.ON, api.R))
	checkResolve(t, list(open, sign, mark, hebrew, shut), 1, api.L, list(api.R, api.ON, api.ON, api.R, api.R))
	checkResolve(t, list(mark, open, hebrew, shut), 1, api.L, list(api.ON, api.R, api.R, api.R))
	// What counts is what was, and neither the number nor the type.
	checkResolve(t, list(open, one{'a', api.NSM, api.WS}, hebrew, shut, one{'(', api.NSM, api.L}), 1, api.L, list(api.R, api.R, api.R, api.R, api.R))
	checkResolve(t, list(open, one{0x300, api.ON, api.ON}, hebrew, shut, one{0x300, api.BN, api.ON}), 1, api.L, list(api.R, api.ON, api.R, api.R, api.ON))
}

// A mark's type counts inside a pair, and ahead of one, as any other does.
func TestP10_2MarksHaveSides(t *testing.T) {
	checkResolve(t, list(open, markLatin, shut), 1, api.R, list(api.R, api.R, api.R))
	checkResolve(t, list(open, markLatin, shut), 0, api.R, list(api.L, api.L, api.L))
	checkResolve(t, list(open, markHebrew, latin, shut), 1, api.L, list(api.R, api.R, api.L, api.R))
	// Behind a bracket that has got a type, a mark has that side, and no more the one that it has had.
	checkResolve(t, list(open, markLatin, openSquare, latin, shutSquare, hebrew, shut), 1, api.L, list(api.R, api.R, api.R, api.L, api.R, api.R, api.R))
}

// A bracket that was a mark itself (none of chapter 3's is one) is given types as a mark, and as a bracket, pair by pair.
func TestP10_2BracketsThatWereMarks(t *testing.T) {
	checkResolve(t, list(open, hebrew, shut, openMarked, shutSquare), 1, api.L, list(api.R, api.R, api.R, api.R, api.ON))
	checkResolve(t, list(hebrew, open, latin, shut, openMarked, mark, shutSquare), 0, api.R, list(api.R, api.L, api.L, api.L, api.L, api.L, api.L))
	checkResolve(t, list(open, openMarked, latin, shutSquare, hebrew, shut), 1, api.R, list(api.R, api.R, api.L, api.R, api.R, api.R))
	some := list(open, shut, openMarked, shutMarked, mark, latin, hebrew)
	byWords := func(some []one) { checkByWords(t, some) }
	listsOf(some, 5, byWords)
	mixed(some, 40, 120, byWords)
}

// checkByWords holds Resolve against the chapter's words, with levels odd and even, and with both sos.
func checkByWords(t *testing.T, some []one) {
	t.Helper()
	l, was, kinds := numbers(some), wasTypes(some), newTypes(some)
	for level := range 2 {
		for _, sos := range sides {
			checkResolve(t, some, level, sos, resolveByWords(l, was, kinds, level, sos))
		}
	}
}

func TestP10_2AsTheWordsHaveIt(t *testing.T) {
	eachOfTypes(func(some []one) { checkByWords(t, some) })
}

// Where the search for pairs is over, brackets keep their types.
func TestP10_2HowManyWait(t *testing.T) {
	for _, n := range list(62, 63, 64, 65) {
		l := slices.Concat(list(open, latin, shut), slices.Repeat(list(open), n), list(latin), slices.Repeat(list(shut), n))
		want := newTypes(l)
		want[0], want[2] = api.L, api.L
		if n <= 63 {
			want = slices.Repeat(list(api.L), len(l))
		}
		for _, sos := range sides {
			checkResolve(t, l, 0, sos, want)
		}
	}
}

// far is how long the long lists are; going through one anew at each of its places would take far too long.
const far = 1 << 17

func TestP10_2OfLongLists(t *testing.T) {
	alike := func(want int, level, sos int, some ...one) {
		t.Helper()
		l := slices.Repeat(some, far/len(some))
		kinds := newTypes(l)
		for i, x := range l {
			if _, isOpen, isShut := bracketByWords(x.r, x.t); isOpen || isShut || x.was == api.NSM {
				kinds[i] = want
			}
		}
		checkResolve(t, l, level, sos, kinds)
	}
	alike(api.ON, 0, api.L, open, shut)
	alike(api.R, 0, api.R, open, hebrew, shut, mark)
	alike(api.L, 1, api.L, open, latin, shut, blank, blank)
	alike(api.R, 1, api.L, slices.Concat(slices.Repeat(list(open), 63), list(number), slices.Repeat(list(shut), 63))...)
	alike(api.ON, 1, api.L, open)
	alike(api.ON, 1, api.L, shut)
	// What is inside, and the marks, are as many.
	blanks, marks := slices.Repeat(list(blank), far), slices.Repeat(list(mark), far)
	want := slices.Concat(slices.Repeat(list(api.R), far+1), newTypes(blanks), slices.Repeat(list(api.R), far+2))
	checkResolve(t, slices.Concat(list(open), marks, blanks, list(hebrew, shut), marks), 1, api.L, want)
	checkResolve(t, slices.Concat(list(latin), blanks, list(open, latin, shut)), 1, api.R, slices.Concat(list(api.L), newTypes(blanks), list(api.L, api.L, api.L)))
}

// checkApart looks whether no two pairs cross, or share a place, and whether they rise.
func checkApart(t *testing.T, pairs [][2]int, length int) {
	t.Helper()
	var places []int
	last := -1
	for k, p := range pairs {
		if p[0] <= last || p[1] <= p[0] || p[1] >= length {
			t.Fatalf("%v: %v", pairs, p)
		}
		last = p[0]
		places = append(places, p[0], p[1])
		for _, q := range pairs[:k] {
			if p[0] < q[1] && q[1] < p[1] {
				t.Fatalf("%v: %v and %v cross", pairs, q, p)
			}
		}
	}
	slices.Sort(places)
	if len(slices.Compact(places)) != 2*len(pairs) {
		t.Fatalf("%v: a place is in two of them", pairs)
	}
}

func TestP10_3PairsDoNotCross(t *testing.T) {
	apart := func(some []one) {
		pairs, e := Pairs(numbers(some), newTypes(some))
		if e != api.OK {
			t.Fatalf("Pairs(%v): %d", some, e)
		}
		checkApart(t, pairs, len(some))
	}
	eachOfBrackets(apart)
	eachOfTypes(apart)
}

// mayChange tells which places are brackets of a pair, or stand as marks behind one.
func mayChange(some []one, pairs [][2]int) []bool {
	may := make([]bool, len(some))
	for _, p := range pairs {
		may[p[0]], may[p[1]] = true, true
	}
	for i := 1; i < len(some); i++ {
		may[i] = may[i] || some[i].was == api.NSM && may[i-1]
	}
	return may
}

func TestP10_3WhatKeepsItsType(t *testing.T) {
	eachOfTypes(func(some []one) {
		l, was, kinds := numbers(some), wasTypes(some), newTypes(some)
		pairs, _ := Pairs(l, kinds)
		may := mayChange(some, pairs)
		for level := range 2 {
			for _, sos := range sides {
				got, e := Resolve(l, was, kinds, level, sos)
				if e != api.OK || len(got) != len(some) {
					t.Fatalf("Resolve(%v, %d, %d): %v, %d", some, level, sos, got, e)
				}
				for i, kind := range got {
					if kind != kinds[i] && (!may[i] || kind != api.L && kind != api.R) {
						t.Fatalf("Resolve(%v, %d, %d): %v: at %d", some, level, sos, got, i)
					}
				}
				for _, p := range pairs {
					if got[p[0]] != got[p[1]] {
						t.Fatalf("Resolve(%v, %d, %d): %v: the pair %v", some, level, sos, got, p)
					}
				}
			}
		}
	})
}

// inRoom is a list with spare room behind it, which holds more, and all of the memory.
func inRoom[T any](l []T, more ...T) (part, room []T) {
	room = slices.Concat(l, more)
	return room[:len(l)], room
}

// spoil writes over a list, its spare room too.
func spoil[T any](l []T, with T) {
	l = l[:cap(l)]
	for i := range l {
		l[i] = with
	}
}

func TestRule4WhatIsHandedInStaysAsItIs(t *testing.T) {
	some := list(latin, open, mark, hebrew, shut, mark, openAngle, number, shutCorner, one{'x', api.NSM, api.NSM}, one{'(', 77, -3})
	l, was, kinds := numbers(some), wasTypes(some), newTypes(some)
	for n := range len(some) + 1 {
		for m := range len(some) + 1 {
			Pairs(l[:n], kinds[:m])
			for level := -1; level <= 2; level++ {
				for sos := 0; sos <= 3; sos++ {
					Resolve(l[:n], was[:n], kinds[:m], level, sos)
				}
			}
		}
	}
	if !slices.Equal(l, numbers(some)) || !slices.Equal(was, wasTypes(some)) || !slices.Equal(kinds, newTypes(some)) {
		t.Errorf("they have become %x, %v, %v", l, was, kinds)
	}
}

func TestRule8WhatLiesBehindALengthIsNotRead(t *testing.T) {
	some := list(open, hebrew, shut, mark, mark, openSquare, latin, shutSquare)
	l, was, kinds := numbers(some), wasTypes(some), newTypes(some)
	for n, want := range [][]int{
		{}, {api.ON}, {api.ON, api.R}, {api.R, api.R, api.R}, {api.R, api.R, api.R, api.R}, {api.R, api.R, api.R, api.R, api.R},
		{api.R, api.R, api.R, api.R, api.R, api.ON}, {api.R, api.R, api.R, api.R, api.R, api.ON, api.L}, {api.R, api.R, api.R, api.R, api.R, api.R, api.L, api.R},
	} {
		if got, e := Resolve(l[:n], was[:n], kinds[:n], 1, api.L); e != api.OK || !slices.Equal(got, want) {
			t.Errorf("Resolve of the first %d: %v, %d; wanted %v", n, got, e, want)
		}
	}
	checkPairs(t, l[:2], kinds[:2], nil)
	checkPairs(t, l[:3], kinds[:3], [][2]int{{0, 2}})
}

func TestRule4WhatIsHandedOutIsNew(t *testing.T) {
	for _, some := range [][]one{nil, {latin}, {open, shut}, {open, hebrew, shut, mark}, {open, openSquare, latin, shutSquare, shut}, {blank, sign, number}} {
		l, roomL := inRoom(numbers(some), '(', ')', 'a')
		was, roomWas := inRoom(wasTypes(some), api.NSM, api.NSM, api.NSM)
		kinds, roomKinds := inRoom(newTypes(some), api.ON, api.ON, api.L)
		beforeL, beforeWas, beforeKinds := slices.Clone(roomL), slices.Clone(roomWas), slices.Clone(roomKinds)
		pairs, _ := Pairs(l, kinds)
		pairsAgain, _ := Pairs(l, kinds)
		got, _ := Resolve(l, was, kinds, 1, api.R)
		again, _ := Resolve(l, was, kinds, 1, api.R)
		_ = append(got, -9, -9)
		_ = append(pairs, [2]int{-9, -9})
		spoil(got, -5)
		spoil(pairs, [2]int{-5, -5})
		if !slices.Equal(roomL, beforeL) || !slices.Equal(roomWas, beforeWas) || !slices.Equal(roomKinds, beforeKinds) {
			t.Errorf("%v: they have become %x, %v, %v", some, roomL, roomWas, roomKinds)
		}
		if !slices.Equal(pairsAgain, pairsByWords(l, kinds)) || !slices.Equal(again, resolveByWords(l, was, kinds, 1, api.R)) {
			t.Errorf("%v: what was answered has become %v, %v", some, pairsAgain, again)
		}
	}
}

func TestRule4WhatIsHandedInIsNotKept(t *testing.T) {
	some := list(open, hebrew, shut, mark)
	l, was, kinds := numbers(some), wasTypes(some), newTypes(some)
	pairs, _ := Pairs(l, kinds)
	got, _ := Resolve(l, was, kinds, 1, api.L)
	spoil(l, 'z')
	spoil(was, api.L)
	spoil(kinds, api.L)
	if !slices.Equal(pairs, list([2]int{0, 2})) || !slices.Equal(got, list(api.R, api.R, api.R, api.R)) {
		t.Errorf("they have become %v, %v", pairs, got)
	}
}
