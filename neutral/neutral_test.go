package neutral

import (
	"math"
	"slices"
	"testing"

	"colophon/api"
)

var (
	sides    = []int{api.L, api.R}
	sided    = []int{api.L, api.R, api.EN, api.AN}
	neutrals = []int{api.B, api.S, api.WS, api.ON, api.LRI, api.RLI, api.FSI, api.PDI}
	levels   = []int{0, 1, 2, 3, 62, 63, 124, 125, 126}
)

// wrongTypes are numbers of types that have no side and are not neutral: other classes, and numbers that are no classes, some of which have the lower bits of one.
var wrongTypes = []int{
	api.AL, api.ES, api.ET, api.CS, api.NSM, api.BN, api.LRE, api.LRO, api.RLE, api.RLO, api.PDF,
	math.MinInt, math.MinInt + api.L, -256 + api.R, -api.PDI, -api.ON, -api.L, -1 << 32, 0, 24, 25, 32 + api.L, 64 + api.ON, 256 + api.L, 1<<16 + api.R, 1<<32 + api.L, 1<<32 + api.ON, math.MaxInt - 1, math.MaxInt,
}

// wrongSides are numbers that are neither L nor R.
var wrongSides = []int{
	math.MinInt, math.MinInt + api.L, -256 + api.R, -api.R, -api.L, 0, api.AL, api.EN, api.AN, api.NSM, api.B, api.ON, api.LRI, api.RLI, api.PDI, 24, 256 + api.L, 1<<32 + api.L, 1<<32 + api.R, math.MaxInt - 1, math.MaxInt,
}

// wrongLevels are numbers that are not from 0 to 126.
var wrongLevels = []int{math.MinInt, math.MinInt + 1, -256, -126, -2, -1, 127, 128, 129, 255, 256, 257, 1 << 32, 1<<32 + 1, math.MaxInt - 1, math.MaxInt}

// list puts some together, as a list.
func list[T any](some ...T) []T { return some }

// repeat puts the same ones together some times over.
func repeat(count int, some ...int) []int { return slices.Repeat(some, count) }

func join(lists ...[]int) []int { return slices.Concat(lists...) }

// listsOf calls do with each list of some of these that is no longer than length.
func listsOf(some []int, length int, do func([]int)) {
	var more func(l []int)
	more = func(l []int) {
		do(slices.Clone(l))
		if len(l) == length {
			return
		}
		for _, x := range some {
			more(append(l, x))
		}
	}
	more(make([]int, 0, length))
}

// mixed are long lists of some of these, always the same ones.
func mixed(some []int, count, length int, do func([]int)) {
	seed := uint64(11)
	for range count {
		l := make([]int, length)
		for i := range l {
			seed = seed*6364136223846793005 + 1442695040888963407
			l[i] = some[int(seed>>33)%len(some)]
		}
		do(l)
	}
}

// eachList calls do with all small lists over some choices of types that may be, and with longer ones.
func eachList(do func([]int)) {
	listsOf(join(sided, neutrals), 3, do)
	listsOf(list(api.L, api.R, api.EN, api.AN, api.ON, api.WS), 5, do)
	listsOf(list(api.L, api.R, api.PDI), 7, do)
	mixed(join(sided, neutrals), 40, 100, do)
	mixed(join(sided, repeat(3, neutrals...)), 40, 100, do)
}

// eachAround calls do with levels odd and even, both sos and both eos.
func eachAround(do func(level, sos, eos int)) {
	for level := range 2 {
		for _, sos := range sides {
			for _, eos := range sides {
				do(level, sos, eos)
			}
		}
	}
}

// sideByWords is a type's side; 0 of those that have none.
func sideByWords(kind int) int {
	switch kind {
	case api.L:
		return api.L
	case api.R, api.EN, api.AN:
		return api.R
	}
	return 0
}

func resolveByWords(t []int, level, sos, eos int) []int {
	out := slices.Clone(t)
	for i, kind := range t {
		if sideByWords(kind) != 0 {
			continue
		}
		ahead, behind := sos, eos
		for _, x := range t[:i] {
			if s := sideByWords(x); s != 0 {
				ahead = s
			}
		}
		for k := len(t) - 1; k > i; k-- {
			if s := sideByWords(t[k]); s != 0 {
				behind = s
			}
		}
		out[i] = list(api.L, api.R)[level&1]
		if ahead == behind {
			out[i] = ahead
		}
	}
	return out
}

func levelByWords(kind, level int) int {
	even := level&1 == 0
	switch {
	case even && kind == api.L, !even && kind == api.R:
		return level
	case even && kind == api.R, !even && kind != api.R:
		return level + 1
	}
	return level + 2
}

func levelsByWords(t []int, level int) []int {
	out := make([]int, len(t))
	for i, kind := range t {
		out[i] = levelByWords(kind, level)
	}
	return out
}

func checkResolve(t *testing.T, types []int, level, sos, eos int, want []int) {
	t.Helper()
	if got, e := Resolve(types, level, sos, eos); e != api.OK || !slices.Equal(got, want) {
		t.Fatalf("Resolve(%v, %d, %d, %d): %v, %d; wanted %v", types, level, sos, eos, got, e, want)
	}
}

// checkAlways asks with levels odd and even, both sos and both eos.
func checkAlways(t *testing.T, types, want []int) {
	t.Helper()
	eachAround(func(level, sos, eos int) {
		t.Helper()
		checkResolve(t, types, level, sos, eos, want)
	})
}

func checkResolveError(t *testing.T, types []int, level, sos, eos int, want api.Errno) {
	t.Helper()
	if got, e := Resolve(types, level, sos, eos); len(got) != 0 || e != want {
		t.Fatalf("Resolve(%v, %d, %d, %d): %v, %d; wanted the error %d", types, level, sos, eos, got, e, want)
	}
}

func checkLevels(t *testing.T, types []int, level int, want []int) {
	t.Helper()
	if got, e := Levels(types, level); e != api.OK || !slices.Equal(got, want) {
		t.Fatalf("Levels(%v, %d): %v, %d; wanted %v", types, level, got, e, want)
	}
}

func checkLevelsError(t *testing.T, types []int, level int, want api.Errno) {
	t.Helper()
	if got, e := Levels(types, level); len(got) != 0 || e != want {
		t.Fatalf("Levels(%v, %d): %v, %d; wanted the error %d", types, level, got, e, want)
	}
}

func TestP11_1Examples(t *testing.T) {
	checkResolve(t, list(api.R, api.WS, api.R), 0, api.L, api.L, list(api.R, api.R, api.R))
	eachAround(func(_, sos, eos int) {
		checkResolve(t, list(api.R, api.WS, api.L), 0, sos, eos, list(api.R, api.L, api.L))
		checkResolve(t, list(api.R, api.WS, api.L), 1, sos, eos, list(api.R, api.R, api.L))
		checkResolve(t, list(api.EN, api.ON, api.AN), 0, sos, eos, list(api.EN, api.R, api.AN))
	})
	checkResolve(t, list(api.WS), 0, api.R, api.R, list(api.R))
}

func TestP11_1Empty(t *testing.T) {
	for _, level := range levels {
		for _, sos := range sides {
			for _, eos := range sides {
				checkResolve(t, nil, level, sos, eos, nil)
				checkResolve(t, []int{}, level, sos, eos, nil)
			}
		}
	}
}

func TestP11_1OnePlaceAlone(t *testing.T) {
	for _, kind := range sided {
		checkAlways(t, list(kind), list(kind))
	}
	for _, kind := range neutrals {
		for level := range 2 {
			checkResolve(t, list(kind), level, api.L, api.L, list(api.L))
			checkResolve(t, list(kind), level, api.R, api.R, list(api.R))
			checkResolve(t, list(kind), level, api.L, api.R, list(sides[level]))
			checkResolve(t, list(kind), level, api.R, api.L, list(sides[level]))
		}
	}
}

func TestP11_1BetweenLikeSides(t *testing.T) {
	for count := 1; count <= 9; count++ {
		for _, kind := range neutrals {
			some := repeat(count, kind)
			checkAlways(t, join(list(api.L), some, list(api.L)), repeat(count+2, api.L))
			for _, a := range list(api.R, api.EN, api.AN) {
				for _, b := range list(api.R, api.EN, api.AN) {
					checkAlways(t, join(list(a), some, list(b)), join(list(a), repeat(count, api.R), list(b)))
				}
			}
		}
		checkAlways(t, join(list(api.EN), repeat(count, neutrals...), list(api.R)), join(list(api.EN), repeat(count*len(neutrals), api.R), list(api.R)))
	}
}

func TestP11_1BetweenUnlikeSides(t *testing.T) {
	eachAround(func(level, sos, eos int) {
		own := sides[level]
		for _, kind := range neutrals {
			for _, x := range list(api.R, api.EN, api.AN) {
				for count := 1; count <= 5; count++ {
					some, want := repeat(count, kind), repeat(count, own)
					checkResolve(t, join(list(api.L), some, list(x)), level, sos, eos, join(list(api.L), want, list(x)))
					checkResolve(t, join(list(x), some, list(api.L)), level, sos, eos, join(list(x), want, list(api.L)))
				}
			}
		}
	})
}

func TestP11_1AtTheBeginningAndTheEnd(t *testing.T) {
	eachAround(func(level, sos, eos int) {
		for _, kind := range sided {
			front, back := sides[level], sides[level]
			if sideByWords(kind) == sos {
				front = sos
			}
			if sideByWords(kind) == eos {
				back = eos
			}
			for _, x := range neutrals {
				checkResolve(t, list(x, kind), level, sos, eos, list(front, kind))
				checkResolve(t, list(kind, x), level, sos, eos, list(kind, back))
				checkResolve(t, list(x, api.B, kind, x, x), level, sos, eos, list(front, front, kind, back, back))
			}
		}
	})
}

func TestP11_1AllNeutral(t *testing.T) {
	for count := 1; count <= 5; count++ {
		some, n := repeat(count, neutrals...), count*len(neutrals)
		for level := range 2 {
			checkResolve(t, some, level, api.L, api.L, repeat(n, api.L))
			checkResolve(t, some, level, api.R, api.R, repeat(n, api.R))
			checkResolve(t, some, level, api.L, api.R, repeat(n, sides[level]))
			checkResolve(t, some, level, api.R, api.L, repeat(n, sides[level]))
		}
	}
}

// The nearest ones with a side tell, not those that stand further off, nor what is around the list.
func TestP11_1TheNearestTell(t *testing.T) {
	checkAlways(t, list(api.L, api.R, api.ON, api.R, api.L), list(api.L, api.R, api.R, api.R, api.L))
	checkAlways(t, list(api.R, api.L, api.ON, api.L, api.R), list(api.R, api.L, api.L, api.L, api.R))
	checkAlways(t, list(api.L, api.ON, api.L, api.R, api.WS, api.EN), list(api.L, api.L, api.L, api.R, api.R, api.EN))
	// A neutral one that has got a side tells nothing: the one behind it gets the level's side likewise.
	checkResolve(t, list(api.L, api.ON, api.WS, api.R), 1, api.L, api.L, list(api.L, api.R, api.R, api.R))
	checkResolve(t, list(api.L, api.ON, api.WS, api.R), 0, api.R, api.R, list(api.L, api.L, api.L, api.R))
	checkResolve(t, list(api.ON, api.WS, api.R), 0, api.L, api.R, list(api.L, api.L, api.R))
}

func TestP11_1EveryLevel(t *testing.T) {
	for level := 0; level <= 126; level++ {
		own := sides[level%2]
		checkResolve(t, list(api.L, api.ON, api.R, api.WS, api.L, api.S, api.L), level, api.L, api.L, list(api.L, own, api.R, own, api.L, api.L, api.L))
		checkResolve(t, list(api.ON), level, api.L, api.R, list(own))
	}
}

func TestP11_1AsTheWordsHaveIt(t *testing.T) {
	eachList(func(types []int) {
		eachAround(func(level, sos, eos int) {
			checkResolve(t, types, level, sos, eos, resolveByWords(types, level, sos, eos))
		})
	})
	listsOf(list(api.L, api.R, api.ON), 3, func(types []int) {
		for _, level := range levels {
			for _, sos := range sides {
				for _, eos := range sides {
					checkResolve(t, types, level, sos, eos, resolveByWords(types, level, sos, eos))
				}
			}
		}
	})
}

func TestP11_1WrongLevels(t *testing.T) {
	for _, level := range wrongLevels {
		for _, types := range [][]int{nil, {}, {api.L}, {api.ON, api.R}, {api.NSM}, {0}} {
			for _, sos := range sides {
				for _, eos := range sides {
					checkResolveError(t, types, level, sos, eos, api.ErrArg)
				}
			}
			checkResolveError(t, types, level, 0, 0, api.ErrArg)
		}
	}
}

func TestP11_1WrongSides(t *testing.T) {
	for _, wrong := range wrongSides {
		for _, types := range [][]int{nil, {}, {api.L}, {api.ON, api.R}, {api.NSM}, {0}} {
			for _, level := range list(-1, 0, 1, 125, 126, 127) {
				for _, right := range sides {
					checkResolveError(t, types, level, wrong, right, api.ErrArg)
					checkResolveError(t, types, level, right, wrong, api.ErrArg)
				}
				checkResolveError(t, types, level, wrong, wrong, api.ErrArg)
			}
		}
	}
}

func TestP11_1WrongTypes(t *testing.T) {
	some := list(api.L, api.ON, api.EN, api.WS, api.R, api.PDI)
	for _, kind := range wrongTypes {
		for _, level := range levels {
			checkResolveError(t, list(kind), level, api.L, api.R, api.ErrForm)
			checkResolveError(t, list(kind, kind), level, api.R, api.R, api.ErrForm)
		}
		for at := range len(some) + 1 {
			types := slices.Insert(slices.Clone(some), at, kind)
			eachAround(func(level, sos, eos int) {
				checkResolveError(t, types, level, sos, eos, api.ErrForm)
			})
			checkResolveError(t, types, 127, api.L, api.L, api.ErrArg)
			checkResolveError(t, types, 0, kind, api.L, api.ErrArg)
			checkResolveError(t, types, 0, api.L, kind, api.ErrArg)
		}
	}
}

func TestP11_1WhichTypesMayBe(t *testing.T) {
	for kind := -300; kind <= 300; kind++ {
		_, e := Resolve(list(kind), 0, api.L, api.L)
		want := api.ErrForm
		if slices.Contains(join(sided, neutrals), kind) {
			want = api.OK
		}
		if e != want {
			t.Errorf("Resolve of %d: %d", kind, e)
		}
	}
}

// far is how long the long lists are; going through one anew at each of its places would take far too long.
const far = 1 << 20

func TestP11_1OfLongLists(t *testing.T) {
	some := repeat(far, api.WS)
	checkResolve(t, some, 0, api.L, api.R, repeat(far, api.L))
	checkResolve(t, some, 1, api.L, api.R, repeat(far, api.R))
	checkResolve(t, some, 1, api.L, api.L, repeat(far, api.L))
	checkResolve(t, join(list(api.AN), some), 0, api.L, api.R, join(list(api.AN), repeat(far, api.R)))
	checkResolve(t, join(some, list(api.EN)), 0, api.R, api.L, join(repeat(far, api.R), list(api.EN)))
	checkResolve(t, repeat(far, api.L, api.ON, api.R, api.PDI), 1, api.L, api.L, repeat(far, api.L, api.R, api.R, api.R))
}

func TestP11_2Examples(t *testing.T) {
	checkLevels(t, sided, 0, list(0, 1, 2, 2))
	checkLevels(t, sided, 1, list(2, 1, 2, 2))
}

func TestP11_2Empty(t *testing.T) {
	for _, level := range levels {
		checkLevels(t, nil, level, nil)
		checkLevels(t, []int{}, level, nil)
	}
}

func TestP11_2OnePlaceAlone(t *testing.T) {
	for level := 0; level <= 126; level += 2 {
		checkLevels(t, list(api.L), level, list(level))
		checkLevels(t, list(api.R), level, list(level+1))
		checkLevels(t, list(api.EN), level, list(level+2))
		checkLevels(t, list(api.AN), level, list(level+2))
	}
	for level := 1; level <= 125; level += 2 {
		checkLevels(t, list(api.L), level, list(level+1))
		checkLevels(t, list(api.R), level, list(level))
		checkLevels(t, list(api.EN), level, list(level+1))
		checkLevels(t, list(api.AN), level, list(level+1))
	}
	checkLevels(t, sided, 125, list(126, 125, 126, 126))
	checkLevels(t, sided, 126, list(126, 127, 128, 128))
}

func TestP11_2AsTheWordsHaveIt(t *testing.T) {
	do := func(types []int) {
		for _, level := range levels {
			checkLevels(t, types, level, levelsByWords(types, level))
		}
	}
	listsOf(sided, 5, do)
	mixed(sided, 20, 300, do)
}

func TestP11_2WrongLevels(t *testing.T) {
	for _, level := range wrongLevels {
		for _, types := range [][]int{nil, {}, {api.L}, {api.R, api.EN, api.AN}, {api.ON}, {0}} {
			checkLevelsError(t, types, level, api.ErrArg)
		}
	}
}

func TestP11_2WrongTypes(t *testing.T) {
	some := list(api.L, api.R, api.EN, api.AN)
	for _, kind := range join(neutrals, wrongTypes) {
		for _, level := range levels {
			checkLevelsError(t, list(kind), level, api.ErrForm)
			for at := range len(some) + 1 {
				checkLevelsError(t, slices.Insert(slices.Clone(some), at, kind), level, api.ErrForm)
			}
		}
		checkLevelsError(t, list(kind), -1, api.ErrArg)
		checkLevelsError(t, list(kind), 127, api.ErrArg)
	}
}

func TestP11_2WhichTypesMayBe(t *testing.T) {
	for kind := -300; kind <= 300; kind++ {
		_, e := Levels(list(kind), 0)
		want := api.ErrForm
		if slices.Contains(sided, kind) {
			want = api.OK
		}
		if e != want {
			t.Errorf("Levels of %d: %d", kind, e)
		}
	}
}

func TestP11_3AllHaveASide(t *testing.T) {
	eachList(func(types []int) {
		eachAround(func(level, sos, eos int) {
			got, e := Resolve(types, level, sos, eos)
			if e != api.OK || len(got) != len(types) {
				t.Fatalf("Resolve(%v, %d, %d, %d): %v, %d", types, level, sos, eos, got, e)
			}
			for i, kind := range got {
				if !slices.Contains(sided, kind) || slices.Contains(sided, types[i]) && kind != types[i] || slices.Contains(neutrals, types[i]) && !slices.Contains(sides, kind) {
					t.Fatalf("Resolve(%v, %d, %d, %d): %v: at %d", types, level, sos, eos, got, i)
				}
			}
			// So nothing is left to do, and all of them have levels.
			checkResolve(t, got, level, sos, eos, got)
			checkLevels(t, got, level, levelsByWords(got, level))
		})
	})
}

func TestP11_3SeenFromBehind(t *testing.T) {
	eachList(func(types []int) {
		turned := slices.Clone(types)
		slices.Reverse(turned)
		eachAround(func(level, sos, eos int) {
			want, _ := Resolve(types, level, sos, eos)
			slices.Reverse(want)
			checkResolve(t, turned, level, eos, sos, want)
		})
	})
}

func TestP11_3OddJustOfR(t *testing.T) {
	do := func(types []int) {
		for level := 0; level <= 126; level++ {
			got, e := Levels(types, level)
			if e != api.OK || len(got) != len(types) {
				t.Fatalf("Levels(%v, %d): %v, %d", types, level, got, e)
			}
			for i, kind := range types {
				if (got[i]%2 == 1) != (kind == api.R) || got[i] < level || got[i] > level+2 {
					t.Fatalf("Levels(%v, %d): %v: at %d", types, level, got, i)
				}
			}
		}
	}
	listsOf(sided, 4, do)
	mixed(sided, 5, 100, do)
}

// spoil writes over a list, its spare room too.
func spoil(l []int) {
	l = l[:cap(l)]
	for i := range l {
		l[i] = -5
	}
}

func TestRule4WhatIsHandedInStaysAsItIs(t *testing.T) {
	room := list(api.L, api.R, api.EN, api.AN, api.ON, api.L, api.WS, api.PDI, api.R, api.B, api.S, api.NSM, 77)
	before := slices.Clone(room)
	for k := range len(room) + 1 {
		for level := -1; level <= 127; level++ {
			Levels(room[:k], level)
			for sos := 0; sos <= 3; sos++ {
				for eos := 0; eos <= 3; eos++ {
					Resolve(room[:k], level, sos, eos)
				}
			}
		}
	}
	if !slices.Equal(room, before) {
		t.Errorf("it has become %v", room)
	}
}

func TestRule8WhatLiesBehindALengthIsNotRead(t *testing.T) {
	room := list(api.L, api.ON, api.R, api.WS, api.L, api.NSM, 0)
	checkResolve(t, room[:0], 0, api.L, api.L, nil)
	checkResolve(t, room[:2], 1, api.L, api.L, list(api.L, api.L))
	checkResolve(t, room[:3], 1, api.L, api.L, list(api.L, api.R, api.R))
	checkResolve(t, room[3:4], 0, api.R, api.R, list(api.R))
	checkResolve(t, room[3:5], 1, api.L, api.R, list(api.L, api.L))
	checkResolve(t, room[6:6], 1, api.L, api.R, nil)
	checkResolveError(t, room[:6], 0, api.L, api.L, api.ErrForm)
	checkLevels(t, room[:1], 0, list(0))
	checkLevels(t, room[2:3], 0, list(1))
	checkLevels(t, room[5:5], 0, nil)
	checkLevelsError(t, room[:2], 0, api.ErrForm)
}

func TestRule4WhatIsHandedOutIsNew(t *testing.T) {
	lists := [][]int{nil, {}, {api.L}, {api.R, api.EN}, {api.AN, api.R, api.L, api.EN}, {api.ON}, {api.L, api.ON, api.R, api.PDI}}
	for _, types := range lists {
		// Spare room, of which nothing may be handed out.
		room := append(slices.Clone(types), api.L, api.R, api.ON)
		before := slices.Clone(room)
		types = room[:len(types)]
		eachAround(func(level, sos, eos int) {
			got, _ := Resolve(types, level, sos, eos)
			again, _ := Resolve(types, level, sos, eos)
			_ = append(got, -9, -9)
			spoil(got)
			if !slices.Equal(room, before) || !slices.Equal(again, resolveByWords(types, level, sos, eos)) {
				t.Errorf("Resolve(%v, %d, %d, %d): %v has become %v, %v", types, level, sos, eos, before, room, again)
			}
			if slices.ContainsFunc(types, func(kind int) bool { return sideByWords(kind) == 0 }) {
				return
			}
			got, _ = Levels(types, level)
			again, _ = Levels(types, level)
			_ = append(got, -9, -9)
			spoil(got)
			if !slices.Equal(room, before) || !slices.Equal(again, levelsByWords(types, level)) {
				t.Errorf("Levels(%v, %d): %v has become %v, %v", types, level, before, room, again)
			}
		})
	}
}

func TestRule4WhatIsHandedInIsNotKept(t *testing.T) {
	types := list(api.L, api.ON, api.EN)
	resolved, _ := Resolve(types, 1, api.R, api.R)
	numbers := list(api.L, api.R, api.EN)
	told, _ := Levels(numbers, 0)
	spoil(types)
	spoil(numbers)
	if !slices.Equal(resolved, list(api.L, api.R, api.EN)) || !slices.Equal(told, list(0, 1, 2)) {
		t.Errorf("they have become %v, %v", resolved, told)
	}
	checkResolve(t, list(api.L, api.ON, api.EN), 1, api.R, api.R, list(api.L, api.R, api.EN))
	checkLevels(t, list(api.L, api.R, api.EN), 0, list(0, 1, 2))
}
