package levels

import (
	"slices"

	"colophon/api"
	"colophon/ucd"
)

// words is a paragraph on its way through what chapters 6 to 12 say, place by place.
type words struct {
	numbers       []rune
	classes       []int
	base          int
	pdis, owners  []int // of each initiator its PDI, of each PDI its initiator; -1 of all that have none
	levels, types []int
	kept          []int
}

// pairsOfBrackets are chapter 3's, without those of which another one stands for it.
var pairsOfBrackets = map[rune]rune{
	0x28: 0x29, 0x5b: 0x5d, 0x7b: 0x7d, 0x2045: 0x2046, 0x207d: 0x207e, 0x208d: 0x208e,
	0x27e6: 0x27e7, 0x27e8: 0x27e9, 0x27ea: 0x27eb, 0x27ec: 0x27ed, 0x27ee: 0x27ef, 0x3008: 0x3009, 0x300a: 0x300b,
	0x300c: 0x300d, 0x300e: 0x300f, 0x3010: 0x3011, 0x3014: 0x3015, 0x3016: 0x3017, 0x3018: 0x3019, 0x301a: 0x301b,
}

func isOne(kind int, of ...int) bool { return slices.Contains(of, kind) }

func isInitiator(kind int) bool { return isOne(kind, api.LRI, api.RLI, api.FSI) }

func isRemoved(kind int) bool {
	return isOne(kind, api.RLE, api.LRE, api.RLO, api.LRO, api.PDF, api.BN)
}

// sideOf is a type's side; 0 of those that have none.
func sideOf(kind int) int {
	switch kind {
	case api.L:
		return api.L
	case api.R, api.EN, api.AN:
		return api.R
	}
	return 0
}

// wayOf is R of odd levels, L of even ones.
func wayOf(level int) int {
	if level&1 == 0 {
		return api.L
	}
	return api.R
}

// paragraphByWords is what the chapter says of a paragraph that is not refused.
func paragraphByWords(l []rune, base int) (int, []int) {
	w := &words{numbers: l, base: base}
	for _, r := range l {
		w.classes = append(w.classes, ucd.Class(r))
	}
	w.match()
	if base == -1 {
		w.base = w.baseOf(0, len(l))
	}
	w.explicit()
	for i, level := range w.levels {
		if level >= 0 {
			w.kept = append(w.kept, i)
		}
	}
	out := slices.Clone(w.levels)
	w.eachSequence(func(places []int, level, sos, eos int) {
		t := make([]int, len(places))
		for k, i := range places {
			t[k] = w.types[i]
		}
		weakByWords(t, sos)
		w.brackets(t, places, level, sos)
		neutralByWords(t, level, sos, eos)
		for k, i := range places {
			out[i] = implicitByWords(t[k], level)
		}
	})
	return w.base, out
}

func (w *words) match() {
	w.pdis, w.owners = slices.Repeat([]int{-1}, len(w.classes)), slices.Repeat([]int{-1}, len(w.classes))
	for i, class := range w.classes {
		if !isInitiator(class) {
			continue
		}
		open := 0
		for k := i; k < len(w.classes); k++ {
			if isInitiator(w.classes[k]) {
				open++
			} else if w.classes[k] == api.PDI {
				open--
			}
			if open == 0 {
				w.pdis[i], w.owners[k] = k, i
				break
			}
		}
	}
}

// baseOf goes from place to place, and from an initiator on to its PDI.
func (w *words) baseOf(from, to int) int {
	for i := from; i < to; i++ {
		if isOne(w.classes[i], api.R, api.AL) {
			return 1
		}
		if w.classes[i] == api.L {
			return 0
		}
		if isInitiator(w.classes[i]) {
			if w.pdis[i] < 0 {
				return 0
			}
			i = w.pdis[i]
		}
	}
	return 0
}

// open is one that is open: its level, its override, whether it is an isolate.
type open struct {
	level, override int
	isolate         bool
}

// explicit tells levels and types by chapter 7, with the stack as a list whose front is the last entry.
func (w *words) explicit() {
	stack := []open{{level: w.base}}
	isolates, embeddings, valid := 0, 0, 0
	tell := func(class int) {
		level, kind := stack[0].level, class
		if stack[0].override != 0 {
			kind = stack[0].override
		}
		if class == api.B {
			level, kind = w.base, class
		}
		if isRemoved(class) {
			level, kind = -1, class
		}
		w.levels, w.types = append(w.levels, level), append(w.types, kind)
	}
	begin := func(odd bool, override int, isolate bool) bool {
		level := stack[0].level + 1
		if (level&1 == 1) != odd {
			level++
		}
		if level > 125 || isolates > 0 || embeddings > 0 {
			return false
		}
		stack = append([]open{{level, override, isolate}}, stack...)
		return true
	}
	for i, class := range w.classes {
		if isInitiator(class) {
			tell(class)
			end := w.pdis[i]
			if end < 0 {
				end = len(w.classes)
			}
			if begin(class == api.RLI || class == api.FSI && w.baseOf(i+1, end) == 1, 0, true) {
				valid++
			} else {
				isolates++
			}
			continue
		}
		overrides := map[int]int{api.RLO: api.R, api.LRO: api.L}
		switch {
		case isOne(class, api.RLE, api.LRE, api.RLO, api.LRO):
			if !begin(isOne(class, api.RLE, api.RLO), overrides[class], false) && isolates == 0 {
				embeddings++
			}
		case class == api.PDI && isolates > 0:
			isolates--
		case class == api.PDI && valid > 0:
			embeddings = 0
			at := slices.IndexFunc(stack, func(x open) bool { return x.isolate })
			stack = stack[at+1:]
			valid--
		case class == api.PDF && isolates == 0 && embeddings > 0:
			embeddings--
		case class == api.PDF && isolates == 0 && !stack[0].isolate && len(stack) > 1:
			stack = stack[1:]
		}
		tell(class)
	}
}

// next is the place that follows the k-th kept one in its sequence; -1, if none does. A level run goes on with the next kept place of the same level, a sequence from a run's end to the PDI.
func (w *words) next(k int) int {
	i := w.kept[k]
	if k+1 < len(w.kept) && w.levels[w.kept[k+1]] == w.levels[i] {
		return w.kept[k+1]
	}
	return w.pdis[i]
}

func (w *words) eachSequence(do func(places []int, level, sos, eos int)) {
	number := make([]int, len(w.classes)) // of each kept place, which of the kept ones it is
	for k, i := range w.kept {
		number[i] = k
	}
	follows := make([]bool, len(w.classes))
	for k := range w.kept {
		if next := w.next(k); next >= 0 {
			follows[next] = true
		}
	}
	for k, i := range w.kept {
		if follows[i] {
			continue
		}
		ahead, behind := w.base, w.base
		if k > 0 {
			ahead = w.levels[w.kept[k-1]]
		}
		places := []int{i}
		last := k
		for next := w.next(last); next >= 0; next = w.next(last) {
			places, last = append(places, next), number[next]
		}
		if last+1 < len(w.kept) && !isInitiator(w.classes[w.kept[last]]) {
			behind = w.levels[w.kept[last+1]]
		}
		level := w.levels[i]
		do(places, level, wayOf(max(level, ahead)), wayOf(max(level, behind)))
	}
}

// strongAhead is the last type of L, R or AL ahead of a place.
func strongAhead(t []int, place, sos int) int {
	for k := place - 1; k >= 0; k-- {
		if isOne(t[k], api.L, api.R, api.AL) {
			return t[k]
		}
	}
	return sos
}

// weakByWords applies chapter 9's rules to types in place.
func weakByWords(t []int, sos int) {
	has := func(i, kind int) bool { return i >= 0 && i < len(t) && t[i] == kind }
	rules := []func(i int){
		func(i int) {
			switch {
			case t[i] != api.NSM:
			case i == 0:
				t[i] = sos
			case isInitiator(t[i-1]) || t[i-1] == api.PDI:
				t[i] = api.ON
			default:
				t[i] = t[i-1]
			}
		},
		func(i int) {
			if t[i] == api.EN && strongAhead(t, i, sos) == api.AL {
				t[i] = api.AN
			}
		},
		func(i int) {
			if t[i] == api.AL {
				t[i] = api.R
			}
		},
		func(i int) {
			if isOne(t[i], api.ES, api.CS) && has(i-1, api.EN) && has(i+1, api.EN) {
				t[i] = api.EN
			} else if t[i] == api.CS && has(i-1, api.AN) && has(i+1, api.AN) {
				t[i] = api.AN
			}
		},
		func(i int) {
			end := i
			for has(end, api.ET) {
				end++
			}
			if t[i] == api.ET && (has(i-1, api.EN) || has(end, api.EN)) {
				t[i] = api.EN
			}
		},
		func(i int) {
			if isOne(t[i], api.ES, api.ET, api.CS) {
				t[i] = api.ON
			}
		},
		func(i int) {
			if t[i] == api.EN && strongAhead(t, i, sos) == api.L {
				t[i] = api.L
			}
		},
	}
	for _, rule := range rules {
		for i := range t {
			rule(i)
		}
	}
}

func canonOf(r rune) rune {
	switch r {
	case 0x2329:
		return 0x3008
	case 0x232a:
		return 0x3009
	}
	return r
}

// pairsOf are the pairs among a sequence's places, by their opening ones.
func (w *words) pairsOf(t, places []int) [][2]int {
	partners := slices.Repeat([]int{-1}, len(t))
	var waiting []int
	for k, i := range places {
		r := canonOf(w.numbers[i])
		if t[k] != api.ON {
			continue
		}
		if _, opens := pairsOfBrackets[r]; opens {
			if len(waiting) == 63 {
				break
			}
			waiting = append(waiting, k)
			continue
		}
		for at := len(waiting) - 1; at >= 0; at-- {
			if pairsOfBrackets[canonOf(w.numbers[places[waiting[at]]])] == r {
				partners[waiting[at]] = k
				waiting = waiting[:at]
				break
			}
		}
	}
	var all [][2]int
	for k, partner := range partners {
		if partner >= 0 {
			all = append(all, [2]int{k, partner})
		}
	}
	return all
}

// brackets gives pairs their types by chapter 10, in place.
func (w *words) brackets(t, places []int, level, sos int) {
	e := wayOf(level)
	for _, pair := range w.pairsOf(t, places) {
		own, other := false, false
		for _, kind := range t[pair[0]+1 : pair[1]] {
			own = own || sideOf(kind) == e
			other = other || sideOf(kind) == api.L+api.R-e
		}
		if !own && !other {
			continue
		}
		kind := e
		if !own {
			ahead := sos
			for _, x := range t[:pair[0]] {
				if sideOf(x) != 0 {
					ahead = sideOf(x)
				}
			}
			kind = ahead // It is the other side, or e.
		}
		for _, k := range pair {
			t[k] = kind
			for k++; k < len(t) && w.types[places[k]] == api.NSM; k++ {
				t[k] = kind
			}
		}
	}
}

// neutralByWords gives stretches without a side theirs by chapter 11, in place.
func neutralByWords(t []int, level, sos, eos int) {
	ahead := sos
	for i := 0; i < len(t); {
		if sideOf(t[i]) != 0 {
			ahead = sideOf(t[i])
			i++
			continue
		}
		end := i
		for end < len(t) && sideOf(t[end]) == 0 {
			end++
		}
		behind := eos
		if end < len(t) {
			behind = sideOf(t[end])
		}
		kind := wayOf(level)
		if ahead == behind {
			kind = ahead
		}
		for ; i < end; i++ {
			t[i] = kind
		}
	}
}

func implicitByWords(kind, level int) int {
	switch {
	case level&1 == 1 && kind == api.R:
		return level
	case level&1 == 1:
		return level + 1
	case kind == api.L:
		return level
	case kind == api.R:
		return level + 1
	}
	return level + 2
}
