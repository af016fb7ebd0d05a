package order

import (
	"slices"

	"colophon/api"
)

// ends tells whether a class ends a stretch by the chapter's words.
func ends(class int) bool { return class == api.S || class == api.B }

// blank tells whether a class is one of those that a stretch is made of.
func blank(class int) bool {
	return slices.Contains([]int{api.WS, api.LRI, api.RLI, api.FSI, api.PDI}, class)
}

// lineByWords tells of each place of a line its level by what lies behind it. Of what has the level -1 nothing is asked, whatever its class is.
func lineByWords(c, levels []int, base, from, to int) []int {
	var line []int
	for i := from; i < to; i++ {
		level := levels[i]
		if level != -1 && (ends(c[i]) || blank(c[i]) && isAhead(c, levels, i, to)) {
			level = base
		}
		line = append(line, level)
	}
	return line
}

// isAhead tells whether all that is seen between a place and the next S or B, or the line's end, is blank.
func isAhead(c, levels []int, i, to int) bool {
	for k := i + 1; k < to; k++ {
		if levels[k] == -1 || blank(c[k]) {
			continue
		}
		return ends(c[k])
	}
	return true
}

// leastByWords is the least level between two places, that is not -1.
func leastByWords(levels []int, i, j int) int {
	least := 1000
	for _, level := range levels[i : j+1] {
		if level != -1 {
			least = min(least, level)
		}
	}
	return least
}

// orderByWords puts each place behind as many as stand further left.
func orderByWords(levels []int) []int {
	var places []int
	for i, level := range levels {
		if level != -1 {
			places = append(places, i)
		}
	}
	told := slices.Repeat([]int{-1}, len(places))
	for _, i := range places {
		further := 0
		for _, j := range places {
			even := leastByWords(levels, min(i, j), max(i, j))%2 == 0
			if j < i && even || j > i && !even {
				further++
			}
		}
		told[further] = i
	}
	return told
}

// orderByTurning turns about stretches of what is seen, from the greatest level down to the least odd one.
func orderByTurning(levels []int) []int {
	places, least, greatest := []int(nil), 1000, -1
	for i, level := range levels {
		if level == -1 {
			continue
		}
		places = append(places, i)
		greatest = max(greatest, level)
		if level%2 == 1 {
			least = min(least, level)
		}
	}
	for level := greatest; level >= least; level-- {
		var turned, stretch []int
		for _, i := range places {
			if levels[i] < level {
				turned, stretch = append(append(turned, stretch...), i), nil
				continue
			}
			stretch = append([]int{i}, stretch...)
		}
		places = append(turned, stretch...)
	}
	return places
}

// columnsByWords tells of each place where it is found; it asks nothing of what is refused.
func columnsByWords(order []int, n int) []int {
	var columns []int
	for i := range n {
		columns = append(columns, slices.Index(order, i))
	}
	return columns
}

// runsByWords cuts an order ahead of each place whose level is another one than that of the place on its left.
func runsByWords(order, levels []int) [][]int {
	var runs [][]int
	for k, i := range order {
		if k == 0 || levels[order[k-1]] != levels[i] {
			runs = append(runs, nil)
		}
		last := len(runs) - 1
		runs[last] = append(runs[last], i)
	}
	return runs
}
