package pick

import (
	"slices"
	"testing"

	"colophon/api"
	"colophon/order"
)

// columnsByWords tells of each place of a line that is not refused where it stands in chapter 13's Order; -1 of one that is not seen.
func columnsByWords(t *testing.T, levels []int) []int {
	t.Helper()
	places, e := order.Order(levels)
	if e != api.OK {
		t.Fatalf("Order(%v): %v, %d", levels, places, e)
	}
	columns := slices.Repeat([]int{-1}, len(levels))
	for column, place := range places {
		columns[place] = column
	}
	return columns
}

// countByWords tells how many places are seen.
func countByWords(levels []int) int {
	count := 0
	for _, level := range levels {
		if level >= 0 {
			count++
		}
	}
	return count
}

// runsByWords sorts the columns of a range, and begins a run with each one that does not follow the one ahead of it.
func runsByWords(columns []int, from, to int) [][2]int {
	var marked []int
	for place := from; place < to; place++ {
		if columns[place] != -1 {
			marked = append(marked, columns[place])
		}
	}
	slices.Sort(marked)
	var runs [][2]int
	for _, column := range marked {
		if last := len(runs) - 1; last >= 0 && runs[last][1] == column {
			runs[last][1]++
			continue
		}
		runs = append(runs, [2]int{column, column + 1})
	}
	return runs
}

// areRunsByWords tells whether none of the runs is what the chapter refuses, each one asked by itself.
func areRunsByWords(runs [][2]int, columns int) bool {
	for k, run := range runs {
		begins, ends := run[0], run[1]
		if begins < 0 || k > 0 && begins < runs[k-1][1] || ends <= begins || ends > columns {
			return false
		}
	}
	return true
}

// placesByWords asks of each place, one behind the other, whether one of the runs has its column.
func placesByWords(columns []int, runs [][2]int) []int {
	var places []int
	for place, column := range columns {
		if column != -1 && slices.ContainsFunc(runs, func(run [2]int) bool { return run[0] <= column && column < run[1] }) {
			places = append(places, place)
		}
	}
	return places
}
