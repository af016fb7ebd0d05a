package spot

import (
	"slices"
	"testing"

	"colophon/api"
	"colophon/order"
)

// spotsByWords tells the spots of a line that is not refused: of each place the column of the first stop from there on, by chapter 13's Order of the levels with base behind them.
func spotsByWords(t *testing.T, levels []int, base int) []complex128 {
	t.Helper()
	all := append(slices.Clone(levels), base)
	stops, e := order.Order(all)
	if e != api.OK {
		t.Fatalf("Order(%v): %v, %d", all, stops, e)
	}
	var spots []complex128
	for place := range all {
		stop := place
		for all[stop] == -1 {
			stop++
		}
		leaning := 0.0
		if stop == place {
			leaning = []float64{1, -1}[all[place]&1]
		}
		spots = append(spots, complex(float64(slices.Index(stops, stop)), leaning))
	}
	return spots
}

// leastByWords is the least level between two places, that is not -1.
func leastByWords(levels []int, i, j int) int {
	least := 1000
	for _, level := range levels[i : j+1] {
		if level != -1 {
			least = min(least, level)
		}
	}
	return least
}

// stands tells whether a spot is that of a stop, for parts that are numbers.
func stands(z complex128) bool { return imag(z) < 0 || imag(z) > 0 }

// offsetByWords goes through the spots from behind, so that the one found last is the first one.
func offsetByWords(spots []complex128, z complex128) (int, api.Errno) {
	if !slices.Contains([]float64{1, -1}, imag(z)) {
		return 0, api.ErrRange
	}
	place, e := 0, api.ErrEdge
	for i := len(spots) - 1; i >= 0; i-- {
		if stands(spots[i]) && real(spots[i]) == real(z) {
			place, e = i, api.OK
		}
	}
	return place, e
}

// stepByWords asks offsetByWords for the column beside; to which side that leans is not asked for.
func stepByWords(spots []complex128, i, by int) (int, api.Errno) {
	if i < 0 || i > len(spots)-1 || by != 1 && by != -1 {
		return 0, api.ErrRange
	}
	beside := real(spots[i]) + 1
	if by == -1 {
		beside = real(spots[i]) - 1
	}
	return offsetByWords(spots, complex(beside, 1))
}

// flipByWords turns the parts of each spot about one by one.
func flipByWords(spots []complex128) []complex128 {
	m := 0
	for _, z := range spots {
		if stands(z) {
			m++
		}
	}
	var flipped []complex128
	for _, z := range spots {
		column, leaning := float64(m-1)-real(z), 0.0
		if stands(z) {
			leaning = -imag(z)
		}
		flipped = append(flipped, complex(column, leaning))
	}
	return flipped
}
