// Package float is layer 1: see shared/doc/01-float.md.
package float

import (
	"math"
	"slices"
)

// The classes stand in the order of what they hold, so that Less can go by their numbers.
const (
	noNumber = iota
	minusInfinity
	belowNought
	minusNought
	plusNought
	aboveNought
	plusInfinity
)

// Class: P1.1. The noughts are told apart by their sign bits, since they are equal by value.
func Class(x float64) int {
	class := plusNought
classes:
	switch {
	case math.IsNaN(x):
		class = noNumber
	case math.Signbit(x):
		switch {
		case x == 0:
			class = minusNought
			break classes
		case math.IsInf(x, -1):
			class = minusInfinity
			break classes
		}
		class = belowNought
	case math.IsInf(x, 1):
		class = plusInfinity
	case x > 0:
		class = aboveNought
	}
	return class
}

// Less: P1.1. Within a class the values decide; of NaNs and of noughts none is below another.
func Less(x, y float64) bool {
	a, b := Class(x), Class(y)
	if a != b {
		return a < b
	}
	return x < y
}

// Same: P1.1.
func Same(x, y float64) bool {
	return !Less(x, y) && !Less(y, x)
}

// Min: P1.2.
func Min(l []float64) (float64, bool) {
	return outermost(l, noNumber, Less)
}

// Max: P1.2.
func Max(l []float64) (float64, bool) {
	return outermost(l, plusInfinity, greater)
}

func greater(x, y float64) bool {
	return Less(y, x)
}

// outermost tells the first of l that no other one is ahead of. What lies behind one of the class last can't be ahead of it, so the search ends there.
func outermost(l []float64, last int, ahead func(x, y float64) bool) (float64, bool) {
	if len(l) == 0 {
		return 0, false
	}
	best := l[0]
search:
	for _, x := range l {
		switch {
		case Class(best) == last:
			break search
		case ahead(x, best):
			best = x
		}
	}
	return best, true
}

// Sort: P1.2. NaNs may have unlike bits, so only a stable order keeps Same ones as they stood.
func Sort(l []float64) []float64 {
	sorted := make([]float64, len(l))
	copy(sorted, l)
	slices.SortStableFunc(sorted, compare)
	return sorted
}

func compare(x, y float64) int {
	switch {
	case Less(x, y):
		return -1
	case Less(y, x):
		return 1
	}
	return 0
}

// Clamp: P1.2. With lo above hi the order of the questions decides.
func Clamp(x, lo, hi float64) float64 {
	switch {
	case Less(x, lo):
		return lo
	case Less(hi, x):
		return hi
	}
	return x
}

// Mid: P1.2. The conversions keep each half rounded by itself: without them a half may be fused into the sum.
func Mid(x, y float64) float64 {
	return float64(x/2) + float64(y/2)
}
