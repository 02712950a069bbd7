// Package row has rows of numbers: see doc/01-row.md.
package row

import (
	"slices"

	"jalousie/api"
)

// Is tells whether l is a row all of whose numbers are below below.
func Is(l []int, below int) bool {
	below = min(below, api.MaxRow)
	last := -1
	for _, n := range l {
		if n <= last || n >= below {
			return false
		}
		last = n
	}
	return true
}

// Has tells whether n is among the numbers of l, be it a row or not.
func Has(l []int, n int) bool { return slices.Contains(l, n) }

// Join answers the row of the numbers that a or b has.
func Join(a, b []int) ([]int, api.Errno) {
	inA, inB := finder(a), finder(b)
	return pick(a, b, func(n int) bool { return inA(n) || inB(n) })
}

// Meet answers the row of the numbers that both a and b have.
func Meet(a, b []int) ([]int, api.Errno) {
	inA, inB := finder(a), finder(b)
	return pick(a, b, func(n int) bool { return inA(n) && inB(n) })
}

// Less answers the row of the numbers that a has and b has not.
func Less(a, b []int) ([]int, api.Errno) {
	inA, inB := finder(a), finder(b)
	return pick(a, b, func(n int) bool { return inA(n) && !inB(n) })
}

// finder answers a closure that tells whether a row has a number. It is asked
// for rising numbers only: so it goes through the row once for all of them.
func finder(l []int) func(n int) bool {
	at := 0
	return func(n int) bool {
		for at < len(l) && l[at] < n {
			at++
		}
		return at < len(l) && l[at] == n
	}
}

// pick answers those numbers of two rows of which stays says that they stay.
// It asks in rising order, once for each number.
func pick(a, b []int, stays func(n int) bool) ([]int, api.Errno) {
	if !Is(a, api.MaxRow) || !Is(b, api.MaxRow) {
		return nil, api.ErrForm
	}
	var out []int
	for len(a) > 0 || len(b) > 0 {
		n := first(a, b)
		a, b = behind(a, n), behind(b, n)
		if stays(n) {
			out = append(out, n)
		}
	}
	return out, api.OK
}

// first answers the least number of two rows that are not both empty.
func first(a, b []int) int {
	switch {
	case len(a) == 0:
		return b[0]
	case len(b) == 0:
		return a[0]
	}
	return min(a[0], b[0])
}

// behind answers what is left of a row when n is taken from its front.
func behind(l []int, n int) []int {
	if len(l) > 0 && l[0] == n {
		return l[1:]
	}
	return l
}
