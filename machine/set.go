package machine

import (
	"iter"
	"math/bits"

	"jalousie/api"
)

// Set is a set of states. It is an array, so that two sets are the same when
// they compare so, and a copy shares nothing with what it was copied from.
type Set [api.MaxStates / 64]uint64

// Of answers the set of the numbers of l; such as no state can have are left out.
func Of(l []int) Set {
	var s Set
	for _, n := range l {
		s = s.With(n)
	}
	return s
}

// With answers the set that has n, too, if a state can have that number.
func (s Set) With(n int) Set {
	if isState := within(api.MaxStates); isState(n) {
		s[n/64] |= 1 << (n % 64)
	}
	return s
}

// Join answers the set of what one of both has.
func (s Set) Join(other Set) Set {
	for i := range s {
		s[i] |= other[i]
	}
	return s
}

// Meet answers the set of what both have.
func (s Set) Meet(other Set) Set {
	for i := range s {
		s[i] &= other[i]
	}
	return s
}

// Less answers the set of what the other one has not.
func (s Set) Less(other Set) Set {
	for i := range s {
		s[i] &^= other[i]
	}
	return s
}

// Meets tells whether there is a state that both have.
func (s Set) Meets(other Set) bool {
	for i := range s {
		if s[i]&other[i] != 0 {
			return true
		}
	}
	return false
}

// OnlyIn tells whether the set has states, and all of them are the other one's.
func (s Set) OnlyIn(other Set) bool {
	return s != (Set{}) && s.Less(other) == (Set{})
}

// All goes through the states of the set, rising.
func (s Set) All() iter.Seq[int] {
	return func(yield func(n int) bool) {
		for i, left := range s {
			for ; left != 0; left &= left - 1 {
				if !yield(64*i + bits.TrailingZeros64(left)) {
					return
				}
			}
		}
	}
}

// Row answers the row of the states of the set.
func (s Set) Row() []int {
	var l []int
	for n := range s.All() {
		l = append(l, n)
	}
	return l
}
