package machine

import (
	"math"
	"slices"
	"testing"

	"jalousie/api"
)

// Of and Row: each state by itself, and lists that are no rows.
func TestOf(t *testing.T) {
	for n := range api.MaxStates {
		if l := Of([]int{n}).Row(); !slices.Equal(l, []int{n}) {
			t.Errorf("%d: %v", n, l)
		}
	}
	for _, c := range []struct{ l, want []int }{
		{nil, nil},
		{[]int{255, 0, 64, 63, 0}, []int{0, 63, 64, 255}},
		{[]int{-1, 5, 256, math.MaxInt, math.MinInt, -64}, []int{5}},
	} {
		if l := Of(c.l).Row(); !slices.Equal(l, c.want) {
			t.Errorf("%v: %v; asked for: %v", c.l, l, c.want)
		}
	}
}

// With, Join, Meet, Less and Meets leave the sets that they are asked of as they are.
func TestSets(t *testing.T) {
	a, b := Of([]int{0, 70}), Of([]int{70, 200})
	if l := a.Join(b).Row(); !slices.Equal(l, []int{0, 70, 200}) {
		t.Error(l)
	}
	if l := a.With(3).Row(); !slices.Equal(l, []int{0, 3, 70}) {
		t.Error(l)
	}
	if l := a.Meet(b).Row(); !slices.Equal(l, []int{70}) {
		t.Error(l)
	}
	if l := a.Less(b).Row(); !slices.Equal(l, []int{0}) {
		t.Error(l)
	}
	if l := b.Less(a).Row(); !slices.Equal(l, []int{200}) {
		t.Error(l)
	}
	if a != Of([]int{70, 0}) || b != Of([]int{200, 70}) {
		t.Error("a set was changed")
	}
	if !a.Meets(b) || !b.Meets(a) || a.Meets(Of([]int{1, 200})) || a.Meets(Set{}) || (Set{}).Meets(Set{}) {
		t.Error("Meets")
	}
}

// OnlyIn: an empty set is in none only.
func TestOnlyIn(t *testing.T) {
	for _, c := range []struct {
		l, other []int
		is       bool
	}{
		{nil, nil, false},
		{nil, []int{0, 255}, false},
		{[]int{0}, nil, false},
		{[]int{70}, []int{70}, true},
		{[]int{70}, []int{6, 70, 200}, true},
		{[]int{6, 70, 200}, []int{70}, false},
		{[]int{6, 70, 200}, []int{6, 70, 200}, true},
		{[]int{6, 70}, []int{6, 200}, false},
		{[]int{6}, []int{70}, false},
	} {
		if is := Of(c.l).OnlyIn(Of(c.other)); is != c.is {
			t.Errorf("%v only in %v: %v", c.l, c.other, is)
		}
	}
}

// All ends where its loop does, and can be gone through again.
func TestAll(t *testing.T) {
	all := Of([]int{1, 2, 100, 200}).All()
	for range 2 {
		var l []int
		for n := range all {
			if l = append(l, n); n == 100 {
				break
			}
		}
		if !slices.Equal(l, []int{1, 2, 100}) {
			t.Error(l)
		}
	}
}
