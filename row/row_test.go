package row

import (
	"math"
	"slices"
	"testing"

	"jalousie/api"
)

// A1.
func TestIs(t *testing.T) {
	for _, c := range []struct {
		l     []int
		below int
		want  bool
	}{
		{[]int{1, 4}, 5, true},
		{[]int{1, 4}, 4, false},
		{[]int{0}, 1, true},
		{[]int{0}, 0, false},
		{[]int{0}, -1, false},
		{nil, 0, true},
		{[]int{}, -1, true},
		{nil, math.MinInt, true},
		{[]int{4, 1}, 9, false},
		{[]int{1, 1}, 9, false},
		{[]int{0, 0}, 9, false},
		{[]int{0, 2, 1}, 9, false},
		{[]int{0, 9, 3}, 9, false},
		{[]int{-1}, 9, false},
		{[]int{-1, 0}, 9, false},
		{[]int{math.MinInt, 0}, 9, false},
		{[]int{api.MaxRow - 1}, api.MaxRow, true},
		{[]int{api.MaxRow - 1}, api.MaxRow - 1, false},
		{[]int{api.MaxRow - 1}, math.MaxInt, true},
		{[]int{api.MaxRow}, math.MaxInt, false},
		{[]int{0, api.MaxRow}, api.MaxRow + 1, false},
		{[]int{math.MaxInt}, math.MaxInt, false},
	} {
		if got := Is(c.l, c.below); got != c.want {
			t.Errorf("Is(%v, %d): %v", c.l, c.below, got)
		}
	}
}

// A1.
func TestHas(t *testing.T) {
	for _, c := range []struct {
		l    []int
		n    int
		want bool
	}{
		{[]int{1, 4}, 4, true},
		{[]int{1, 4}, 1, true},
		{[]int{1, 4}, 2, false},
		{[]int{1, 4}, 0, false},
		{nil, 0, false},
		{[]int{}, 0, false},
		{[]int{4, 1}, 1, true},
		{[]int{4, 1}, 4, true},
		{[]int{7, 7, 3}, 3, true},
		{[]int{5, -2, 0}, -2, true},
		{[]int{5, -2}, 2, false},
		{[]int{math.MaxInt, math.MinInt}, math.MinInt, true},
		{[]int{api.MaxRow}, api.MaxRow, true},
	} {
		if got := Has(c.l, c.n); got != c.want {
			t.Errorf("Has(%v, %d): %v", c.l, c.n, got)
		}
	}
}

// A1: what lies behind a list's length is no part of it.
func TestBehindLength(t *testing.T) {
	whole := []int{1, 4, 2, 9}
	if l := whole[:2]; !Is(l, 5) || Has(l, 9) {
		t.Error("what lies behind the length was read")
	}
}

// A2.
func TestJoinMeetLess(t *testing.T) {
	top := api.MaxRow - 1
	for _, c := range []struct{ a, b, join, meet, less []int }{
		{[]int{1, 4}, []int{0, 4, 6}, []int{0, 1, 4, 6}, []int{4}, []int{1}},
		{[]int{0, 4, 6}, []int{1, 4}, []int{0, 1, 4, 6}, []int{4}, []int{0, 6}},
		{nil, nil, nil, nil, nil},
		{nil, []int{0, 2}, []int{0, 2}, nil, nil},
		{[]int{0, 2}, []int{}, []int{0, 2}, nil, []int{0, 2}},
		{[]int{3, 5}, []int{3, 5}, []int{3, 5}, []int{3, 5}, nil},
		{[]int{0, 1}, []int{2, 3}, []int{0, 1, 2, 3}, nil, []int{0, 1}},
		{[]int{2, 3}, []int{0, 1}, []int{0, 1, 2, 3}, nil, []int{2, 3}},
		{[]int{0, 2, 4}, []int{1, 3}, []int{0, 1, 2, 3, 4}, nil, []int{0, 2, 4}},
		{[]int{0, top}, []int{top}, []int{0, top}, []int{top}, []int{0}},
	} {
		check(t, "Join", Join, c.a, c.b, c.join)
		check(t, "Meet", Meet, c.a, c.b, c.meet)
		check(t, "Less", Less, c.a, c.b, c.less)
	}
}

type of2 func(a, b []int) ([]int, api.Errno)

func check(t *testing.T, name string, f of2, a, b, want []int) {
	t.Helper()
	if got, e := f(a, b); e != api.OK || !slices.Equal(got, want) {
		t.Errorf("%s(%v, %v): %v, %d; asked for: %v", name, a, b, got, e, want)
	}
}

// A2: of all rows of numbers below 5, held against the same sets as bits.
func TestAllSmallRows(t *testing.T) {
	for i := range 32 {
		for j := range 32 {
			a, b := bits(i), bits(j)
			check(t, "Join", Join, a, b, bits(i|j))
			check(t, "Meet", Meet, a, b, bits(i&j))
			check(t, "Less", Less, a, b, bits(i&^j))
		}
	}
}

func bits(set int) []int {
	var l []int
	for n := range 5 {
		if set>>n&1 == 1 {
			l = append(l, n)
		}
	}
	return l
}

// A2: ErrForm, and nothing else is answered then.
func TestNoRow(t *testing.T) {
	good := [][]int{nil, {0}, {1, 4}, {api.MaxRow - 1}}
	bad := [][]int{{4, 1}, {1, 1}, {-1}, {-1, 3}, {0, 2, 1}, {api.MaxRow}, {0, math.MaxInt}, {math.MinInt}}
	for name, f := range map[string]of2{"Join": Join, "Meet": Meet, "Less": Less} {
		for _, x := range bad {
			for _, y := range slices.Concat(good, bad) {
				refused(t, name, f, x, y)
				refused(t, name, f, y, x)
			}
		}
	}
}

func refused(t *testing.T, name string, f of2, a, b []int) {
	t.Helper()
	if got, e := f(a, b); e != api.ErrForm || len(got) != 0 {
		t.Errorf("%s(%v, %v): %v, %d; asked for: ErrForm", name, a, b, got, e)
	}
}

// P3: what is handed in stays as it is, also behind its length, and what is
// answered shares nothing with it.
func TestMemory(t *testing.T) {
	for name, f := range map[string]of2{"Join": Join, "Meet": Meet, "Less": Less} {
		for _, second := range [][]int{nil, {1, 4}, {0, 4, 6}, {9}} {
			whole := []int{1, 4, 77, 78, 79}
			other := append(slices.Clone(second), 80, 81)
			got, _ := f(whole[:2], other[:len(second)])
			got = got[:cap(got)]
			for i := range got {
				got[i] = -5
			}
			if !slices.Equal(whole, []int{1, 4, 77, 78, 79}) {
				t.Errorf("%s: the first list is changed or shared: %v", name, whole)
			}
			if !slices.Equal(other, append(slices.Clone(second), 80, 81)) {
				t.Errorf("%s: the second list is changed or shared: %v", name, other)
			}
		}
	}
}

// P3: one list may be handed in twice.
func TestSameList(t *testing.T) {
	l := []int{0, 3, 8}
	check(t, "Join", Join, l, l, []int{0, 3, 8})
	check(t, "Meet", Meet, l, l, []int{0, 3, 8})
	check(t, "Less", Less, l, l, nil)
}

// P1: long rows are answered, too; a way that asks each number of each other one does not end in time.
func TestLongRows(t *testing.T) {
	const many = 1 << 20
	const shared = (many + 2) / 3 // multiples of 6 below 2*many
	a, b := make([]int, many), make([]int, many)
	for i := range many {
		a[i], b[i] = 2*i, 3*i
	}
	for name, c := range map[string]struct {
		f    of2
		want int
	}{
		"Join": {Join, 2*many - shared},
		"Meet": {Meet, shared},
		"Less": {Less, many - shared},
	} {
		if got, e := c.f(a, b); e != api.OK || len(got) != c.want || !Is(got, api.MaxRow) {
			t.Errorf("%s: %d numbers, %d; asked for: %d", name, len(got), e, c.want)
		}
	}
}
