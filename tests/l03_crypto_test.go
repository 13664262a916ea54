package tests

import (
	"math"
	"slices"
	"testing"

	"loop.example/g00513/impl"
)

func TestEqualInts(t *testing.T) {
	cases := []struct {
		a, b []int
		want bool
	}{
		{nil, nil, true},
		{nil, []int{}, true},
		{[]int{}, nil, true},
		{[]int{}, []int{}, true},
		{[]int{7}, []int{7}, true},
		{[]int{5, 300, -1}, []int{5, 300, -1}, true},
		{[]int{math.MinInt, math.MaxInt}, []int{math.MinInt, math.MaxInt}, true},
		{nil, []int{0}, false},
		{[]int{0}, nil, false},
		{[]int{0}, []int{}, false},
		{[]int{7}, []int{-7}, false},
		{[]int{1}, []int{257}, false},
		{[]int{1}, []int{1 + 1<<32}, false},
		{[]int{math.MinInt}, []int{math.MaxInt}, false},
		{[]int{7, 8}, []int{7}, false},
		{[]int{7}, []int{7, 8}, false},
		{[]int{7, 8}, []int{8, 7}, false},
		{[]int{1, 2, 3}, []int{9, 2, 3}, false},
		{[]int{1, 2, 3}, []int{1, 9, 3}, false},
		{[]int{1, 2, 3}, []int{1, 2, 9}, false},
		{make([]int, 2, 5), make([]int, 2), true},
	}
	for _, c := range cases {
		if got := impl.EqualInts(c.a, c.b); got != c.want {
			t.Errorf("EqualInts(%v, %v) = %v, want %v", c.a, c.b, got, c.want)
		}
	}
}

func TestEqualIntsLeavesItsArguments(t *testing.T) {
	a, b := []int{3, 1, 2}, []int{3, 2, 1}
	impl.EqualInts(a, b[:2])
	impl.EqualInts(a, b)
	if !slices.Equal(a, []int{3, 1, 2}) || !slices.Equal(b, []int{3, 2, 1}) {
		t.Errorf("EqualInts changes its arguments to %v, %v", a, b)
	}
}
