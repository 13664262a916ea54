package tests

import (
	"math"
	"slices"
	"testing"

	"loop.example/g00513/impl"
)

// sampleVector returns a valid vector whose components are spread over the field; seeds tell vectors of one width apart.
func sampleVector(width int, seed int) []int {
	v := make([]int, width)
	for i := range v {
		v[i] = (seed*seed*389 + seed*101 + i*i*57 + i*613 + seed*i*211) % 1019
	}
	return v
}

func filledVector(width int, component int) []int {
	return slices.Repeat([]int{component}, width)
}

func withComponent(v []int, index int, component int) []int {
	changed := slices.Clone(v)
	changed[index] = component
	return changed
}

// invalidVectors are too long, or have one component that is no element at the first, a middle or the last place.
func invalidVectors() [][]int {
	vectors := [][]int{filledVector(41, 0), filledVector(41, 1), sampleVector(41, 3), filledVector(42, 0), filledVector(80, 5), filledVector(1000, 0)}
	for _, x := range nonElements {
		vectors = append(vectors, []int{x})
		for _, width := range []int{3, 40} {
			for _, index := range []int{0, width / 2, width - 1} {
				vectors = append(vectors, withComponent(sampleVector(width, 2), index, x))
			}
		}
	}
	return vectors
}

// expectedCombination computes the document's sum with one remainder for each component.
func expectedCombination(vectors [][]int, coefficients []int) []int {
	sum := make([]int, len(vectors[0]))
	for i := range sum {
		for j, v := range vectors {
			sum[i] += coefficients[j] * v[i]
		}
		sum[i] %= 1019
	}
	return sum
}

func expectVector(t *testing.T, what string, got []int, want []int) {
	t.Helper()
	if !slices.Equal(got, want) {
		t.Errorf("%s: got %v, want %v", what, got, want)
	}
}

func TestMaxWidth(t *testing.T) {
	if impl.MaxWidth != 40 {
		t.Errorf("MaxWidth = %d", impl.MaxWidth)
	}
}

func TestIsValidVector(t *testing.T) {
	for width := range 41 {
		for _, v := range [][]int{filledVector(width, 0), filledVector(width, 1), filledVector(width, 1018), sampleVector(width, 1)} {
			if !impl.IsValidVector(v) {
				t.Errorf("IsValidVector(%v) = false", v)
			}
		}
	}
	if !impl.IsValidVector(nil) {
		t.Error("IsValidVector(nil) = false")
	}
	for _, v := range invalidVectors() {
		if impl.IsValidVector(v) {
			t.Errorf("IsValidVector(%v) = true", v)
		}
	}
}

func TestIsValidVectorLooksAtEveryComponent(t *testing.T) {
	for width := 1; width <= 40; width++ {
		for index := range width {
			for _, x := range []int{-1, 1019} {
				if v := withComponent(filledVector(width, 0), index, x); impl.IsValidVector(v) {
					t.Errorf("IsValidVector(%v) = true", v)
				}
			}
		}
	}
}

// Only the components up to the length belong to a vector.
func TestIsValidVectorIgnoresSpareCapacity(t *testing.T) {
	long := append(filledVector(40, 7), -1, 1019, 3)
	if !impl.IsValidVector(long[:40]) || !impl.IsValidVector(long[:0]) || impl.IsValidVector(long[:41]) {
		t.Error("spare capacity counts")
	}
}

func TestAddVectors(t *testing.T) {
	cases := []struct{ a, b, want []int }{
		{[]int{1, 2, 1018}, []int{0, 5, 3}, []int{1, 7, 2}},
		{[]int{0}, []int{0}, []int{0}},
		{[]int{1018}, []int{1}, []int{0}},
		{[]int{1018}, []int{1018}, []int{1017}},
		{[]int{510, 509}, []int{509, 510}, []int{0, 0}},
		{[]int{4, 0, 9}, []int{0, 0, 0}, []int{4, 0, 9}},
		{[]int{0, 0, 0}, []int{4, 0, 9}, []int{4, 0, 9}},
		{nil, nil, nil},
		{[]int{}, nil, nil},
		{nil, []int{}, nil},
	}
	for _, c := range cases {
		expectVector(t, "AddVectors", impl.AddVectors(c.a, c.b), c.want)
	}
}

func TestScaleVector(t *testing.T) {
	cases := []struct {
		v    []int
		k    int
		want []int
	}{
		{[]int{1, 2, 1018}, 2, []int{2, 4, 1017}},
		{[]int{1, 2, 1018}, 0, []int{0, 0, 0}},
		{[]int{1, 2, 1018}, 1, []int{1, 2, 1018}},
		{[]int{1, 2, 1018}, 1018, []int{1018, 1017, 1}},
		{[]int{0, 2}, 510, []int{0, 1}},
		{[]int{0}, 7, []int{0}},
		{nil, 7, nil},
		{[]int{}, 0, nil},
	}
	for _, c := range cases {
		expectVector(t, "ScaleVector", impl.ScaleVector(c.v, c.k), c.want)
	}
}

func TestAddScaled(t *testing.T) {
	cases := []struct {
		a, b []int
		k    int
		want []int
	}{
		{[]int{1, 2, 1018}, []int{0, 5, 3}, 2, []int{1, 12, 5}},
		{[]int{1, 2, 1018}, []int{0, 5, 3}, 0, []int{1, 2, 1018}},
		{[]int{1, 2, 1018}, []int{0, 5, 3}, 1, []int{1, 7, 2}},
		{[]int{1, 2, 1018}, []int{0, 5, 3}, 1018, []int{1, 1016, 1015}},
		{[]int{3, 4}, []int{3, 4}, 1018, []int{0, 0}},
		{[]int{1018}, []int{1018}, 1018, []int{0}},
		{nil, []int{}, 5, nil},
	}
	for _, c := range cases {
		expectVector(t, "AddScaled", impl.AddScaled(c.a, c.b, c.k), c.want)
	}
}

func TestSumsAndMultiplesOfAllWidths(t *testing.T) {
	for width := range 41 {
		for seed := range 6 {
			a, b := sampleVector(width, seed), sampleVector(width, 2*seed+1)
			expectVector(t, "AddVectors", impl.AddVectors(a, b), expectedCombination([][]int{a, b}, []int{1, 1}))
			for _, k := range []int{0, 1, 2, 509, 510, 1017, 1018, 37 + 41*seed} {
				multiple := impl.ScaleVector(b, k)
				expectVector(t, "ScaleVector", multiple, expectedCombination([][]int{b}, []int{k}))
				sum := impl.AddScaled(a, b, k)
				expectVector(t, "AddScaled", sum, expectedCombination([][]int{a, b}, []int{1, k}))
				expectVector(t, "AddScaled against AddVectors and ScaleVector", sum, impl.AddVectors(a, multiple))
			}
		}
	}
}

func TestScaleVectorByEveryElement(t *testing.T) {
	v := []int{0, 1, 2, 510, 1018}
	for k := range 1019 {
		expectVector(t, "ScaleVector", impl.ScaleVector(v, k), []int{0, k, 2 * k % 1019, 510 * k % 1019, (1019 - k) % 1019})
	}
}

// rejectPair checks that every function of two vectors refuses them.
func rejectPair(t *testing.T, a []int, b []int) {
	t.Helper()
	if got := impl.AddVectors(a, b); len(got) != 0 {
		t.Errorf("AddVectors(%v, %v) = %v", a, b, got)
	}
	for _, k := range []int{0, 1, 5, 1018, -1, 1019} {
		if got := impl.AddScaled(a, b, k); len(got) != 0 {
			t.Errorf("AddScaled(%v, %v, %d) = %v", a, b, k, got)
		}
	}
	if got := impl.DotProduct(a, b); got != 0 {
		t.Errorf("DotProduct(%v, %v) = %d", a, b, got)
	}
}

func TestPairsOfDifferentLengthsAreRejected(t *testing.T) {
	for m := range 41 {
		for n := range 41 {
			if m != n {
				rejectPair(t, filledVector(m, 1), filledVector(n, 2))
			}
		}
	}
	rejectPair(t, nil, []int{1})
	rejectPair(t, []int{1}, nil)
	rejectPair(t, []int{1, 2, 1018}, []int{1})
	rejectPair(t, []int{3, 0}, []int{3})
	long := []int{3, 4, 5}
	rejectPair(t, long[:2], long)
	rejectPair(t, long, long[:2])
}

func TestInvalidVectorsAreRejected(t *testing.T) {
	for _, v := range invalidVectors() {
		rejectPair(t, v, v)
		rejectPair(t, v, filledVector(len(v), 1))
		rejectPair(t, filledVector(len(v), 1), v)
		rejectPair(t, v, filledVector(len(v), 0))
		rejectPair(t, filledVector(len(v), 0), v)
		rejectPair(t, v, nil)
		rejectPair(t, nil, v)
		rejectPair(t, v, []int{1, 2})
		rejectPair(t, []int{1, 2}, v)
		for _, k := range []int{0, 1, 5, 1018, -1, 1019} {
			if got := impl.ScaleVector(v, k); len(got) != 0 {
				t.Errorf("ScaleVector(%v, %d) = %v", v, k, got)
			}
		}
	}
}

func TestFactorsMustBeElements(t *testing.T) {
	for _, k := range nonElements {
		for _, v := range [][]int{{0}, {1}, {1, 2, 1018}, {0, 0, 0}, filledVector(40, 1), nil} {
			if got := impl.ScaleVector(v, k); len(got) != 0 {
				t.Errorf("ScaleVector(%v, %d) = %v", v, k, got)
			}
			if got := impl.AddScaled(v, v, k); len(got) != 0 {
				t.Errorf("AddScaled(%v, %v, %d) = %v", v, v, k, got)
			}
		}
	}
}

func TestDotProduct(t *testing.T) {
	cases := []struct {
		a, b []int
		want int
	}{
		{[]int{1, 2, 1018}, []int{0, 5, 3}, 7},
		{[]int{1, 2, 1018}, []int{1}, 0},
		{[]int{2}, []int{510}, 1},
		{[]int{1, 1018}, []int{1, 1}, 0},
		{[]int{0, 0}, []int{5, 6}, 0},
		{[]int{3, 4}, []int{3, 4}, 25},
		{filledVector(40, 1018), filledVector(40, 1018), 40},
		{filledVector(40, 1018), filledVector(40, 1), 979},
		{nil, nil, 0},
		{[]int{}, nil, 0},
	}
	for _, c := range cases {
		if got := impl.DotProduct(c.a, c.b); got != c.want {
			t.Errorf("DotProduct(%v, %v) = %d, want %d", c.a, c.b, got, c.want)
		}
	}
}

func TestDotProductOfAllWidths(t *testing.T) {
	for width := range 41 {
		for seed := range 10 {
			a, b := sampleVector(width, seed), sampleVector(width, 3*seed+1)
			want := 0
			for i := range width {
				want += a[i] * b[i]
			}
			want %= 1019
			if got := impl.DotProduct(a, b); got != want {
				t.Errorf("DotProduct(%v, %v) = %d, want %d", a, b, got, want)
			}
			if got := impl.DotProduct(b, a); got != want {
				t.Errorf("DotProduct(%v, %v) = %d, want %d", b, a, got, want)
			}
		}
	}
}

func TestLeadingIndex(t *testing.T) {
	cases := []struct {
		v    []int
		want int
	}{
		{nil, -1},
		{[]int{}, -1},
		{[]int{0}, -1},
		{[]int{0, 0}, -1},
		{[]int{1}, 0},
		{[]int{0, 5, 3}, 1},
		{[]int{7, 0, 0}, 0},
		{[]int{0, 0, 1018}, 2},
		{[]int{-1, 0, 1}, 0},
		{[]int{0, -1, 1}, 1},
		{[]int{0, 1019}, 1},
		{[]int{0, 0, 2 * 1019, 1}, 2},
		{[]int{0, math.MinInt, 1}, 1},
		{[]int{0, math.MaxInt}, 1},
		{[]int{0, 1 << 32}, 1},
		{filledVector(41, 0), -1},
		{filledVector(500, 0), -1},
	}
	for _, c := range cases {
		if got := impl.LeadingIndex(c.v); got != c.want {
			t.Errorf("LeadingIndex(%v) = %d, want %d", c.v, got, c.want)
		}
	}
}

// Places beyond MaxWidth count as well, although such a slice is no valid vector.
func TestLeadingIndexOfEveryPlace(t *testing.T) {
	for index := range 100 {
		for _, x := range []int{1, 1018, 1019, -1} {
			v := withComponent(filledVector(100, 0), index, x)
			if got := impl.LeadingIndex(v); got != index {
				t.Errorf("LeadingIndex(%v) = %d, want %d", v, got, index)
			}
			if got := impl.LeadingIndex(v[:index]); got != -1 {
				t.Errorf("LeadingIndex(%v) = %d, want -1", v[:index], got)
			}
		}
	}
}

func TestUnitVector(t *testing.T) {
	expectVector(t, "UnitVector(3, 1)", impl.UnitVector(3, 1), []int{0, 1, 0})
	expectVector(t, "UnitVector(1, 0)", impl.UnitVector(1, 0), []int{1})
	for width := -3; width <= 45; width++ {
		for index := -3; index <= 45; index++ {
			want := []int{}
			if width <= 40 && 0 <= index && index < width {
				want = withComponent(filledVector(width, 0), index, 1)
			}
			expectVector(t, "UnitVector", impl.UnitVector(width, index), want)
		}
	}
}

func TestUnitVectorRejects(t *testing.T) {
	extremes := []int{math.MinInt, math.MinInt + 1, -1 << 32, -41, -40, -1, 41, 1 << 32, math.MaxInt - 1, math.MaxInt}
	for _, x := range extremes {
		for _, y := range append([]int{0, 1, 39, 40}, extremes...) {
			for _, got := range [][]int{impl.UnitVector(x, y), impl.UnitVector(y, x)} {
				if len(got) != 0 {
					t.Errorf("UnitVector of %d and %d = %v", x, y, got)
				}
			}
		}
	}
}

func TestCombine(t *testing.T) {
	a, b := []int{1, 2, 1018}, []int{0, 5, 3}
	cases := []struct {
		vectors      [][]int
		coefficients []int
		want         []int
	}{
		{[][]int{a, b}, []int{1, 1018}, []int{1, 1016, 1015}},
		{[][]int{a, b}, []int{0, 0}, []int{0, 0, 0}},
		{[][]int{a, b}, []int{1018, 2}, []int{1018, 8, 7}},
		{[][]int{a, a}, []int{1, 1018}, []int{0, 0, 0}},
		{[][]int{a, b, {7, 7, 7}}, []int{1, 1, 1}, []int{8, 14, 9}},
		{[][]int{{5}}, []int{204}, []int{1}},
		{[][]int{{}}, []int{3}, nil},
		{[][]int{nil, {}, nil}, []int{3, 0, 1018}, nil},
		{nil, nil, nil},
		{[][]int{}, []int{}, nil},
	}
	for _, c := range cases {
		expectVector(t, "Combine", impl.Combine(c.vectors, c.coefficients), c.want)
	}
}

func sampleVectors(count int, width int) [][]int {
	vectors := make([][]int, count)
	for i := range vectors {
		vectors[i] = sampleVector(width, i+width)
	}
	return vectors
}

func TestCombineAllCountsAndWidths(t *testing.T) {
	for count := 1; count <= 40; count++ {
		for width := range 41 {
			vectors, coefficients := sampleVectors(count, width), sampleVector(count, width)
			expectVector(t, "Combine", impl.Combine(vectors, coefficients), expectedCombination(vectors, coefficients))
		}
		greatest := slices.Repeat([][]int{filledVector(40, 1018)}, count)
		expectVector(t, "Combine", impl.Combine(greatest, filledVector(count, 1018)), filledVector(40, count))
	}
}

func TestUnitCoefficientsChooseAVector(t *testing.T) {
	for _, count := range []int{1, 2, 3, 7, 39, 40} {
		vectors := sampleVectors(count, 9)
		for i, v := range vectors {
			unit := impl.UnitVector(count, i)
			expectVector(t, "Combine with unit coefficients", impl.Combine(vectors, unit), v)
			expectVector(t, "Combine with a multiple of them", impl.Combine(vectors, impl.ScaleVector(unit, 600)), impl.ScaleVector(v, 600))
		}
	}
}

func TestUnitVectorsCombineToTheirCoefficients(t *testing.T) {
	for width := 1; width <= 40; width++ {
		units := [][]int{}
		for i := range width {
			units = append(units, impl.UnitVector(width, i))
		}
		coefficients := sampleVector(width, 5)
		expectVector(t, "Combine of unit vectors", impl.Combine(units, coefficients), coefficients)
	}
}

func TestCombinationsAreLinear(t *testing.T) {
	for _, count := range []int{1, 2, 5, 40} {
		for _, width := range []int{1, 3, 40} {
			for seed := range 5 {
				vectors, others := sampleVectors(count, width), slices.Repeat([][]int{sampleVector(width, 70+seed)}, count)
				c, d := sampleVector(count, seed), sampleVector(count, seed+9)
				k := (seed*333 + 1018) % 1019
				ofC, ofD := impl.Combine(vectors, c), impl.Combine(vectors, d)
				expectVector(t, "sum of coefficients", impl.Combine(vectors, impl.AddVectors(c, d)), impl.AddVectors(ofC, ofD))
				expectVector(t, "multiple of coefficients", impl.Combine(vectors, impl.ScaleVector(c, k)), impl.ScaleVector(ofC, k))
				expectVector(t, "scaled coefficients", impl.Combine(vectors, impl.AddScaled(c, d, k)), impl.AddScaled(ofC, ofD, k))
				sums := [][]int{}
				for i := range count {
					sums = append(sums, impl.AddScaled(vectors[i], others[i], k))
				}
				expectVector(t, "scaled vectors", impl.Combine(sums, c), impl.AddScaled(ofC, impl.Combine(others, c), k))
				w := sampleVector(width, 300+seed)
				want := 0
				for i := range count {
					want = impl.AddField(want, impl.MulField(c[i], impl.DotProduct(vectors[i], w)))
				}
				if got := impl.DotProduct(ofC, w); got != want {
					t.Errorf("DotProduct of a combination is %d, want %d", got, want)
				}
			}
		}
	}
}

func rejectCombination(t *testing.T, vectors [][]int, coefficients []int) {
	t.Helper()
	if got := impl.Combine(vectors, coefficients); len(got) != 0 {
		t.Errorf("Combine(%v, %v) = %v", vectors, coefficients, got)
	}
}

func TestCombineNeedsACoefficientForEachVector(t *testing.T) {
	for count := range 42 {
		for others := range 42 {
			if count != others || count == 0 || count == 41 {
				rejectCombination(t, slices.Repeat([][]int{{1, 2, 3}}, count), filledVector(others, 1))
			}
		}
	}
	rejectCombination(t, nil, []int{1})
	rejectCombination(t, [][]int{{1}}, nil)
	rejectCombination(t, [][]int{{1}, {2}}, []int{1})
	rejectCombination(t, [][]int{{1}, {2}}, []int{1, 0, 0})
}

func TestCombineNeedsValidCoefficients(t *testing.T) {
	for _, count := range []int{1, 2, 3, 40} {
		vectors := sampleVectors(count, 4)
		for _, x := range nonElements {
			for index := range count {
				rejectCombination(t, vectors, withComponent(filledVector(count, 1), index, x))
				rejectCombination(t, vectors, withComponent(filledVector(count, 0), index, x))
			}
		}
	}
	for _, count := range []int{41, 42, 100} {
		rejectCombination(t, slices.Repeat([][]int{{1, 2}}, count), filledVector(count, 1))
		rejectCombination(t, slices.Repeat([][]int{{1, 2}}, count), filledVector(count, 0))
	}
}

// A vector that does not fit is refused at every place, whatever its coefficient and whatever follows it.
func rejectAtEveryPlace(t *testing.T, others []int, odd []int) {
	t.Helper()
	for _, count := range []int{2, 3, 5} {
		for index := range count {
			vectors := slices.Repeat([][]int{others}, count)
			vectors[index] = odd
			rejectCombination(t, vectors, filledVector(count, 1))
			rejectCombination(t, vectors, filledVector(count, 0))
			rejectCombination(t, vectors, withComponent(filledVector(count, 1018), index, 0))
		}
	}
}

func TestCombineNeedsValidVectors(t *testing.T) {
	for _, v := range invalidVectors() {
		rejectCombination(t, [][]int{v}, []int{1})
		rejectCombination(t, [][]int{v}, []int{0})
		rejectCombination(t, [][]int{v, v, v}, []int{1, 2, 3})
		rejectAtEveryPlace(t, filledVector(len(v), 1), v)
		rejectAtEveryPlace(t, []int{1, 2}, v)
		rejectAtEveryPlace(t, nil, v)
	}
}

func TestCombineNeedsVectorsOfTheSameLength(t *testing.T) {
	lengths := []int{0, 1, 2, 3, 39, 40, 41}
	for _, m := range lengths {
		for _, n := range lengths {
			if m != n {
				rejectAtEveryPlace(t, filledVector(m, 1), filledVector(n, 1))
				rejectAtEveryPlace(t, filledVector(m, 0), filledVector(n, 0))
			}
		}
	}
	rejectCombination(t, [][]int{{1, 2}, {1}, {1, 2}, {1}}, []int{1, 1, 1, 1})
	rejectCombination(t, [][]int{{1, 2}, {1}, {}, {3}}, []int{1, 1, 1, 1})
	rejectCombination(t, [][]int{{1, 2}, {}, {}, {1, 2}}, []int{1, 1, 1, 1})
}

func TestEqualVectors(t *testing.T) {
	cases := []struct {
		a, b []int
		want bool
	}{
		{nil, nil, true},
		{nil, []int{}, true},
		{[]int{}, nil, true},
		{[]int{0}, nil, false},
		{nil, []int{0}, false},
		{[]int{1, 2}, []int{1, 2}, true},
		{[]int{1, 2}, []int{2, 1}, false},
		{[]int{1, 2}, []int{1}, false},
		{[]int{1}, []int{1, 0}, false},
		{[]int{0, 1}, []int{1}, false},
		{[]int{1, 2, 3}, []int{9, 2, 3}, false},
		{[]int{1, 2, 3}, []int{1, 9, 3}, false},
		{[]int{1, 2, 3}, []int{1, 2, 9}, false},
		{[]int{0}, []int{1019}, false},
		{[]int{1018}, []int{-1}, false},
		{[]int{1}, []int{1 << 32}, false},
		{[]int{-1, 1019}, []int{-1, 1019}, true},
		{[]int{math.MinInt, math.MaxInt}, []int{math.MinInt, math.MaxInt}, true},
		{[]int{math.MinInt}, []int{math.MaxInt}, false},
		{filledVector(41, 3), filledVector(41, 3), true},
		{filledVector(41, 3), filledVector(40, 3), false},
		{filledVector(100, 0), withComponent(filledVector(100, 0), 99, 1), false},
	}
	for _, c := range cases {
		if got := impl.EqualVectors(c.a, c.b); got != c.want {
			t.Errorf("EqualVectors(%v, %v) = %v", c.a, c.b, got)
		}
	}
}

// vectorResults are calls that return a vector; some of them have a result equal to an argument, which they must not return itself.
var vectorResults = map[string]func(a []int, b []int) []int{
	"AddVectors":               func(a, b []int) []int { return impl.AddVectors(a, b) },
	"AddVectors of one twice":  func(a, b []int) []int { return impl.AddVectors(a, a) },
	"AddVectors with zero":     func(a, b []int) []int { return impl.AddVectors(a, make([]int, len(a))) },
	"AddVectors to zero":       func(a, b []int) []int { return impl.AddVectors(make([]int, len(b)), b) },
	"ScaleVector":              func(a, b []int) []int { return impl.ScaleVector(a, 5) },
	"ScaleVector by 1":         func(a, b []int) []int { return impl.ScaleVector(a, 1) },
	"ScaleVector by 0":         func(a, b []int) []int { return impl.ScaleVector(a, 0) },
	"ScaleVector, rejected":    func(a, b []int) []int { return impl.ScaleVector(a, -1) },
	"AddScaled":                func(a, b []int) []int { return impl.AddScaled(a, b, 5) },
	"AddScaled by 0":           func(a, b []int) []int { return impl.AddScaled(a, b, 0) },
	"AddScaled, rejected":      func(a, b []int) []int { return impl.AddScaled(a, b, 1019) },
	"AddScaled, other lengths": func(a, b []int) []int { return impl.AddScaled(a, b[:1], 1) },
	"Combine":                  func(a, b []int) []int { return impl.Combine([][]int{a, b}, []int{2, 3}) },
	"Combine, unit":            func(a, b []int) []int { return impl.Combine([][]int{a, b}, []int{1, 0}) },
	"Combine of one":           func(a, b []int) []int { return impl.Combine([][]int{a}, []int{1}) },
	"Combine, coefficients a":  func(a, b []int) []int { return impl.Combine([][]int{{1}, {2}, {3}, {4}}, a) },
	"Combine of units": func(a, b []int) []int {
		return impl.Combine([][]int{{1, 0, 0, 0}, {0, 1, 0, 0}, {0, 0, 1, 0}, {0, 0, 0, 1}}, b)
	},
	"Combine, rejected":          func(a, b []int) []int { return impl.Combine([][]int{a, b}, []int{1, 1019}) },
	"Combine, other lengths":     func(a, b []int) []int { return impl.Combine([][]int{a, b[:1]}, []int{1, 1}) },
	"UnitVector":                 func(a, b []int) []int { return impl.UnitVector(4, 2) },
	"UnitVector of least width":  func(a, b []int) []int { return impl.UnitVector(1, 0) },
	"UnitVector, rejected":       func(a, b []int) []int { return impl.UnitVector(4, 4) },
	"UnitVector of width 0":      func(a, b []int) []int { return impl.UnitVector(0, 0) },
	"AddVectors of empty vector": func(a, b []int) []int { return impl.AddVectors(a[:0], b[:0]) },
	"Combine of empty vectors":   func(a, b []int) []int { return impl.Combine([][]int{a[:0], b[:0]}, []int{1, 2}) },
}

func TestVectorResultsAreNewMemory(t *testing.T) {
	for name, call := range vectorResults {
		a, aChanged := intsWithSpare([]int{1, 2, 3, 1018})
		b, bChanged := intsWithSpare([]int{0, 5, 7, 510})
		first, second := call(a, b), call(a, b)
		if aChanged() || bChanged() {
			t.Errorf("%s changes an argument", name)
		}
		want := slices.Clone(second)
		for i := range first[:cap(first)] {
			first[:cap(first)][i] = 777
		}
		if aChanged() || bChanged() {
			t.Errorf("%s returns memory of an argument", name)
		}
		if !slices.Equal(second, want) || !slices.Equal(call(a, b), want) {
			t.Errorf("%s returns the same memory twice", name)
		}
	}
}

func TestCombineKeepsItsListOfVectors(t *testing.T) {
	spare := []int{9, 9}
	whole := [][]int{{1, 2}, {3, 4}, spare, spare}
	before := slices.Clone(whole)
	coefficients, changed := intsWithSpare([]int{5, 6})
	expectVector(t, "Combine", impl.Combine(whole[:2], coefficients), []int{23, 34})
	for i := range whole {
		if &whole[i][0] != &before[i][0] || len(whole[i]) != 2 {
			t.Errorf("Combine replaces vector %d", i)
		}
	}
	if changed() || !slices.Equal(whole[0], []int{1, 2}) || !slices.Equal(whole[1], []int{3, 4}) || !slices.Equal(spare, []int{9, 9}) {
		t.Error("Combine changes an argument")
	}
}

func TestVectorQuestionsChangeNothing(t *testing.T) {
	for _, values := range [][]int{{0, 5, 7, 510}, {0, -1, 1019}, {}} {
		a, aChanged := intsWithSpare(values)
		b, bChanged := intsWithSpare(values)
		impl.IsValidVector(a)
		impl.DotProduct(a, b)
		impl.DotProduct(a, a)
		impl.LeadingIndex(a)
		impl.EqualVectors(a, b)
		if aChanged() || bChanged() {
			t.Errorf("a question about %v changes an argument", values)
		}
	}
}
