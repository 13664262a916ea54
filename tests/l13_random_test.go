package tests

import (
	"math"
	"slices"
	"testing"

	"loop.example/g00513/impl"
)

// The seeds 1637 and 1277460 are among the few whose first number, or first two numbers, modulo FieldSize are 0.
var randomSeeds = append([]int{5, 7, 1637, 1277460, 1277460 - impl.Modulus, math.MaxInt - 1, math.MaxInt - 39, math.MinInt + 1}, sampleKeys...)

var badLimits = []int{0, -1, -2, -1019, -impl.Modulus, -impl.MaxValue, math.MinInt, math.MinInt + 1, impl.MaxValue + 1, impl.MaxValue + 2, 2 * impl.MaxValue, 1 << 41, 1 << 62, math.MaxInt - 1, math.MaxInt}

// Counts, widths and totals that are out of range wherever they are used.
var badCounts = []int{-1, -2, -40, -41, math.MinInt, math.MinInt + 1, 41, 42, 80, 100, 1 << 32, 1<<32 + 1, 1<<32 + 3, impl.MaxValue, math.MaxInt - 1, math.MaxInt}

// expectedNumber computes what the document says without the package.
func expectedNumber(seed int, index int, limit int) int {
	h := bigKeyedHash(seed, index, 71)
	return h * h % 2147483647 % limit
}

func expectedRandomVector(seed int, width int) []int {
	v := make([]int, width)
	for i := range v {
		v[i] = expectedNumber(seed, i, 1019)
	}
	if slices.Max(v) == 0 {
		v[0] = 1
	}
	return v
}

// expectedDraw keeps all integers and counts those that are not taken, so nothing is ever removed.
func expectedDraw(seed int, total int, count int) []int {
	taken := make([]bool, total)
	drawn := []int{}
	for k := range count {
		skip := expectedNumber(seed, k, total-k)
		for n := range total {
			if taken[n] {
				continue
			}
			if skip == 0 {
				taken[n] = true
				drawn = append(drawn, n)
				break
			}
			skip--
		}
	}
	return drawn
}

func expectedSparse(seed int, width int, count int) []int {
	v := make([]int, width)
	for _, index := range expectedDraw(seed, width, count) {
		v[index] = 1 + expectedNumber(seed, 100+index, 1018)
	}
	return v
}

func expectedTries(seed int, width int, tries int) [][]int {
	vectors := [][]int{}
	for i := 1; i <= tries; i++ {
		vectors = append(vectors, expectedRandomVector(seed+i, width))
	}
	return vectors
}

// everyCount calls visit with each count that each total from 0 to 40 allows.
func everyCount(visit func(total int, count int)) {
	for total := range 41 {
		for count := range total + 1 {
			visit(total, count)
		}
	}
}

func TestRandomNumber(t *testing.T) {
	cases := []struct {
		seed, index, limit, want int
	}{
		{5, 2, 0, 0},
		{5, 2, 1, 0},
		{5, 2, 2, 0},
		{5, 2, 3, 0},
		{5, 2, 10, 2},
		{5, 2, 1019, 902},
		{5, 2, impl.Modulus, 569081832},
		{5, 2, impl.Modulus + 1, 569081832},
		{5, 2, impl.MaxValue, 569081832},
		{5, 2, impl.MaxValue + 1, 0},
		{0, 0, 1019, 401},
		{0, 0, impl.MaxValue, 1305836673},
		{-1, -1, 1019, 9},
		{-1, -1, impl.MaxValue, 2030452276},
		{math.MaxInt, math.MaxInt, 1019, 88},
		{math.MinInt, math.MinInt, 1019, 701},
		{math.MaxInt, math.MinInt, impl.MaxValue, 35895854},
		{impl.Modulus, 0, impl.MaxValue, 1305836673},
		{0, impl.Modulus, impl.MaxValue, 1305836673},
		{1637, 0, 1019, 0},
		{1277460, 1, 1019, 0},
	}
	for _, c := range cases {
		if got := impl.RandomNumber(c.seed, c.index, c.limit); got != c.want {
			t.Errorf("RandomNumber(%d, %d, %d) = %d, want %d", c.seed, c.index, c.limit, got, c.want)
		}
	}
}

func TestRandomNumberAsTheDocumentSays(t *testing.T) {
	indices := append([]int{39, 40, 70, 71, 72, 99, 100, 139, 140}, sampleKeys...)
	limits := []int{1, 2, 3, 7, 39, 40, 41, 1018, 1019, 1 << 30, impl.Modulus - 1, impl.Modulus, impl.Modulus + 1, 1 << 32, impl.MaxValue - 1, impl.MaxValue}
	for _, seed := range randomSeeds {
		for _, index := range indices {
			for _, limit := range limits {
				want := expectedNumber(seed, index, limit)
				if got := impl.RandomNumber(seed, index, limit); got != want || got < 0 || got >= limit {
					t.Errorf("RandomNumber(%d, %d, %d) = %d, want %d", seed, index, limit, got, want)
				}
			}
		}
	}
}

func TestRandomNumberWithoutALimit(t *testing.T) {
	for _, seed := range randomSeeds {
		for _, index := range sampleKeys {
			for _, limit := range badLimits {
				if got := impl.RandomNumber(seed, index, limit); got != 0 {
					t.Errorf("RandomNumber(%d, %d, %d) = %d, want 0", seed, index, limit, got)
				}
			}
		}
	}
}

// What is chosen with a limit is the remainder of what is chosen without one, and takes every value below the limit.
func TestRandomNumbersReachTheirLimit(t *testing.T) {
	for limit := 1; limit <= 41; limit++ {
		bySeed, byIndex := make([]bool, limit), make([]bool, limit)
		for n := range 1000 {
			bySeed[impl.RandomNumber(n, 3, limit)] = true
			byIndex[impl.RandomNumber(3, n, limit)] = true
			if impl.RandomNumber(n, 3, limit) != impl.RandomNumber(n, 3, impl.MaxValue)%limit {
				t.Errorf("RandomNumber(%d, 3, %d) is no remainder of the number without a limit", n, limit)
			}
		}
		if slices.Contains(bySeed, false) || slices.Contains(byIndex, false) {
			t.Errorf("with the limit %d, not every number is chosen: %v, %v", limit, bySeed, byIndex)
		}
	}
}

func TestRandomVector(t *testing.T) {
	cases := []struct {
		seed, width int
		want        []int
	}{
		{5, 3, []int{199, 765, 902}},
		{5, 1, []int{199}},
		{0, 4, []int{401, 521, 212, 493}},
		{-1, 2, []int{170, 151}},
		{math.MaxInt, 2, []int{848, 88}},
		{math.MinInt, 2, []int{155, 1016}},
		{1637, 1, []int{1}},
		{1637 - impl.Modulus, 1, []int{1}},
		{1637, 2, []int{0, 289}},
		{1277460, 1, []int{1}},
		{1277460, 2, []int{1, 0}},
		{1277460 - impl.Modulus, 2, []int{1, 0}},
		{1277460 + impl.Modulus, 2, []int{1, 0}},
		{1277460, 3, []int{0, 0, 590}},
		{2661198, 2, []int{1, 0}},
		{5, 0, nil},
		{5, -1, nil},
		{5, 41, nil},
	}
	for _, c := range cases {
		if got := impl.RandomVector(c.seed, c.width); !slices.Equal(got, c.want) {
			t.Errorf("RandomVector(%d, %d) = %v, want %v", c.seed, c.width, got, c.want)
		}
	}
}

func TestRandomVectorOfEveryWidth(t *testing.T) {
	for _, seed := range randomSeeds {
		for width := 1; width <= 40; width++ {
			got := impl.RandomVector(seed, width)
			expectVector(t, "RandomVector", got, expectedRandomVector(seed, width))
			if len(got) != width || !impl.IsValidVector(got) || impl.LeadingIndex(got) < 0 {
				t.Errorf("RandomVector(%d, %d) = %v", seed, width, got)
			}
		}
	}
}

// One in 1019 of the seeds has 0 as its first number.
func TestRandomVectorIsNeverZero(t *testing.T) {
	for seed := range 12000 {
		for width := 1; width <= 2; width++ {
			if got := impl.RandomVector(seed, width); len(got) != width || impl.LeadingIndex(got) < 0 {
				t.Errorf("RandomVector(%d, %d) = %v", seed, width, got)
			}
		}
	}
}

func TestRandomVectorWithoutAWidth(t *testing.T) {
	for _, seed := range randomSeeds {
		for _, width := range append([]int{0}, badCounts...) {
			if got := impl.RandomVector(seed, width); len(got) != 0 {
				t.Errorf("RandomVector(%d, %d) = %v", seed, width, got)
			}
		}
	}
}

func TestRandomSubset(t *testing.T) {
	cases := []struct {
		seed, total, count int
		want               []int
	}{
		{7, 6, 3, []int{1, 2, 5}},
		{7, 6, 6, []int{0, 1, 2, 3, 4, 5}},
		{7, 4, 4, []int{0, 1, 2, 3}},
		{7, 40, 5, []int{5, 20, 26, 37, 38}},
		{7, 2, 1, []int{1}},
		{7, 1, 1, []int{0}},
		{7, 1, 0, nil},
		{7, 0, 0, nil},
		{7, 4, 0, nil},
		{0, 5, 2, []int{1, 3}},
		{-1, 5, 2, []int{0, 2}},
		{math.MaxInt, 5, 3, []int{0, 2, 4}},
		{math.MinInt, 5, 3, []int{1, 2, 4}},
		{7, 4, 5, nil},
		{7, 4, -1, nil},
		{7, 0, 1, nil},
		{7, -1, -1, nil},
		{7, -1, 0, nil},
		{7, 41, 3, nil},
		{7, 41, 41, nil},
		{7, 40, 41, nil},
	}
	for _, c := range cases {
		if got := impl.RandomSubset(c.seed, c.total, c.count); !slices.Equal(got, c.want) {
			t.Errorf("RandomSubset(%d, %d, %d) = %v, want %v", c.seed, c.total, c.count, got, c.want)
		}
	}
}

func TestRandomSubsetsOfEverySize(t *testing.T) {
	for _, seed := range randomSeeds {
		everyCount(func(total int, count int) {
			want := slices.Sorted(slices.Values(expectedDraw(seed, total, count)))
			if got := impl.RandomSubset(seed, total, count); !slices.Equal(got, want) {
				t.Errorf("RandomSubset(%d, %d, %d) = %v, want %v", seed, total, count, got, want)
			}
		})
	}
}

func TestRandomSubsetHasItsSize(t *testing.T) {
	for seed := -30; seed < 30; seed++ {
		everyCount(func(total int, count int) {
			got := impl.RandomSubset(seed, total, count)
			if len(got) != count {
				t.Errorf("RandomSubset(%d, %d, %d) = %v", seed, total, count, got)
			}
			last := -1
			for _, n := range got {
				if n <= last || n >= total {
					t.Errorf("RandomSubset(%d, %d, %d) = %v", seed, total, count, got)
				}
				last = n
			}
		})
	}
}

func TestRandomSubsetOfAllElements(t *testing.T) {
	all := []int{}
	for total := range 41 {
		for _, seed := range randomSeeds {
			expectVector(t, "RandomSubset of all elements", impl.RandomSubset(seed, total, total), all)
		}
		all = append(all, total)
	}
}

// Every element of a set, and every set of two elements, is chosen for some seed.
func TestEverySmallSubsetIsChosen(t *testing.T) {
	single, double := map[int]bool{}, map[[2]int]bool{}
	for seed := range 1000 {
		single[impl.RandomSubset(seed, 6, 1)[0]] = true
		double[[2]int(impl.RandomSubset(seed, 6, 2))] = true
	}
	if len(single) != 6 || len(double) != 15 {
		t.Errorf("of 6 elements, %d are chosen, and %d sets of two", len(single), len(double))
	}
}

func TestRandomSubsetOutOfRange(t *testing.T) {
	for _, seed := range []int{7, 0, -1, math.MaxInt, math.MinInt} {
		for _, bad := range badCounts {
			for _, fine := range []int{0, 1, 2, 39, 40} {
				if got := impl.RandomSubset(seed, bad, fine); len(got) != 0 {
					t.Errorf("RandomSubset(%d, %d, %d) = %v", seed, bad, fine, got)
				}
				if got := impl.RandomSubset(seed, fine, bad); len(got) != 0 {
					t.Errorf("RandomSubset(%d, %d, %d) = %v", seed, fine, bad, got)
				}
			}
			for _, other := range badCounts {
				if got := impl.RandomSubset(seed, bad, other); len(got) != 0 {
					t.Errorf("RandomSubset(%d, %d, %d) = %v", seed, bad, other, got)
				}
			}
		}
		for total := range 41 {
			for count := total + 1; count <= 42; count++ {
				if got := impl.RandomSubset(seed, total, count); len(got) != 0 {
					t.Errorf("RandomSubset(%d, %d, %d) = %v", seed, total, count, got)
				}
			}
		}
	}
}

func TestShuffle(t *testing.T) {
	cases := []struct {
		seed, total int
		want        []int
	}{
		{7, 6, []int{1, 2, 5, 4, 3, 0}},
		{7, 4, []int{1, 3, 2, 0}},
		{7, 2, []int{1, 0}},
		{7, 1, []int{0}},
		{7, 0, nil},
		{7, -1, nil},
		{7, 41, nil},
		{7, 40, []int{
			37, 26, 5, 38, 20, 22, 3, 24, 19, 12, 9, 15, 16, 36, 28, 11, 23, 29, 32, 35,
			10, 27, 1, 33, 18, 34, 30, 6, 17, 31, 21, 39, 13, 25, 2, 0, 14, 8, 4, 7,
		}},
	}
	for _, c := range cases {
		if got := impl.Shuffle(c.seed, c.total); !slices.Equal(got, c.want) {
			t.Errorf("Shuffle(%d, %d) = %v, want %v", c.seed, c.total, got, c.want)
		}
	}
}

func TestShufflesOfEveryTotal(t *testing.T) {
	for _, seed := range append([]int{10, 11, 12, 13, 14, 15}, randomSeeds...) {
		for total := range 41 {
			got := impl.Shuffle(seed, total)
			expectVector(t, "Shuffle", got, expectedDraw(seed, total, total))
			sorted := slices.Sorted(slices.Values(got))
			for i, n := range sorted {
				if n != i || len(sorted) != total {
					t.Errorf("Shuffle(%d, %d) = %v", seed, total, got)
				}
			}
			// A subset takes the first ones of the same order.
			for count := range total + 1 {
				want := slices.Sorted(slices.Values(got[:count]))
				expectVector(t, "RandomSubset", impl.RandomSubset(seed, total, count), want)
			}
		}
	}
}

func TestEveryOrderIsShuffled(t *testing.T) {
	orders := map[[4]int]bool{}
	for seed := range 1000 {
		orders[[4]int(impl.Shuffle(seed, 4))] = true
	}
	if len(orders) != 24 {
		t.Errorf("four elements are shuffled into %d orders", len(orders))
	}
}

func TestShuffleOutOfRange(t *testing.T) {
	for _, seed := range randomSeeds {
		for _, total := range badCounts {
			if got := impl.Shuffle(seed, total); len(got) != 0 {
				t.Errorf("Shuffle(%d, %d) = %v", seed, total, got)
			}
		}
	}
}

func TestSparseVector(t *testing.T) {
	cases := []struct {
		seed, width, count int
		want               []int
	}{
		{7, 6, 3, []int{0, 826, 539, 0, 0, 538}},
		{7, 4, 4, []int{356, 826, 539, 82}},
		{7, 1, 1, []int{356}},
		{0, 5, 1, []int{0, 0, 0, 999, 0}},
		{-1, 5, 2, []int{103, 0, 334, 0, 0}},
		{math.MaxInt, 5, 3, []int{565, 0, 236, 0, 89}},
		{math.MinInt, 8, 2, []int{0, 0, 0, 732, 0, 498, 0, 0}},
		{7, 6, 0, nil},
		{7, 6, 7, nil},
		{7, 6, -1, nil},
		{7, 0, 0, nil},
		{7, 0, 1, nil},
		{7, -1, -1, nil},
		{7, 41, 3, nil},
		{7, 41, 41, nil},
		{7, 40, 41, nil},
	}
	for _, c := range cases {
		if got := impl.SparseVector(c.seed, c.width, c.count); !slices.Equal(got, c.want) {
			t.Errorf("SparseVector(%d, %d, %d) = %v, want %v", c.seed, c.width, c.count, got, c.want)
		}
	}
}

func TestSparseVectorsAsTheDocumentSays(t *testing.T) {
	for _, seed := range []int{7, 1637, math.MaxInt, math.MinInt} {
		everyCount(func(width int, count int) {
			if count > 0 {
				expectVector(t, "SparseVector", impl.SparseVector(seed, width, count), expectedSparse(seed, width, count))
			}
		})
	}
}

func TestSparseVectorHasItsNonzeroComponents(t *testing.T) {
	for seed := -30; seed < 30; seed++ {
		everyCount(func(width int, count int) {
			if count == 0 {
				return
			}
			got := impl.SparseVector(seed, width, count)
			places := []int{}
			for i, x := range got {
				if x != 0 {
					places = append(places, i)
				}
			}
			if len(got) != width || !impl.IsValidVector(got) || impl.CountNonzero(got) != count || !slices.Equal(places, impl.RandomSubset(seed, width, count)) {
				t.Errorf("SparseVector(%d, %d, %d) = %v", seed, width, count, got)
			}
		})
	}
}

// The number in front of the 1 is 0 for some seed and 1017 for another, so the components go from 1 to 1018.
func TestSparseVectorReachesEveryElement(t *testing.T) {
	seen := make([]bool, 1019)
	for seed := range 10000 {
		seen[impl.SparseVector(seed, 1, 1)[0]] = true
	}
	if seen[0] || slices.Contains(seen[1:], false) {
		t.Error("the component of a sparse vector is 0, or is never some other element")
	}
}

func TestSparseVectorOutOfRange(t *testing.T) {
	for _, seed := range []int{7, 0, -1, math.MaxInt, math.MinInt} {
		for _, bad := range append([]int{0}, badCounts...) {
			for _, other := range append([]int{0, 1, 2, 39, 40}, badCounts...) {
				if got := impl.SparseVector(seed, bad, other); len(got) != 0 {
					t.Errorf("SparseVector(%d, %d, %d) = %v", seed, bad, other, got)
				}
				if got := impl.SparseVector(seed, other, bad); len(got) != 0 {
					t.Errorf("SparseVector(%d, %d, %d) = %v", seed, other, bad, got)
				}
			}
		}
		for width := 1; width <= 40; width++ {
			for count := width + 1; count <= 42; count++ {
				if got := impl.SparseVector(seed, width, count); len(got) != 0 {
					t.Errorf("SparseVector(%d, %d, %d) = %v", seed, width, count, got)
				}
			}
		}
	}
}

func TestRandomBasis(t *testing.T) {
	cases := []struct {
		seed, width, tries int
		want               impl.Basis
	}{
		{3, 4, 2, impl.Basis{Width: 4, Rows: [][]int{{1, 0, 148, 410}, {0, 1, 995, 33}}}},
		{3, 2, 1, impl.Basis{Width: 2, Rows: [][]int{{1, 837}}}},
		{3, 2, 2, impl.Basis{Width: 2, Rows: [][]int{{1, 0}, {0, 1}}}},
		{3, 2, 40, impl.Basis{Width: 2, Rows: [][]int{{1, 0}, {0, 1}}}},
		{3, 2, math.MaxInt, impl.Basis{Width: 2, Rows: [][]int{{1, 0}, {0, 1}}}},
		{3, 1, 1, impl.Basis{Width: 1, Rows: [][]int{{1}}}},
		{1277459, 2, 1, impl.Basis{Width: 2, Rows: [][]int{{1, 0}}}},
		{1636, 2, 1, impl.Basis{Width: 2, Rows: [][]int{{0, 1}}}},
		{3, 4, 0, impl.Basis{Width: 4}},
		{3, 4, -1, impl.Basis{Width: 4}},
		{3, 4, math.MinInt, impl.Basis{Width: 4}},
		{3, 40, 0, impl.Basis{Width: 40}},
		{3, 0, 2, impl.Basis{}},
		{3, -1, 2, impl.Basis{}},
		{3, 41, 2, impl.Basis{}},
	}
	for _, c := range cases {
		expectBasis(t, "RandomBasis", impl.RandomBasis(c.seed, c.width, c.tries), c.want)
	}
}

func TestRandomBasisSpansItsVectors(t *testing.T) {
	for _, seed := range randomSeeds {
		for _, width := range []int{1, 2, 3, 7} {
			for _, tries := range []int{1, 2, 3, 6, 8} {
				got := impl.RandomBasis(seed, width, tries)
				expectSpace(t, "RandomBasis", got, width, expectedTries(seed, width, tries))
				expectBasis(t, "RandomBasis again", impl.RandomBasis(seed, width, tries), got)
			}
		}
	}
	for tries := range 41 {
		got := impl.RandomBasis(21, 40, tries)
		expectSpace(t, "RandomBasis", got, 40, expectedTries(21, 40, tries))
		if impl.Dimension(got) > tries {
			t.Errorf("RandomBasis(21, 40, %d) has %d rows", tries, impl.Dimension(got))
		}
	}
}

// The seeds of the vectors go on from the least int after the greatest.
func TestSeedsOfABasisWrapAround(t *testing.T) {
	for _, seed := range []int{math.MaxInt, math.MaxInt - 1, math.MaxInt - 3, math.MaxInt - 39} {
		for _, tries := range []int{1, 2, 5} {
			expectSpace(t, "RandomBasis", impl.RandomBasis(seed, 5, tries), 5, expectedTries(seed, 5, tries))
		}
	}
	expectBasis(t, "RandomBasis", impl.RandomBasis(math.MaxInt, 3, 1), impl.SpanOf([][]int{impl.RandomVector(math.MinInt, 3)}, 3))
}

// For these seeds the first 40 vectors are dependent, and the next one would be innovative.
func TestTriesOfABasisAreLimited(t *testing.T) {
	for _, seed := range []int{109, 117, 159} {
		want := impl.RandomBasis(seed, 40, 40)
		if len(want.Rows) != 39 || rankOf(expectedTries(seed, 40, 41)) != 40 {
			t.Errorf("RandomBasis(%d, 40, 40) has %d rows, and the next vector does not help", seed, len(want.Rows))
		}
		expectSpace(t, "RandomBasis", want, 40, expectedTries(seed, 40, 40))
		for _, tries := range []int{41, 42, 1000, 1 << 32, 1<<32 + 1, impl.MaxValue, math.MaxInt - 1, math.MaxInt} {
			expectBasis(t, "RandomBasis with too many tries", impl.RandomBasis(seed, 40, tries), want)
		}
		for _, tries := range []int{-1, -2, -40, -41, -1 << 32, 1 - 1<<32, math.MinInt + 1, math.MinInt} {
			expectBasis(t, "RandomBasis with negative tries", impl.RandomBasis(seed, 40, tries), impl.Basis{Width: 40})
		}
	}
}

func TestRandomBasisWithoutAWidth(t *testing.T) {
	for _, seed := range randomSeeds {
		for _, width := range append([]int{0}, badCounts...) {
			for _, tries := range []int{-1, 0, 1, 2, 40, 41, math.MaxInt, math.MinInt} {
				expectBasis(t, "RandomBasis", impl.RandomBasis(seed, width, tries), impl.Basis{})
			}
		}
	}
}

// Each choice is overwritten, with the capacity behind it, before it is made again.
func TestRandomChoicesAreNewMemory(t *testing.T) {
	choices := map[string]func() []int{
		"RandomVector":                    func() []int { return impl.RandomVector(5, 9) },
		"RandomVector of zeros":           func() []int { return impl.RandomVector(1277460, 2) },
		"RandomVector without a width":    func() []int { return impl.RandomVector(5, 0) },
		"RandomSubset":                    func() []int { return impl.RandomSubset(7, 9, 4) },
		"RandomSubset of all elements":    func() []int { return impl.RandomSubset(7, 9, 9) },
		"RandomSubset without elements":   func() []int { return impl.RandomSubset(7, 9, 0) },
		"RandomSubset out of range":       func() []int { return impl.RandomSubset(7, 9, 10) },
		"SparseVector":                    func() []int { return impl.SparseVector(7, 9, 4) },
		"SparseVector of all components":  func() []int { return impl.SparseVector(7, 9, 9) },
		"SparseVector without components": func() []int { return impl.SparseVector(7, 9, 0) },
		"Shuffle":                         func() []int { return impl.Shuffle(7, 9) },
		"Shuffle of nothing":              func() []int { return impl.Shuffle(7, 0) },
	}
	for name, choose := range choices {
		first, second := choose(), choose()
		want := slices.Clone(second)
		for i := range first[:cap(first)] {
			first[:cap(first)][i] = -777
		}
		if !slices.Equal(second, want) || !slices.Equal(choose(), want) {
			t.Errorf("%s shares its memory with another call, or depends on it", name)
		}
	}
}

func TestRandomBasesAreNewMemory(t *testing.T) {
	for _, width := range []int{0, 1, 3, 5} {
		for _, tries := range []int{0, 1, 3, 5} {
			first, second := impl.RandomBasis(3, width, tries), impl.RandomBasis(3, width, tries)
			want := copyBasis(second)
			if spoil(first.Rows) {
				t.Errorf("rows of RandomBasis(3, %d, %d) share memory", width, tries)
			}
			expectBasis(t, "RandomBasis after a change to another one", second, want)
			expectBasis(t, "RandomBasis after a change to an earlier one", impl.RandomBasis(3, width, tries), want)
		}
	}
}

// Calls in between, with other arguments or the same ones, leave no trace.
func TestRandomChoicesAreReproducible(t *testing.T) {
	number, vector := impl.RandomNumber(5, 2, impl.MaxValue), impl.RandomVector(5, 9)
	subset, sparse, shuffled, basis := impl.RandomSubset(5, 9, 4), impl.SparseVector(5, 9, 4), impl.Shuffle(5, 9), impl.RandomBasis(5, 9, 4)
	for seed := range 10 {
		impl.RandomNumber(seed, 2, 9)
		impl.RandomVector(seed, 9)
		impl.RandomSubset(seed, 9, 5)
		impl.SparseVector(seed, 9, 5)
		impl.Shuffle(seed, 8)
		impl.RandomBasis(seed, 9, 5)
		if got := impl.RandomNumber(5, 2, impl.MaxValue); got != number {
			t.Errorf("RandomNumber: got %d, want %d again", got, number)
		}
		expectVector(t, "RandomVector", impl.RandomVector(5, 9), vector)
		expectVector(t, "RandomSubset", impl.RandomSubset(5, 9, 4), subset)
		expectVector(t, "SparseVector", impl.SparseVector(5, 9, 4), sparse)
		expectVector(t, "Shuffle", impl.Shuffle(5, 9), shuffled)
		expectBasis(t, "RandomBasis", impl.RandomBasis(5, 9, 4), basis)
	}
}
