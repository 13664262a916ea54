package tests

import (
	"slices"
	"testing"

	"loop.example/g00513/impl"
)

// expectSpace compares with the only reduced basis of the space that the vectors span; ranks are computed without the package.
func expectSpace(t *testing.T, what string, got impl.Basis, width int, vectors [][]int) {
	t.Helper()
	otherLength := func(row []int) bool { return len(row) != width }
	if got.Width != width || slices.ContainsFunc(got.Rows, otherLength) || !followsDefinition(got.Rows) {
		t.Errorf("%s: got %v, which is no basis of width %d", what, got, width)
		return
	}
	rank := rankOf(vectors)
	if len(got.Rows) != rank || rankOf(slices.Concat(vectors, got.Rows)) != rank {
		t.Errorf("%s: got %v, want the space of %v", what, got, vectors)
	}
}

func expectBasis(t *testing.T, what string, got impl.Basis, want impl.Basis) {
	t.Helper()
	if !sameBasis(got, want) {
		t.Errorf("%s: got %v, want %v", what, got, want)
	}
}

// everyPair calls visit with pairs of valid bases of one width: all pairs of small bases, and some pairs of samples.
func everyPair(visit func(a impl.Basis, b impl.Basis)) {
	small, few, many := []impl.Basis{}, []impl.Basis{}, []impl.Basis{}
	everySmallBasis(func(b impl.Basis) { small = append(small, b) })
	for _, b := range sampleBases() {
		if b.Width <= 6 {
			few = append(few, b)
		} else {
			many = append(many, b)
		}
	}
	pairWithinWidths(small, 1, visit)
	pairWithinWidths(few, 3, visit)
	pairWithinWidths(many, 23, visit)
}

// The step leaves pairs out, but has no factor in common with the number of bases of any width, so all of them have their turn. Every basis is paired with itself.
func pairWithinWidths(bases []impl.Basis, step int, visit func(a impl.Basis, b impl.Basis)) {
	turn := 0
	for i, a := range bases {
		for k, b := range bases {
			if a.Width != b.Width {
				continue
			}
			turn++
			if i == k || turn%step == 0 {
				visit(a, b)
			}
		}
	}
}

// everyBadPair calls visit with pairs of which one is invalid, or both are, or of valid ones whose widths differ.
func everyBadPair(visit func(a impl.Basis, b impl.Basis)) {
	fine := impl.Basis{Width: 3, Rows: [][]int{{1, 0, 7}, {0, 1, 9}}}
	for _, b := range invalidBases() {
		partners := []impl.Basis{fine, {}, {Width: 40, Rows: impl.Identity(40)}}
		if inWidths(b.Width) {
			partners = append(partners, impl.NewBasis(b.Width), impl.Basis{Width: b.Width, Rows: impl.Identity(b.Width)})
		}
		for _, partner := range partners {
			visit(partner, b)
			visit(b, partner)
		}
		visit(b, b)
		visit(b, copyBasis(b))
		visit(b, impl.Basis{Width: b.Width, Rows: [][]int{{2, 0}}})
	}
	for width := range 41 {
		for _, other := range []int{0, 1, 2, 3, width - 1, width + 1, 39, 40} {
			if inWidths(other) && other != width {
				visitAll(plainBases(width), plainBases(other), visit)
			}
		}
	}
}

func visitAll(first []impl.Basis, second []impl.Basis, visit func(a impl.Basis, b impl.Basis)) {
	for _, a := range first {
		for _, b := range second {
			visit(a, b)
		}
	}
}

func inWidths(width int) bool {
	return 0 <= width && width <= 40
}

// plainBases are a basis without rows, one of a single row, and one that contains everything.
func plainBases(width int) []impl.Basis {
	bases := []impl.Basis{{Width: width}, {Width: width, Rows: impl.Identity(width)}}
	if width > 0 {
		bases = append(bases, impl.Basis{Width: width, Rows: [][]int{withComponent(filledVector(width, 0), width-1, 1)}})
	}
	return bases
}

// parts are vectors that two spaces have in common, and vectors of each alone; all of them together are independent.
type parts struct {
	width                 int
	common, first, second [][]int
}

func everyParts(visit func(p parts)) {
	for _, width := range []int{1, 2, 3, 5, 40} {
		m, _ := invertibleMatrix(width, 3)
		sizes := []int{0, 1, width / 4, width / 2, width - 1, width}
		slices.Sort(sizes)
		sizes = slices.Compact(sizes)
		for _, common := range sizes {
			for _, first := range sizes {
				for _, second := range sizes {
					if common+first+second <= width {
						rest := m[common:]
						visit(parts{width, m[:common], rest[:first], rest[first : first+second]})
					}
				}
			}
		}
	}
}

func (p parts) spaces() (impl.Basis, impl.Basis) {
	return impl.SpanOf(slices.Concat(p.common, p.first), p.width), impl.SpanOf(slices.Concat(p.second, p.common), p.width)
}

func TestSubspaceExamples(t *testing.T) {
	b := impl.SpanOf([][]int{{0, 2, 4}, {1, 1, 0}}, 3)
	expectBasis(t, "SpanOf", b, impl.Basis{Width: 3, Rows: [][]int{{1, 0, 1017}, {0, 1, 2}}})
	expectBasis(t, "SpanOf with width 41", impl.SpanOf([][]int{{0, 2, 4}, {1, 1, 0}}, 41), impl.Basis{})
	expectBasis(t, "OrthogonalSpace", impl.OrthogonalSpace(b), impl.Basis{Width: 3, Rows: [][]int{{1, 1018, 510}}})
	if got := impl.Dimension(impl.OrthogonalSpace(impl.NewBasis(2))); got != 2 {
		t.Errorf("the orthogonal space of NewBasis(2) has dimension %d", got)
	}
	plane := impl.Basis{Width: 3, Rows: [][]int{{1, 0, 0}, {0, 1, 0}}}
	expectCoordinates(t, plane, []int{4, 5, 0}, []int{4, 5})
	expectBasis(t, "SumOf", impl.SumOf(b, plane), impl.Basis{Width: 3, Rows: impl.Identity(3)})
	expectBasis(t, "IntersectionOf", impl.IntersectionOf(b, plane), impl.Basis{Width: 3, Rows: [][]int{{1, 1, 0}}})
	if got := impl.InnovationOf(b, plane); got != 1 {
		t.Errorf("InnovationOf(%v, %v) = %d", b, plane, got)
	}
	if impl.IsSubspace(b, plane) || !impl.IsSubspace(impl.IntersectionOf(b, plane), plane) {
		t.Errorf("IsSubspace is wrong about %v and %v", b, plane)
	}
}

func TestSpanOf(t *testing.T) {
	cases := []struct {
		width         int
		vectors, want [][]int
	}{
		{3, nil, nil},
		{3, [][]int{}, nil},
		{3, [][]int{nil}, nil},
		{3, [][]int{{}, {}, nil}, nil},
		{3, [][]int{{0, 0, 0}}, nil},
		{3, filledMatrix(50, 3, 0), nil},
		{3, [][]int{{0, 0, 7}}, [][]int{{0, 0, 1}}},
		{3, [][]int{{2, 0, 1}, {2, 0, 1}, {2, 0, 1}}, [][]int{{1, 0, 510}}},
		{3, [][]int{{1, 2, 3}, {2, 4, 6}, {1018, 1017, 1016}}, [][]int{{1, 2, 3}}},
		{3, [][]int{{1, 2, 3}, {4, 5, 6}, {5, 7, 9}}, [][]int{{1, 0, 1018}, {0, 1, 2}}},
		{3, [][]int{{5, 7, 9}, {4, 5, 6}, {1, 2, 3}}, [][]int{{1, 0, 1018}, {0, 1, 2}}},
		{3, [][]int{{0, 0, 5}, {0, 4, 1}, {3, 1, 1}, {9, 9, 9}, {0, 1, 0}}, impl.Identity(3)},
		{2, filledMatrix(100, 2, 1018), [][]int{{1, 1}}},
		{1, [][]int{{0}, {5}, {0}}, [][]int{{1}}},
		{1, [][]int{{0}}, nil},
		{40, impl.Identity(40), impl.Identity(40)},
		{40, filledMatrix(41, 40, 3), filledMatrix(1, 40, 1)},
		// Vectors of another length or with a component that is no element are ignored, wherever they are.
		{3, [][]int{{1}, {0, 2, 4}, {1, 0}, {}, {1, 1, 0}, {1, 0, 0, 0}}, [][]int{{1, 0, 1017}, {0, 1, 2}}},
		{3, [][]int{{0, 0, -1}, {0, 2, 4}, {0, 1019, 0}, {1, 1, 0}, {0, 0, 1020}}, [][]int{{1, 0, 1017}, {0, 1, 2}}},
		{2, [][]int{{1, 0, 0}, {0, 1, 0}}, nil},
		{4, [][]int{{1, 0, 0}, {0, 1, 0}}, nil},
		{3, [][]int{{1, 0, 0}, filledVector(41, 1), filledVector(1000, 0)}, [][]int{{1, 0, 0}}},
		{40, [][]int{filledVector(39, 1), filledVector(41, 1), filledVector(40, 2)}, filledMatrix(1, 40, 1)},
	}
	for _, c := range cases {
		expectBasis(t, "SpanOf", impl.SpanOf(c.vectors, c.width), impl.Basis{Width: c.width, Rows: c.want})
	}
}

func TestSpanOfKeepsTheWidth(t *testing.T) {
	for width := range 41 {
		for _, vectors := range [][][]int{nil, {}, {nil}, {{}}, filledMatrix(2, width, 0), filledMatrix(3, width+1, 1)} {
			expectBasis(t, "SpanOf no vectors", impl.SpanOf(vectors, width), impl.Basis{Width: width})
		}
		if width > 0 {
			expectBasis(t, "SpanOf shorter vectors", impl.SpanOf(filledMatrix(3, width-1, 1), width), impl.Basis{Width: width})
			expectBasis(t, "SpanOf one vector", impl.SpanOf(filledMatrix(1, width, 2), width), impl.Basis{Width: width, Rows: filledMatrix(1, width, 1)})
		}
	}
}

func TestSpanOfBadWidths(t *testing.T) {
	lists := [][][]int{nil, {}, {nil}, {{}}, {{1}}, {{1, 0, 0}, {0, 1, 0}}, impl.Identity(40), filledMatrix(2, 41, 1), filledMatrix(2, 42, 0), invalidVectors()}
	for _, width := range badWidths {
		for _, vectors := range lists {
			expectBasis(t, "SpanOf with a bad width", impl.SpanOf(vectors, width), impl.Basis{})
		}
	}
	// The only vector of width 0 is the empty one, which adds nothing.
	for _, vectors := range lists {
		expectBasis(t, "SpanOf with the width 0", impl.SpanOf(vectors, 0), impl.Basis{})
	}
}

func TestSpanOfIgnoresInvalidVectors(t *testing.T) {
	for _, v := range invalidVectors() {
		width := min(len(v), 40)
		others := sampleVectors(min(width, 3), width)
		expectBasis(t, "SpanOf an invalid vector", impl.SpanOf([][]int{v}, width), impl.Basis{Width: width})
		want := impl.SpanOf(others, width)
		for i := range len(others) + 1 {
			expectBasis(t, "SpanOf with an invalid vector", impl.SpanOf(slices.Insert(slices.Clone(others), i, v), width), want)
		}
	}
}

func TestSpanOfFindsTheBasis(t *testing.T) {
	for _, want := range sampleBases() {
		rank := len(want.Rows)
		expectBasis(t, "SpanOf the rows", impl.SpanOf(want.Rows, want.Width), want)
		all := [][]int{}
		for _, count := range []int{rank, min(rank+2, 40)} {
			for _, spread := range spreads(count, rank) {
				vectors := expectedProduct(spread, want.Rows, want.Width)
				for _, order := range orders(vectors)[:2] {
					expectBasis(t, "SpanOf", impl.SpanOf(order, want.Width), want)
				}
				all = append(all, vectors...)
			}
		}
		expectBasis(t, "SpanOf more vectors", impl.SpanOf(all, want.Width), want)
	}
}

func TestSpanOfSmallMatrices(t *testing.T) {
	for rows := range 5 {
		for width := range 3 {
			everyMatrix(rows, width, []int{0, 1, 1018}, func(m [][]int) {
				expectSpace(t, "SpanOf", impl.SpanOf(m, width), width, m)
			})
		}
	}
	everySmallMatrix(func(m [][]int) {
		width := impl.ColumnsOf(m)
		expectSpace(t, "SpanOf", impl.SpanOf(m, width), width, m)
	})
}

// There may be far more vectors than a matrix has rows, and the last one may be the only one that matters.
func TestSpanOfManyVectors(t *testing.T) {
	for _, width := range []int{1, 2, 3, 40} {
		last := withComponent(filledVector(width, 0), 0, 2)
		want := [][]int{withComponent(last, 0, 1)}
		for _, count := range []int{39, 40, 41, 42, 100, 1000} {
			zeros := filledMatrix(count, width, 0)
			expectBasis(t, "SpanOf zeros and a vector", impl.SpanOf(append(zeros, last), width), impl.Basis{Width: width, Rows: want})
			invalid := filledMatrix(count, width, 1019)
			expectBasis(t, "SpanOf invalid vectors and a vector", impl.SpanOf(append(invalid, last), width), impl.Basis{Width: width, Rows: want})
		}
		expectSpace(t, "SpanOf 200 vectors", impl.SpanOf(mixedMatrix(200, width, 1), width), width, mixedMatrix(200, width, 1))
	}
}

func TestSumOf(t *testing.T) {
	everyPair(func(a impl.Basis, b impl.Basis) {
		sum := impl.SumOf(a, b)
		expectSpace(t, "SumOf", sum, a.Width, slices.Concat(a.Rows, b.Rows))
		expectBasis(t, "SumOf in the other order", impl.SumOf(b, a), sum)
	})
}

func TestSumOfKnownParts(t *testing.T) {
	everyParts(func(p parts) {
		a, b := p.spaces()
		sum := impl.SumOf(a, b)
		expectSpace(t, "SumOf", sum, p.width, slices.Concat(p.common, p.first, p.second))
		expectBasis(t, "SumOf in the other order", impl.SumOf(b, a), sum)
		expectBasis(t, "SumOf with a summand", impl.SumOf(sum, b), sum)
		expectBasis(t, "SumOf equal spaces", impl.SumOf(a, copyBasis(a)), a)
	})
}

func TestSumOfBadPairs(t *testing.T) {
	everyBadPair(func(a impl.Basis, b impl.Basis) {
		want := copyBasis(a)
		expectBasis(t, "SumOf bases that do not fit", impl.SumOf(a, b), want)
	})
}

// The rows of each of these second bases would fit, if the basis did.
func TestSumOfTakesNothingFromAnInvalidBasis(t *testing.T) {
	a := impl.Basis{Width: 3, Rows: [][]int{{1, 0, 7}}}
	for _, rows := range [][][]int{{{0, 2, 0}}, {{0, 0, 1}, {0, 1, 0}}, {{0, 1, 0}, {0, 0, 0}}, {{0, 1, 0}, {0, 1, 0}}, {{0, 1, 0}, {0, 0, 1019}}, {{0, 1, 5}, {0, 0, 1}}} {
		for _, b := range []impl.Basis{{Width: 3, Rows: rows}, {Width: 2, Rows: rows}, {Width: -1, Rows: rows}} {
			expectBasis(t, "SumOf with an invalid basis", impl.SumOf(a, b), a)
			expectBasis(t, "SumOf of an invalid basis", impl.SumOf(b, a), b)
			if impl.InnovationOf(a, b) != 0 || impl.InnovationOf(b, a) != 0 {
				t.Errorf("InnovationOf of %v and %v is not 0", a, b)
			}
		}
	}
}

func TestIsSubspace(t *testing.T) {
	everyPair(func(a impl.Basis, b impl.Basis) {
		want := rankOf(slices.Concat(a.Rows, b.Rows)) == len(b.Rows)
		if got := impl.IsSubspace(a, b); got != want {
			t.Errorf("IsSubspace(%v, %v) = %v", a, b, got)
		}
	})
	everyBadPair(func(a impl.Basis, b impl.Basis) {
		if impl.IsSubspace(a, b) {
			t.Errorf("IsSubspace(%v, %v) = true", a, b)
		}
	})
}

func TestIsSubspaceOfEverySpaceItself(t *testing.T) {
	for _, b := range sampleBases() {
		zero, whole := impl.NewBasis(b.Width), impl.Basis{Width: b.Width, Rows: impl.Identity(b.Width)}
		if !impl.IsSubspace(b, copyBasis(b)) || !impl.IsSubspace(zero, b) || !impl.IsSubspace(b, whole) {
			t.Errorf("%v is not between the smallest space and the largest", b)
		}
		if impl.IsSubspace(b, zero) != (len(b.Rows) == 0) || impl.IsSubspace(whole, b) != (len(b.Rows) == b.Width) {
			t.Errorf("%v is below the smallest space or above the largest", b)
		}
	}
}

// A space that lacks one direction is a subspace, but does not have the whole one as its own.
func TestIsSubspaceLooksAtEveryRow(t *testing.T) {
	for seed, whole := range sampleBases() {
		for index := range whole.Rows {
			if len(whole.Rows) > 6 && !slices.Contains(spots(len(whole.Rows)), index) {
				continue
			}
			part := withoutDirection(whole, index, seed)
			if !impl.IsSubspace(part, whole) || impl.IsSubspace(whole, part) {
				t.Errorf("IsSubspace is wrong about %v and %v", part, whole)
			}
			if impl.InnovationOf(part, whole) != 1 || impl.InnovationOf(whole, part) != 0 {
				t.Errorf("InnovationOf is wrong about %v and %v", part, whole)
			}
		}
	}
}

func expectOrthogonal(t *testing.T, b impl.Basis) {
	t.Helper()
	got := impl.OrthogonalSpace(b)
	expectSpace(t, "OrthogonalSpace", got, b.Width, got.Rows)
	if len(got.Rows) != b.Width-len(b.Rows) {
		t.Errorf("OrthogonalSpace(%v) = %v", b, got)
	}
	for _, row := range got.Rows {
		if !slices.Equal(timesVector(b.Rows, row), filledVector(len(b.Rows), 0)) {
			t.Errorf("OrthogonalSpace(%v) contains %v", b, row)
		}
	}
	expectBasis(t, "the orthogonal space of the orthogonal one", impl.OrthogonalSpace(got), b)
}

func TestOrthogonalSpace(t *testing.T) {
	for _, b := range sampleBases() {
		expectOrthogonal(t, b)
	}
	everySmallBasis(func(b impl.Basis) { expectOrthogonal(t, b) })
	everyParts(func(p parts) {
		a, b := p.spaces()
		expectOrthogonal(t, a)
		expectOrthogonal(t, b)
	})
}

func TestOrthogonalSpaceCases(t *testing.T) {
	cases := []struct {
		width      int
		rows, want [][]int
	}{
		{0, nil, nil},
		{0, [][]int{}, nil},
		{1, nil, [][]int{{1}}},
		{1, [][]int{{1}}, nil},
		{2, [][]int{{1, 2}}, [][]int{{1, 509}}},
		{2, [][]int{{0, 1}}, [][]int{{1, 0}}},
		{3, [][]int{{1, 0, 0}, {0, 1, 0}}, [][]int{{0, 0, 1}}},
		{3, [][]int{{1, 1, 1}}, [][]int{{1, 0, 1018}, {0, 1, 1018}}},
		// A vector may be orthogonal to itself, and a space its own orthogonal space.
		{3, [][]int{{1, 1, 241}}, [][]int{{1, 0, 630}, {0, 1, 630}}},
		{4, [][]int{{1, 0, 1, 241}, {0, 1, 778, 1}}, [][]int{{1, 0, 1, 241}, {0, 1, 778, 1}}},
	}
	for _, c := range cases {
		expectBasis(t, "OrthogonalSpace", impl.OrthogonalSpace(impl.Basis{Width: c.width, Rows: c.rows}), impl.Basis{Width: c.width, Rows: c.want})
	}
}

// What is orthogonal to nothing but zeros is everything, and the other way round.
func TestOrthogonalSpaceOfTheSmallestAndTheLargest(t *testing.T) {
	for width := range 41 {
		whole := impl.Basis{Width: width, Rows: impl.Identity(width)}
		for _, zero := range []impl.Basis{impl.NewBasis(width), {Width: width, Rows: [][]int{}}} {
			expectBasis(t, "OrthogonalSpace without rows", impl.OrthogonalSpace(zero), whole)
			expectBasis(t, "OrthogonalSpace of everything", impl.OrthogonalSpace(whole), zero)
		}
	}
}

func TestOrthogonalSpaceOfInvalidBases(t *testing.T) {
	for _, b := range invalidBases() {
		expectBasis(t, "OrthogonalSpace of an invalid basis", impl.OrthogonalSpace(b), impl.Basis{})
	}
}

// The larger a space, the smaller its orthogonal space.
func TestOrthogonalSpaceTurnsSpacesRound(t *testing.T) {
	everyPair(func(a impl.Basis, b impl.Basis) {
		if impl.IsSubspace(a, b) != impl.IsSubspace(impl.OrthogonalSpace(b), impl.OrthogonalSpace(a)) {
			t.Errorf("OrthogonalSpace does not turn %v and %v round", a, b)
		}
	})
}

func TestIntersectionOf(t *testing.T) {
	everyPair(func(a impl.Basis, b impl.Basis) {
		got := impl.IntersectionOf(a, b)
		expectSpace(t, "IntersectionOf", got, a.Width, got.Rows)
		if len(got.Rows) != len(a.Rows)+len(b.Rows)-rankOf(slices.Concat(a.Rows, b.Rows)) {
			t.Errorf("IntersectionOf(%v, %v) = %v", a, b, got)
		}
		for _, whole := range []impl.Basis{a, b} {
			if rankOf(slices.Concat(whole.Rows, got.Rows)) != len(whole.Rows) {
				t.Errorf("IntersectionOf(%v, %v) = %v is not within %v", a, b, got, whole)
			}
		}
		expectBasis(t, "IntersectionOf in the other order", impl.IntersectionOf(b, a), got)
	})
}

func TestIntersectionOfKnownParts(t *testing.T) {
	everyParts(func(p parts) {
		a, b := p.spaces()
		got := impl.IntersectionOf(a, b)
		expectSpace(t, "IntersectionOf", got, p.width, p.common)
		expectBasis(t, "IntersectionOf with a part", impl.IntersectionOf(got, b), got)
		expectBasis(t, "IntersectionOf equal spaces", impl.IntersectionOf(a, copyBasis(a)), a)
	})
}

func TestIntersectionOfCases(t *testing.T) {
	cases := []struct {
		width      int
		a, b, want [][]int
	}{
		{0, nil, nil, nil},
		{0, [][]int{}, nil, nil},
		{1, nil, [][]int{{1}}, nil},
		{1, [][]int{{1}}, [][]int{{1}}, [][]int{{1}}},
		{2, [][]int{{1, 0}}, [][]int{{0, 1}}, nil},
		{2, [][]int{{1, 5}}, [][]int{{1, 6}}, nil},
		{3, [][]int{{1, 0, 0}, {0, 1, 0}}, [][]int{{0, 1, 0}, {0, 0, 1}}, [][]int{{0, 1, 0}}},
		{3, [][]int{{1, 0, 7}, {0, 1, 9}}, [][]int{{1, 0, 5}, {0, 1, 8}}, [][]int{{1, 1017, 1008}}},
		{3, [][]int{{1, 1, 241}}, [][]int{{1, 0, 630}, {0, 1, 630}}, [][]int{{1, 1, 241}}},
		{3, [][]int{{1, 2, 3}}, impl.Identity(3), [][]int{{1, 2, 3}}},
		{4, [][]int{{1, 0, 0, 0}, {0, 1, 0, 0}}, [][]int{{0, 0, 1, 0}, {0, 0, 0, 1}}, nil},
		{40, nil, impl.Identity(40), nil},
		{40, impl.Identity(40), impl.Identity(40), impl.Identity(40)},
		{40, impl.Identity(40)[:20], impl.Identity(40)[20:], nil},
		{40, impl.Identity(40)[:21], impl.Identity(40)[19:], impl.Identity(40)[19:21]},
	}
	for _, c := range cases {
		a, b, want := impl.Basis{Width: c.width, Rows: c.a}, impl.Basis{Width: c.width, Rows: c.b}, impl.Basis{Width: c.width, Rows: c.want}
		expectBasis(t, "IntersectionOf", impl.IntersectionOf(a, b), want)
		expectBasis(t, "IntersectionOf in the other order", impl.IntersectionOf(b, a), want)
	}
}

func TestIntersectionOfBadPairs(t *testing.T) {
	everyBadPair(func(a impl.Basis, b impl.Basis) {
		expectBasis(t, "IntersectionOf bases that do not fit", impl.IntersectionOf(a, b), impl.Basis{})
	})
}

func TestDimensionsAddUp(t *testing.T) {
	check := func(a impl.Basis, b impl.Basis) {
		sum, common := impl.SumOf(a, b), impl.IntersectionOf(a, b)
		if impl.Dimension(sum)+impl.Dimension(common) != impl.Dimension(a)+impl.Dimension(b) {
			t.Errorf("the sum of %v and %v is %v, and their intersection is %v", a, b, sum, common)
		}
		if impl.Dimension(sum) != impl.Dimension(a)+impl.InnovationOf(a, b) || impl.Dimension(common) != impl.Dimension(b)-impl.InnovationOf(a, b) {
			t.Errorf("InnovationOf(%v, %v) = %d", a, b, impl.InnovationOf(a, b))
		}
		for _, space := range []impl.Basis{a, b} {
			if !impl.IsSubspace(space, sum) || !impl.IsSubspace(common, space) {
				t.Errorf("%v is not between %v and %v", space, common, sum)
			}
		}
	}
	everyPair(check)
	everyParts(func(p parts) { check(p.spaces()) })
}

func expectCoordinates(t *testing.T, b impl.Basis, v []int, want []int) {
	t.Helper()
	if got, ok := impl.Coordinates(b, v); !ok || !slices.Equal(got, want) {
		t.Errorf("Coordinates(%v, %v) = %v, %v, want %v", b, v, got, ok, want)
	}
}

func rejectCoordinates(t *testing.T, b impl.Basis, v []int) {
	t.Helper()
	if got, ok := impl.Coordinates(b, v); ok || len(got) != 0 {
		t.Errorf("Coordinates(%v, %v) = %v, %v", b, v, got, ok)
	}
}

func TestCoordinates(t *testing.T) {
	b := impl.Basis{Width: 5, Rows: [][]int{{0, 1, 7, 0, 9}, {0, 0, 0, 1, 11}}}
	cases := []struct{ v, want []int }{
		{[]int{0, 1, 7, 0, 9}, []int{1, 0}},
		{[]int{0, 0, 0, 1, 11}, []int{0, 1}},
		{[]int{0, 2, 14, 3, 51}, []int{2, 3}},
		{[]int{0, 1018, 1012, 1018, 999}, []int{1018, 1018}},
		{[]int{0, 0, 0, 0, 0}, []int{0, 0}},
	}
	for _, c := range cases {
		expectCoordinates(t, b, c.v, c.want)
	}
	for _, v := range [][]int{{1, 1, 7, 0, 9}, {0, 1, 7, 0, 8}, {0, 1, 6, 0, 9}, {0, 1, 7, 1, 9}, {0, 0, 0, 0, 1}, {0, 1, 7, 0}, {0, 1, 7, 0, 9, 0}, {0, 1, 7, 0, 1028}, {0, 1020, 7, 0, 9}, {0, -1018, 7, 0, 9}, nil} {
		rejectCoordinates(t, b, v)
	}
}

// The rows with these coefficients add up to the vector, and no other coefficients do.
func TestCoordinatesOfCombinations(t *testing.T) {
	for seed, b := range sampleBases() {
		zeros := filledVector(b.Width, 0)
		for _, coefficients := range coefficientLists(len(b.Rows), seed) {
			v := expectedCombination(append(slices.Clone(b.Rows), zeros), append(slices.Clone(coefficients), 0))
			expectCoordinates(t, b, v, coefficients)
			if len(b.Rows) > 0 {
				got, _ := impl.Coordinates(b, v)
				expectVector(t, "the combination with the coordinates", impl.Combine(b.Rows, got), v)
			}
			for _, j := range impl.FreeColumns(b) {
				rejectCoordinates(t, b, withComponent(v, j, (v[j]+1+seed%1018)%1019))
			}
		}
		for i, row := range b.Rows {
			expectCoordinates(t, b, row, withComponent(filledVector(len(b.Rows), 0), i, 1))
		}
	}
}

func TestCoordinatesAndContainsVectorAgree(t *testing.T) {
	everySmallBasis(func(b impl.Basis) {
		everySmallVector(b.Width, func(v []int) {
			if rankOf(append(copyRows(b.Rows), v)) != len(b.Rows) {
				rejectCoordinates(t, b, v)
				return
			}
			got, ok := impl.Coordinates(b, v)
			if !ok || len(got) != len(b.Rows) {
				t.Errorf("Coordinates(%v, %v) = %v, %v", b, v, got, ok)
				return
			}
			zeros := filledVector(b.Width, 0)
			expectVector(t, "the combination with the coordinates", expectedCombination(append(slices.Clone(b.Rows), zeros), append(got, 0)), v)
		})
	})
}

func TestCoordinatesOfTheVectorOfZeros(t *testing.T) {
	for width := range 41 {
		for _, b := range plainBases(width) {
			expectCoordinates(t, b, filledVector(width, 0), filledVector(len(b.Rows), 0))
			if width > 0 {
				rejectCoordinates(t, b, filledVector(width-1, 0))
			}
			rejectCoordinates(t, b, filledVector(width+1, 0))
		}
	}
	for _, v := range [][]int{nil, {}} {
		expectCoordinates(t, impl.NewBasis(0), v, nil)
		rejectCoordinates(t, impl.NewBasis(1), v)
	}
	rejectCoordinates(t, impl.NewBasis(2), []int{0, 1})
}

func TestCoordinatesOfInvalidArguments(t *testing.T) {
	for _, b := range invalidBases() {
		for _, v := range vectorsFor(b) {
			rejectCoordinates(t, b, v)
		}
	}
	for _, v := range invalidVectors() {
		rejectCoordinates(t, impl.NewBasis(len(v)), v)
		rejectCoordinates(t, impl.Basis{Width: 3, Rows: impl.Identity(3)}, v)
		if len(v) <= 40 {
			rejectCoordinates(t, impl.Basis{Width: len(v), Rows: impl.Identity(len(v))}, v)
		}
	}
}

func TestInnovationOf(t *testing.T) {
	everyPair(func(a impl.Basis, b impl.Basis) {
		want := rankOf(slices.Concat(a.Rows, b.Rows)) - len(a.Rows)
		if got := impl.InnovationOf(a, b); got != want {
			t.Errorf("InnovationOf(%v, %v) = %d, want %d", a, b, got, want)
		}
	})
	everyParts(func(p parts) {
		a, b := p.spaces()
		if got := impl.InnovationOf(a, b); got != len(p.second) {
			t.Errorf("InnovationOf(%v, %v) = %d, want %d", a, b, got, len(p.second))
		}
	})
	everyBadPair(func(a impl.Basis, b impl.Basis) {
		if got := impl.InnovationOf(a, b); got != 0 {
			t.Errorf("InnovationOf(%v, %v) = %d", a, b, got)
		}
	})
}

// Inserting the rows of the second basis one by one counts the same.
func TestInnovationOfCountsInnovativeRows(t *testing.T) {
	everyPair(func(a impl.Basis, b impl.Basis) {
		grown, count := a, 0
		for _, row := range b.Rows {
			next, innovative := impl.InsertVector(grown, row)
			if innovative {
				count++
			}
			grown = next
		}
		if got := impl.InnovationOf(a, b); got != count {
			t.Errorf("InnovationOf(%v, %v) = %d, but %d rows are innovative", a, b, got, count)
		}
		expectBasis(t, "SumOf", impl.SumOf(a, b), grown)
	})
}

func TestSpacesWithoutAnything(t *testing.T) {
	for _, zero := range []impl.Basis{{}, {Rows: [][]int{}}, impl.NewBasis(0)} {
		expectBasis(t, "SumOf", impl.SumOf(zero, impl.NewBasis(0)), impl.Basis{})
		expectBasis(t, "IntersectionOf", impl.IntersectionOf(zero, impl.NewBasis(0)), impl.Basis{})
		expectBasis(t, "OrthogonalSpace", impl.OrthogonalSpace(zero), impl.Basis{})
		if !impl.IsSubspace(zero, impl.NewBasis(0)) || impl.InnovationOf(zero, zero) != 0 {
			t.Errorf("the space without components is not its own subspace, or innovative")
		}
		if impl.IsSubspace(zero, impl.NewBasis(1)) || impl.IsSubspace(impl.NewBasis(1), zero) {
			t.Errorf("bases of different widths are subspaces")
		}
	}
}

func threeWide(rows [][]int) impl.Basis {
	return impl.Basis{Width: 3, Rows: rows}
}

// spaceResults are calls that return a basis; some have rows equal to an argument, which must be memory of their own. The first row alone is a valid basis, with spare capacity behind it; all three rows are none.
var spaceResults = map[string]func(m [][]int, v []int) [][]int{
	"SpanOf":                           func(m [][]int, v []int) [][]int { return impl.SpanOf(m, 3).Rows },
	"SpanOf a reduced row":             func(m [][]int, v []int) [][]int { return impl.SpanOf(m[:1], 3).Rows },
	"SpanOf one component":             func(m [][]int, v []int) [][]int { return impl.SpanOf([][]int{v[1:2]}, 1).Rows },
	"SpanOf equal vectors":             func(m [][]int, v []int) [][]int { return impl.SpanOf([][]int{v, v, v}, 3).Rows },
	"SpanOf everything":                func(m [][]int, v []int) [][]int { return impl.SpanOf([][]int{m[0], m[1], v}, 3).Rows },
	"SpanOf no vectors":                func(m [][]int, v []int) [][]int { return impl.SpanOf(m[:0], 3).Rows },
	"SpanOf vectors of another length": func(m [][]int, v []int) [][]int { return impl.SpanOf(m, 2).Rows },
	"SpanOf with a bad width":          func(m [][]int, v []int) [][]int { return impl.SpanOf(m, 41).Rows },
	"SumOf": func(m [][]int, v []int) [][]int {
		return impl.SumOf(threeWide(m[:1]), threeWide([][]int{{0, 1, 5}})).Rows
	},
	"SumOf a basis and itself":          func(m [][]int, v []int) [][]int { return impl.SumOf(threeWide(m[:1]), threeWide(m[:1])).Rows },
	"SumOf equal bases":                 func(m [][]int, v []int) [][]int { return impl.SumOf(threeWide(m[:1]), threeWide(m[2:])).Rows },
	"SumOf no rows and a basis":         func(m [][]int, v []int) [][]int { return impl.SumOf(threeWide(m[:0]), threeWide(m[:1])).Rows },
	"SumOf a basis and no rows":         func(m [][]int, v []int) [][]int { return impl.SumOf(threeWide(m[:1]), threeWide(m[:0])).Rows },
	"SumOf no rows":                     func(m [][]int, v []int) [][]int { return impl.SumOf(threeWide(m[:0]), threeWide(m[:0])).Rows },
	"SumOf with an invalid basis":       func(m [][]int, v []int) [][]int { return impl.SumOf(threeWide(m[:1]), threeWide(m)).Rows },
	"SumOf an invalid basis":            func(m [][]int, v []int) [][]int { return impl.SumOf(threeWide(m), threeWide(m[:1])).Rows },
	"SumOf an invalid basis and itself": func(m [][]int, v []int) [][]int { return impl.SumOf(threeWide(m), threeWide(m)).Rows },
	"SumOf equal rows": func(m [][]int, v []int) [][]int {
		return impl.SumOf(threeWide([][]int{v, v, m[0]}), threeWide(m[:1])).Rows
	},
	"SumOf rows of other lengths": func(m [][]int, v []int) [][]int {
		return impl.SumOf(threeWide([][]int{m[0], v[:1], v[:0], nil}), threeWide(m)).Rows
	},
	"SumOf another width": func(m [][]int, v []int) [][]int { return impl.SumOf(threeWide(m[:1]), impl.NewBasis(2)).Rows },
	"OrthogonalSpace":     func(m [][]int, v []int) [][]int { return impl.OrthogonalSpace(threeWide(m[:1])).Rows },
	"OrthogonalSpace, twice": func(m [][]int, v []int) [][]int {
		return impl.OrthogonalSpace(impl.OrthogonalSpace(threeWide(m[:1]))).Rows
	},
	"OrthogonalSpace without rows":        func(m [][]int, v []int) [][]int { return impl.OrthogonalSpace(threeWide(m[:0])).Rows },
	"OrthogonalSpace of everything":       func(m [][]int, v []int) [][]int { return impl.OrthogonalSpace(threeWide(impl.Identity(3))).Rows },
	"OrthogonalSpace of an invalid basis": func(m [][]int, v []int) [][]int { return impl.OrthogonalSpace(threeWide(m)).Rows },
	"IntersectionOf": func(m [][]int, v []int) [][]int {
		return impl.IntersectionOf(threeWide(m[:1]), threeWide([][]int{{1, 0, 0}, {0, 1, 509}})).Rows
	},
	"IntersectionOf a basis and itself": func(m [][]int, v []int) [][]int { return impl.IntersectionOf(threeWide(m[:1]), threeWide(m[:1])).Rows },
	"IntersectionOf equal bases":        func(m [][]int, v []int) [][]int { return impl.IntersectionOf(threeWide(m[:1]), threeWide(m[2:])).Rows },
	"IntersectionOf with everything": func(m [][]int, v []int) [][]int {
		return impl.IntersectionOf(threeWide(m[:1]), threeWide(impl.Identity(3))).Rows
	},
	"IntersectionOf everything": func(m [][]int, v []int) [][]int {
		return impl.IntersectionOf(threeWide(impl.Identity(3)), threeWide(m[:1])).Rows
	},
	"IntersectionOf nothing in common": func(m [][]int, v []int) [][]int {
		return impl.IntersectionOf(threeWide(m[:1]), threeWide([][]int{{0, 1, 5}})).Rows
	},
	"IntersectionOf with no rows":          func(m [][]int, v []int) [][]int { return impl.IntersectionOf(threeWide(m[:1]), threeWide(m[:0])).Rows },
	"IntersectionOf with an invalid basis": func(m [][]int, v []int) [][]int { return impl.IntersectionOf(threeWide(m[:1]), threeWide(m)).Rows },
	"IntersectionOf an invalid basis":      func(m [][]int, v []int) [][]int { return impl.IntersectionOf(threeWide(m), threeWide(m[:1])).Rows },
}

func TestSpacesAreNewMemory(t *testing.T) {
	expectNewMatrices(t, spaceResults)
}

func coordinatesOf(b impl.Basis, v []int) []int {
	coordinates, _ := impl.Coordinates(b, v)
	return coordinates
}

// coordinateResults are calls of Coordinates; some of them have a result equal to the vector.
var coordinateResults = map[string]func(m [][]int, v []int) []int{
	"Coordinates":                        func(m [][]int, v []int) []int { return coordinatesOf(threeWide(m[:1]), m[2]) },
	"Coordinates of the row":             func(m [][]int, v []int) []int { return coordinatesOf(threeWide(m[:1]), m[0]) },
	"Coordinates in everything":          func(m [][]int, v []int) []int { return coordinatesOf(threeWide(impl.Identity(3)), v) },
	"Coordinates of a row in everything": func(m [][]int, v []int) []int { return coordinatesOf(threeWide(impl.Identity(3)), m[1]) },
	"Coordinates of one component": func(m [][]int, v []int) []int {
		return coordinatesOf(impl.Basis{Width: 1, Rows: [][]int{v[1:2]}}, v[:1])
	},
	"Coordinates without rows":        func(m [][]int, v []int) []int { return coordinatesOf(threeWide(m[:0]), []int{0, 0, 0}) },
	"Coordinates of the empty vector": func(m [][]int, v []int) []int { return coordinatesOf(impl.NewBasis(0), v[:0]) },
	"Coordinates, not contained":      func(m [][]int, v []int) []int { return coordinatesOf(threeWide(m[:1]), v) },
	"Coordinates in an invalid basis": func(m [][]int, v []int) []int { return coordinatesOf(threeWide(m), v) },
}

func TestCoordinatesAreNewMemory(t *testing.T) {
	expectNewVectors(t, coordinateResults)
}

// In larger results, rows that were taken from one slice would share memory.
func TestRowsOfSpacesShareNoMemory(t *testing.T) {
	check := func(a impl.Basis, b impl.Basis) {
		first, second := copyBasis(a), copyBasis(b)
		for i, result := range []impl.Basis{impl.SpanOf(a.Rows, a.Width), impl.SumOf(a, b), impl.OrthogonalSpace(a), impl.IntersectionOf(a, b)} {
			if spoil(result.Rows) {
				t.Errorf("result %d for %v and %v has rows that share memory", i, first, second)
			}
			if !sameBasis(a, first) || !sameBasis(b, second) {
				t.Fatalf("result %d for %v and %v is memory of an argument", i, first, second)
			}
		}
	}
	everyPair(check)
	everyParts(func(p parts) { check(p.spaces()) })
}

func TestSpaceFunctionsChangeNoArgument(t *testing.T) {
	check := func(first impl.Basis, second impl.Basis) {
		aRows, aChanged := matrixWithSpare(first.Rows)
		bRows, bChanged := matrixWithSpare(second.Rows)
		a, b := impl.Basis{Width: first.Width, Rows: aRows}, impl.Basis{Width: second.Width, Rows: bRows}
		impl.SumOf(a, b)
		impl.IsSubspace(a, b)
		impl.IntersectionOf(a, b)
		impl.InnovationOf(a, b)
		if aChanged() || bChanged() {
			t.Errorf("a call with %v and %v changes a basis", first, second)
		}
	}
	everyPair(check)
	everyBadPair(check)
}

func TestFunctionsOfOneSpaceChangeNoArgument(t *testing.T) {
	for _, b := range append(sampleBases(), invalidBases()...) {
		rows, rowsChanged := matrixWithSpare(b.Rows)
		b.Rows = rows
		impl.SpanOf(rows, b.Width)
		impl.SpanOf(rows, impl.ColumnsOf(rows))
		impl.SumOf(b, b)
		impl.IsSubspace(b, b)
		impl.OrthogonalSpace(b)
		impl.IntersectionOf(b, b)
		impl.InnovationOf(b, b)
		for _, vector := range vectorsFor(b) {
			v, vChanged := intsWithSpare(vector)
			impl.Coordinates(b, v)
			if vChanged() {
				t.Errorf("Coordinates(%v, %v) changes the vector", b, vector)
			}
		}
		if rowsChanged() {
			t.Errorf("a call with %v changes the basis", b)
		}
	}
}
