package tests

import (
	"math"
	"slices"
	"testing"

	"loop.example/g00513/impl"
)

var badWidths = []int{math.MinInt, math.MinInt + 1, -1 << 32, -41, -40, -2, -1, 41, 42, 80, 1 << 32, 1<<32 + 3, math.MaxInt - 1, math.MaxInt}

// sampleBases are valid bases with all choices of pivots among few columns, and with some among many.
func sampleBases() []impl.Basis {
	bases := []impl.Basis{}
	for _, width := range []int{0, 1, 2, 3, 4, 5, 6, 39, 40} {
		for seed, pivots := range pivotChoices(width) {
			bases = append(bases, impl.Basis{Width: width, Rows: reducedMatrix(pivots, width, seed)})
		}
	}
	return bases
}

// everySmallBasis calls visit with all bases of up to three columns whose components are 0, 1 and 2.
func everySmallBasis(visit func(b impl.Basis)) {
	for width := range 4 {
		for rows := range width + 1 {
			everyMatrix(rows, width, []int{0, 1, 2}, func(m [][]int) {
				if followsDefinition(m) {
					visit(impl.Basis{Width: width, Rows: m})
				}
			})
		}
	}
}

// everySmallVector calls visit with all vectors of this width whose components are 0, 1, 2 and -1.
func everySmallVector(width int, visit func(v []int)) {
	everyMatrix(1, width, []int{0, 1, 2, 1018}, func(m [][]int) { visit(m[0]) })
}

// unreducedMatrices are valid matrices that miss the definition of reduced ones by one fault.
func unreducedMatrices() [][][]int {
	matrices := [][][]int{
		{{}}, {nil}, {{}, {}}, {{0}}, {{2}}, {{1018}}, {{1}, {1}}, {{1}, {0}}, {{0}, {1}}, {{2, 0}}, {{0, 2}}, {{0, 0}},
		{{0, 1, 9}, {1, 0, 7}}, {{1, 0, 7}, {0, 2, 9}}, {{2, 0, 7}, {0, 1, 9}},
		{{1, 3, 7}, {0, 1, 9}}, {{1, 0, 7}, {3, 1, 9}}, {{1, 0, 7}, {1018, 1, 9}}, {{1, 0, 7}, {1, 0, 7}}, {{1, 0, 7}, {1, 0, 9}},
		{{0, 0, 0}, {1, 0, 7}, {0, 1, 9}}, {{1, 0, 7}, {0, 0, 0}, {0, 1, 9}}, {{1, 0, 7}, {0, 1, 9}, {0, 0, 0}},
	}
	for _, size := range []int{2, 3, 40} {
		for _, i := range spots(size) {
			identity, other := impl.Identity(size), (i+1)%size
			exchanged := impl.Identity(size)
			exchanged[i], exchanged[other] = exchanged[other], exchanged[i]
			matrices = append(matrices, exchanged,
				withRow(identity, i, identity[other]),
				withRow(identity, i, filledVector(size, 0)),
				withRow(identity, i, withComponent(identity[i], i, 2)),
				withRow(identity, i, withComponent(identity[i], other, 5)))
		}
	}
	return matrices
}

// invalidBases are of all the kinds that the chapter excludes.
func invalidBases() []impl.Basis {
	bases := []impl.Basis{{Width: 41, Rows: impl.Identity(40)}, {Width: 0, Rows: [][]int{{1}}}}
	for _, width := range badWidths {
		bases = append(bases, impl.Basis{Width: width}, impl.Basis{Width: width, Rows: [][]int{}}, impl.Basis{Width: width, Rows: impl.Identity(3)})
	}
	for _, width := range []int{41, 42, 80} {
		row := withComponent(filledVector(width, 0), 0, 1)
		bases = append(bases, impl.Basis{Width: width, Rows: [][]int{row}}, impl.Basis{Width: 40, Rows: [][]int{row}})
	}
	for _, m := range append(invalidMatrices(), unreducedMatrices()...) {
		bases = append(bases, impl.Basis{Width: len(m[0]), Rows: m}, impl.Basis{Width: len(m[len(m)-1]), Rows: m})
	}
	return append(bases, basesWithOneFault()...)
}

// basesWithOneFault have another width than their rows, or a component that is no element; the rows are reduced otherwise.
func basesWithOneFault() []impl.Basis {
	bases := []impl.Basis{}
	for columns := 1; columns <= 40; columns++ {
		last := withComponent(filledVector(columns, 0), columns-1, 1)
		for _, rows := range [][][]int{{last}, impl.Identity(columns)} {
			for _, width := range []int{columns - 1, columns + 1, 0, 40} {
				if width != columns {
					bases = append(bases, impl.Basis{Width: width, Rows: rows})
				}
			}
			if columns > 1 {
				bases = append(bases, impl.Basis{Width: columns, Rows: withRow(rows, len(rows)-1, last[1:])})
			}
			bases = append(bases, impl.Basis{Width: columns, Rows: withRow(rows, len(rows)-1, append(slices.Clone(last), 0))})
		}
	}
	reduced := [][]int{{1, 0, 7}, {0, 1, 9}}
	for _, x := range nonElements {
		for i := range reduced {
			for j := range reduced[i] {
				bases = append(bases, impl.Basis{Width: 3, Rows: withRow(reduced, i, withComponent(reduced[i], j, x))})
			}
		}
	}
	return bases
}

// sameBasis compares without the package, so that EqualBases need not be right for the other tests.
func sameBasis(a impl.Basis, b impl.Basis) bool {
	return a.Width == b.Width && sameMatrix(a.Rows, b.Rows)
}

func copyBasis(b impl.Basis) impl.Basis {
	return impl.Basis{Width: b.Width, Rows: copyRows(b.Rows)}
}

func expectInserted(t *testing.T, b impl.Basis, v []int, want [][]int) {
	t.Helper()
	got, ok := impl.InsertVector(b, v)
	if !ok || !sameBasis(got, impl.Basis{Width: b.Width, Rows: want}) {
		t.Errorf("InsertVector(%v, %v) = %v, %v, want the rows %v", b, v, got, ok, want)
	}
	if impl.ContainsVector(b, v) || !impl.ContainsVector(got, v) {
		t.Errorf("%v is contained in %v, or not contained after InsertVector", v, b)
	}
}

func expectNotInserted(t *testing.T, b impl.Basis, v []int) {
	t.Helper()
	want := copyBasis(b)
	if got, ok := impl.InsertVector(b, v); ok || !sameBasis(got, want) {
		t.Errorf("InsertVector(%v, %v) = %v, %v", b, v, got, ok)
	}
}

func expectContained(t *testing.T, b impl.Basis, v []int) {
	t.Helper()
	expectNotInserted(t, b, v)
	if !impl.ContainsVector(b, v) {
		t.Errorf("ContainsVector(%v, %v) = false", b, v)
	}
	expectVector(t, "ReduceVector of a contained vector", impl.ReduceVector(b, v), filledVector(b.Width, 0))
}

// rejectVector checks that every function of a basis and a vector refuses them.
func rejectVector(t *testing.T, b impl.Basis, v []int) {
	t.Helper()
	if got := impl.ReduceVector(b, v); len(got) != 0 {
		t.Errorf("ReduceVector(%v, %v) = %v", b, v, got)
	}
	if impl.ContainsVector(b, v) {
		t.Errorf("ContainsVector(%v, %v) = true", b, v)
	}
	expectNotInserted(t, b, v)
}

func TestBasisExample(t *testing.T) {
	b, ok := impl.InsertVector(impl.NewBasis(3), []int{0, 2, 4})
	if !ok || !sameBasis(b, impl.Basis{Width: 3, Rows: [][]int{{0, 1, 2}}}) {
		t.Errorf("the first basis is %v, %v", b, ok)
	}
	expectInserted(t, b, []int{1, 1, 0}, [][]int{{1, 0, 1017}, {0, 1, 2}})
	if impl.NewBasis(41).Width != 0 {
		t.Errorf("NewBasis(41) = %v", impl.NewBasis(41))
	}
}

func TestNewBasis(t *testing.T) {
	for width := range 41 {
		b := impl.NewBasis(width)
		if !sameBasis(b, impl.Basis{Width: width}) || !impl.IsValidBasis(b) || impl.Dimension(b) != 0 {
			t.Errorf("NewBasis(%d) = %v", width, b)
		}
	}
	for _, width := range badWidths {
		if b := impl.NewBasis(width); !sameBasis(b, impl.Basis{}) || !impl.IsValidBasis(b) {
			t.Errorf("NewBasis(%d) = %v", width, b)
		}
	}
}

func TestIsValidBasis(t *testing.T) {
	check := func(b impl.Basis) {
		if !impl.IsValidBasis(b) {
			t.Errorf("IsValidBasis(%v) = false", b)
		}
	}
	for width := range 41 {
		check(impl.Basis{Width: width})
		check(impl.Basis{Width: width, Rows: [][]int{}})
		check(impl.Basis{Width: width, Rows: impl.Identity(width)})
	}
	for _, b := range sampleBases() {
		check(b)
	}
	everySmallBasis(check)
}

func TestIsValidBasisAgreesWithTheDefinition(t *testing.T) {
	for rows := range 4 {
		for columns := range 4 {
			everyMatrix(rows, columns, []int{0, 1, 2}, func(m [][]int) {
				for width := range 5 {
					want := followsDefinition(m) && (rows == 0 || columns == width)
					if got := impl.IsValidBasis(impl.Basis{Width: width, Rows: m}); got != want {
						t.Errorf("IsValidBasis of the rows %v and the width %d = %v", m, width, got)
					}
				}
			})
		}
	}
}

// Every function has its fallback for every kind of invalid basis, whatever the vector.
func TestInvalidBasesAreRejected(t *testing.T) {
	for _, b := range invalidBases() {
		if impl.IsValidBasis(b) || impl.Dimension(b) != 0 || len(impl.FreeColumns(b)) != 0 {
			t.Errorf("%v is valid, has a dimension or free columns: %v", b, impl.FreeColumns(b))
		}
		for _, v := range vectorsFor(b) {
			rejectVector(t, b, v)
		}
	}
}

// vectorsFor are vectors as long as the width, the rows or neither; some are rows, and some are innovative.
func vectorsFor(b impl.Basis) [][]int {
	vectors := [][]int{nil, {}, {0}, {1}, {5, 6, 7}, filledVector(40, 0), filledVector(41, 0)}
	if len(b.Rows) > 0 {
		vectors = append(vectors, b.Rows[0], b.Rows[len(b.Rows)-1])
	}
	if b.Width > 0 && b.Width < 100 {
		vectors = append(vectors, filledVector(b.Width, 0), filledVector(b.Width, 1), sampleVector(b.Width, 3))
	}
	return vectors
}

func TestVectorsOfAnotherWidthAreRejected(t *testing.T) {
	for width := range 41 {
		last := []int{}
		if width > 0 {
			last = withComponent(filledVector(width, 0), width-1, 1)
		}
		bases := []impl.Basis{impl.NewBasis(width), {Width: width, Rows: impl.Identity(width)}}
		if width > 0 {
			bases = append(bases, impl.Basis{Width: width, Rows: [][]int{last}})
		}
		for _, b := range bases {
			for length := range 43 {
				if length == width {
					continue
				}
				rejectVector(t, b, filledVector(length, 0))
				rejectVector(t, b, filledVector(length, 1))
				rejectVector(t, b, withComponent(filledVector(max(length, 1), 0), 0, 1)[:length])
			}
			rejectVector(t, b, append(slices.Clone(last), 0))
			if width > 0 {
				rejectVector(t, b, nil)
				rejectVector(t, b, last[1:])
			}
		}
	}
}

func TestInvalidVectorsAreNotInserted(t *testing.T) {
	for _, v := range invalidVectors() {
		for _, b := range []impl.Basis{impl.NewBasis(len(v)), impl.NewBasis(3), {Width: 3, Rows: [][]int{{1, 0, 7}, {0, 1, 9}}}, {}} {
			rejectVector(t, b, v)
		}
		if len(v) <= 40 {
			rejectVector(t, impl.Basis{Width: len(v), Rows: impl.Identity(len(v))}, v)
			rejectVector(t, impl.Basis{Width: len(v), Rows: [][]int{withComponent(filledVector(len(v), 0), len(v)-1, 1)}}, v)
		}
	}
	// Numbers that are congruent to components of a row, or to 0, do not count as these.
	b := impl.Basis{Width: 3, Rows: [][]int{{1, 0, 7}, {0, 1, 9}}}
	for _, v := range [][]int{{1020, 0, 7}, {1, 1019, 7}, {1, 0, 1026}, {1, 0, -1012}, {-1018, 0, 7}, {0, 0, 1019}, {0, 0, -1019}, {1019, 0, 0}} {
		rejectVector(t, b, v)
	}
}

// Without components, the only vector is the empty one; as the sum of no rows, it is contained.
func TestBasisOfWidthZero(t *testing.T) {
	for _, b := range []impl.Basis{{}, {Rows: [][]int{}}, impl.NewBasis(0), impl.NewBasis(-1)} {
		for _, v := range [][]int{nil, {}, filledVector(1, 5)[:0]} {
			expectContained(t, b, v)
		}
		if len(impl.FreeColumns(b)) != 0 || impl.Dimension(b) != 0 {
			t.Errorf("%v has free columns or a dimension", b)
		}
	}
}

func TestReduceVector(t *testing.T) {
	b := impl.Basis{Width: 3, Rows: [][]int{{1, 0, 1017}, {0, 1, 2}}}
	gap := impl.Basis{Width: 5, Rows: [][]int{{0, 1, 7, 0, 9}, {0, 0, 0, 1, 11}}}
	cases := []struct {
		b       impl.Basis
		v, want []int
	}{
		{b, []int{1, 1, 7}, []int{0, 0, 7}},
		{b, []int{0, 0, 7}, []int{0, 0, 7}},
		{b, []int{1, 0, 0}, []int{0, 0, 2}},
		{b, []int{0, 1, 0}, []int{0, 0, 1017}},
		{b, []int{1018, 0, 0}, []int{0, 0, 1017}},
		{b, []int{1, 2, 2}, []int{0, 0, 0}},
		{b, []int{0, 0, 0}, []int{0, 0, 0}},
		{gap, []int{1, 2, 3, 4, 5}, []int{1, 0, 1008, 0, 962}},
		{gap, []int{3, 0, 0, 0, 0}, []int{3, 0, 0, 0, 0}},
		{gap, []int{0, 1, 0, 0, 0}, []int{0, 0, 1012, 0, 1010}},
		{gap, []int{0, 0, 0, 1018, 1018}, []int{0, 0, 0, 0, 10}},
		{gap, []int{5, 0, 6, 0, 7}, []int{5, 0, 6, 0, 7}},
		{impl.NewBasis(3), []int{5, 0, 6}, []int{5, 0, 6}},
		{impl.NewBasis(40), filledVector(40, 1018), filledVector(40, 1018)},
		{impl.Basis{Width: 40, Rows: impl.Identity(40)}, filledVector(40, 1018), filledVector(40, 0)},
		{impl.NewBasis(0), nil, nil},
	}
	for _, c := range cases {
		expectVector(t, "ReduceVector", impl.ReduceVector(c.b, c.v), c.want)
	}
}

// A reduced vector is made of the free components, so adding combinations of the rows to it and reducing must give it back.
func TestReduceVectorTakesCombinationsAway(t *testing.T) {
	for seed, b := range sampleBases() {
		pivots := pivotsOf(b.Rows)
		want := sampleVector(b.Width, seed)
		for _, pivot := range pivots {
			want[pivot] = 0
		}
		expectVector(t, "ReduceVector of a reduced vector", impl.ReduceVector(b, want), want)
		for _, coefficients := range coefficientLists(len(pivots), seed) {
			v := expectedCombination(append(slices.Clone(b.Rows), want), append(coefficients, 1))
			reduced := impl.ReduceVector(b, v)
			expectVector(t, "ReduceVector", reduced, want)
			expectVector(t, "ReduceVector again", impl.ReduceVector(b, reduced), want)
		}
	}
}

// coefficientLists choose one row or a multiple of one, or mix all rows.
func coefficientLists(count int, seed int) [][]int {
	lists := [][]int{filledVector(count, 0), filledVector(count, 1), filledVector(count, 1018), sampleVector(count, seed+1)}
	if count > 0 {
		for _, i := range spots(count) {
			lists = append(lists, withComponent(filledVector(count, 0), i, 1), withComponent(filledVector(count, 0), i, 600+i))
		}
	}
	return lists
}

func TestCombinationsAreContained(t *testing.T) {
	for seed, b := range sampleBases() {
		for _, coefficients := range coefficientLists(len(b.Rows), seed) {
			zeros := filledVector(b.Width, 0)
			v := expectedCombination(append(slices.Clone(b.Rows), zeros), append(coefficients, 0))
			expectContained(t, b, v)
			for _, j := range impl.FreeColumns(b) {
				if other := withComponent(v, j, (v[j]+1+seed%1018)%1019); impl.ContainsVector(b, other) {
					t.Errorf("ContainsVector(%v, %v) = true", b, other)
				}
			}
		}
		for _, row := range b.Rows {
			expectContained(t, b, row)
		}
	}
}

// The ranks are computed without the package: a vector adds to the rank of the rows, or it is contained.
func TestInnovativeIfAndOnlyIfNotContained(t *testing.T) {
	everySmallBasis(func(b impl.Basis) {
		everySmallVector(b.Width, func(v []int) {
			joined := append(copyRows(b.Rows), v)
			if rankOf(joined) == len(b.Rows) {
				expectContained(t, b, v)
				return
			}
			got, _ := impl.InsertVector(b, v)
			if !followsDefinition(got.Rows) || len(got.Rows) != len(joined) || rankOf(slices.Concat(joined, got.Rows)) != len(joined) {
				t.Errorf("InsertVector(%v, %v) = %v", b, v, got)
			}
			expectInserted(t, b, v, impl.RowReduce(joined))
			expectReduced(t, b, v)
		})
	})
}

// expectReduced compares with the document's words on ReduceVector.
func expectReduced(t *testing.T, b impl.Basis, v []int) {
	t.Helper()
	got := impl.ReduceVector(b, v)
	if len(got) != b.Width {
		t.Errorf("ReduceVector(%v, %v) = %v", b, v, got)
		return
	}
	for _, pivot := range pivotsOf(b.Rows) {
		if got[pivot] != 0 {
			t.Errorf("ReduceVector(%v, %v) = %v is not 0 in the column %d", b, v, got, pivot)
		}
	}
	difference := expectedCombination([][]int{v, got}, []int{1, 1018})
	if rankOf(append(copyRows(b.Rows), difference)) != len(b.Rows) {
		t.Errorf("ReduceVector(%v, %v) = %v differs by no combination of the rows", b, v, got)
	}
}

// withoutDirection returns the basis that lacks only a row of the given one: the rows before it have been mixed with that row, which keeps them reduced.
func withoutDirection(b impl.Basis, index int, seed int) impl.Basis {
	rows := copyRows(b.Rows)
	for i := range index {
		rows[i] = expectedCombination([][]int{rows[i], rows[index]}, []int{1, (313*i + seed) % 1019})
	}
	return impl.Basis{Width: b.Width, Rows: slices.Delete(rows, index, index+1)}
}

// The pivot of the new row is before, between and behind those of the other rows.
func TestInsertVectorFindsThePlaceOfTheRow(t *testing.T) {
	for seed, whole := range sampleBases() {
		for index := range whole.Rows {
			if len(whole.Rows) > 6 && !slices.Contains(spots(len(whole.Rows)), index) {
				continue
			}
			b := withoutDirection(whole, index, seed)
			expectInserted(t, b, whole.Rows[index], whole.Rows)
			for _, factor := range []int{1, 2, 1018} {
				coefficients := withComponent(sampleVector(len(whole.Rows), seed), index, factor)
				expectInserted(t, b, expectedCombination(whole.Rows, coefficients), whole.Rows)
			}
		}
	}
}

func TestInsertVectorPlaces(t *testing.T) {
	b := impl.Basis{Width: 5, Rows: [][]int{{0, 1, 7, 0, 9}, {0, 0, 0, 1, 11}}}
	cases := []struct {
		v    []int
		want [][]int
	}{
		{[]int{2, 0, 0, 0, 0}, [][]int{{1, 0, 0, 0, 0}, {0, 1, 7, 0, 9}, {0, 0, 0, 1, 11}}},
		{[]int{1, 1, 0, 0, 0}, [][]int{{1, 0, 1012, 0, 1010}, {0, 1, 7, 0, 9}, {0, 0, 0, 1, 11}}},
		{[]int{0, 0, 2, 0, 4}, [][]int{{0, 1, 0, 0, 1014}, {0, 0, 1, 0, 2}, {0, 0, 0, 1, 11}}},
		{[]int{0, 1, 8, 0, 11}, [][]int{{0, 1, 0, 0, 1014}, {0, 0, 1, 0, 2}, {0, 0, 0, 1, 11}}},
		{[]int{0, 0, 0, 0, 3}, [][]int{{0, 1, 7, 0, 0}, {0, 0, 0, 1, 0}, {0, 0, 0, 0, 1}}},
		{[]int{0, 0, 0, 1, 0}, [][]int{{0, 1, 7, 0, 0}, {0, 0, 0, 1, 0}, {0, 0, 0, 0, 1}}},
	}
	for _, c := range cases {
		expectInserted(t, b, c.v, c.want)
	}
}

func TestFirstVectorIsScaled(t *testing.T) {
	for width := 1; width <= 40; width++ {
		for _, index := range spots(width) {
			for _, x := range []int{1, 2, 510, 1018} {
				v := withComponent(filledVector(width, 0), index, x)
				expectInserted(t, impl.NewBasis(width), v, [][]int{withComponent(v, index, 1)})
			}
		}
		expectContained(t, impl.NewBasis(width), filledVector(width, 0))
	}
}

// insertAll returns the basis and the number of vectors that were innovative.
func insertAll(t *testing.T, width int, vectors [][]int) (impl.Basis, int) {
	t.Helper()
	b, count := impl.NewBasis(width), 0
	for _, v := range vectors {
		contained := impl.ContainsVector(b, v)
		grown, innovative := impl.InsertVector(b, v)
		if innovative == contained {
			t.Errorf("%v is innovative and contained, or neither, for %v", v, b)
		}
		b = grown
		if innovative {
			count++
		}
		if !impl.IsValidBasis(b) || impl.Dimension(b) != count || len(impl.FreeColumns(b)) != width-count {
			t.Errorf("after %d innovative vectors, the basis is %v", count, b)
		}
	}
	return b, count
}

// orders are the same vectors in all orders that exchange one with the first, and upside down.
func orders(vectors [][]int) [][][]int {
	upsideDown := slices.Clone(vectors)
	slices.Reverse(upsideDown)
	lists := [][][]int{vectors, upsideDown}
	if len(vectors) > 0 {
		for _, i := range spots(len(vectors)) {
			exchanged := slices.Clone(vectors)
			exchanged[0], exchanged[i] = exchanged[i], exchanged[0]
			lists = append(lists, exchanged, slices.Concat(vectors[i:], vectors[:i]))
		}
	}
	return lists
}

func TestOrderOfInsertionDoesNotMatter(t *testing.T) {
	for _, want := range sampleBases() {
		rank := len(want.Rows)
		for _, count := range []int{rank, min(rank+2, 40)} {
			for _, spread := range spreads(count, rank) {
				vectors := expectedProduct(spread, want.Rows, want.Width)
				for _, order := range orders(vectors) {
					if got, innovative := insertAll(t, want.Width, order); !sameBasis(got, want) || innovative != rank {
						t.Errorf("the vectors %v give %v, want %v", order, got, want)
					}
				}
			}
		}
	}
}

func TestAllOrdersOfFewVectors(t *testing.T) {
	vectors := [][]int{{0, 2, 4, 1}, {1, 1, 0, 0}, {1, 2, 2, 510}, {0, 0, 0, 5}, {0, 0, 0, 0}}
	want, _ := insertAll(t, 4, vectors)
	expectMatrix(t, "the rows", want.Rows, [][]int{{1, 0, 1017, 0}, {0, 1, 2, 0}, {0, 0, 0, 1}})
	var permute func(chosen [][]int, rest [][]int)
	permute = func(chosen [][]int, rest [][]int) {
		if len(rest) == 0 {
			if got, count := insertAll(t, 4, chosen); !sameBasis(got, want) || count != 3 {
				t.Errorf("the vectors %v give %v after %d innovative ones", chosen, got, count)
			}
		}
		for i, v := range rest {
			permute(append(slices.Clone(chosen), v), slices.Concat(rest[:i], rest[i+1:]))
		}
	}
	permute(nil, vectors)
}

// A basis of as many rows as its width contains every vector of this width.
func TestFullBasisContainsEverything(t *testing.T) {
	for _, width := range []int{1, 2, 3, 39, 40} {
		m, _ := invertibleMatrix(width, 2)
		b, count := insertAll(t, width, m)
		if count != width || !sameBasis(b, impl.Basis{Width: width, Rows: impl.Identity(width)}) || len(impl.FreeColumns(b)) != 0 {
			t.Errorf("%d independent vectors give %v", width, b)
		}
		for seed := range 5 {
			expectContained(t, b, sampleVector(width, seed))
		}
		expectContained(t, b, filledVector(width, 1018))
	}
}

func TestDimensionAndFreeColumns(t *testing.T) {
	cases := []struct {
		b    impl.Basis
		rows int
		free []int
	}{
		{impl.Basis{Width: 3, Rows: [][]int{{1, 0, 1017}, {0, 1, 2}}}, 2, []int{2}},
		{impl.Basis{Width: 5, Rows: [][]int{{0, 1, 7, 0, 9}, {0, 0, 0, 1, 11}}}, 2, []int{0, 2, 4}},
		{impl.Basis{Width: 3, Rows: [][]int{{0, 0, 1}}}, 1, []int{0, 1}},
		{impl.Basis{Width: 3, Rows: [][]int{{1, 5, 6}}}, 1, []int{1, 2}},
		{impl.Basis{Width: 1, Rows: [][]int{{1}}}, 1, nil},
		{impl.Basis{Width: 3}, 0, []int{0, 1, 2}},
		{impl.Basis{Width: 3, Rows: [][]int{}}, 0, []int{0, 1, 2}},
		{impl.Basis{}, 0, nil},
		{impl.Basis{Width: 40, Rows: impl.Identity(40)}, 40, nil},
	}
	for _, c := range cases {
		if got := impl.Dimension(c.b); got != c.rows {
			t.Errorf("Dimension(%v) = %d, want %d", c.b, got, c.rows)
		}
		expectVector(t, "FreeColumns", impl.FreeColumns(c.b), c.free)
	}
}

func TestFreeColumnsAreThoseWithoutPivot(t *testing.T) {
	for _, b := range sampleBases() {
		pivots, free := pivotsOf(b.Rows), []int{}
		for j := range b.Width {
			if !slices.Contains(pivots, j) {
				free = append(free, j)
			}
		}
		expectVector(t, "FreeColumns", impl.FreeColumns(b), free)
		if impl.Dimension(b) != len(pivots) || len(free) != b.Width-impl.Dimension(b) {
			t.Errorf("Dimension(%v) = %d", b, impl.Dimension(b))
		}
	}
}

func TestEqualBases(t *testing.T) {
	rows := [][]int{{1, 0, 7}, {0, 1, 9}}
	b := impl.Basis{Width: 3, Rows: rows}
	cases := []struct {
		a, b impl.Basis
		want bool
	}{
		{b, impl.Basis{Width: 3, Rows: copyRows(rows)}, true},
		{b, impl.Basis{Width: 4, Rows: rows}, false},
		{b, impl.Basis{Width: 3, Rows: rows[:1]}, false},
		{b, impl.Basis{Width: 3}, false},
		{b, impl.Basis{}, false},
		{b, impl.Basis{Width: 3, Rows: [][]int{{0, 1, 9}, {1, 0, 7}}}, false},
		{b, impl.Basis{Width: 3, Rows: [][]int{{1, 0, 7}, {0, 1, 8}}}, false},
		{b, impl.Basis{Width: 3, Rows: [][]int{{1, 0, 6}, {0, 1, 9}}}, false},
		{b, impl.Basis{Width: 3, Rows: [][]int{{1, 0, 7}, {0, 1, 9}, {}}}, false},
		{impl.Basis{}, impl.Basis{Rows: [][]int{}}, true},
		{impl.Basis{Width: 40}, impl.Basis{Width: 40, Rows: [][]int{}}, true},
		{impl.Basis{Width: 39}, impl.Basis{Width: 40}, false},
		// The following are not valid.
		{impl.Basis{Rows: [][]int{nil}}, impl.Basis{Rows: [][]int{{}}}, true},
		{impl.Basis{Rows: [][]int{nil}}, impl.Basis{}, false},
		{impl.Basis{Width: -1}, impl.Basis{Width: -1, Rows: [][]int{}}, true},
		{impl.Basis{Width: -1}, impl.Basis{}, false},
		{impl.Basis{Width: -1}, impl.Basis{Width: 41}, false},
		{impl.Basis{Width: math.MinInt}, impl.Basis{Width: math.MinInt}, true},
		{impl.Basis{Width: 0}, impl.Basis{Width: 1 << 32}, false},
		{impl.Basis{Width: 2, Rows: [][]int{{2, 0}}}, impl.Basis{Width: 2, Rows: [][]int{{2, 0}}}, true},
		{impl.Basis{Width: 2, Rows: [][]int{{2, 0}}}, impl.Basis{Width: 2, Rows: [][]int{{1, 0}}}, false},
		{impl.Basis{Width: 1, Rows: [][]int{{-1}}}, impl.Basis{Width: 1, Rows: [][]int{{1018}}}, false},
		{impl.Basis{Width: 1, Rows: [][]int{{1019}}}, impl.Basis{Width: 1, Rows: [][]int{{1019}}}, true},
		{impl.Basis{Width: 2, Rows: [][]int{{1, 2}, {3}}}, impl.Basis{Width: 2, Rows: [][]int{{1}, {2, 3}}}, false},
	}
	for _, c := range cases {
		if impl.EqualBases(c.a, c.b) != c.want || impl.EqualBases(c.b, c.a) != c.want {
			t.Errorf("EqualBases(%v, %v), or of the two in the other order, is not %v", c.a, c.b, c.want)
		}
	}
}

func TestEqualBasesLooksAtEverything(t *testing.T) {
	for _, b := range append(sampleBases(), invalidBases()...) {
		if !impl.EqualBases(b, b) || !impl.EqualBases(b, copyBasis(b)) {
			t.Errorf("EqualBases(%v) of equal ones = false", b)
		}
		if impl.EqualBases(b, impl.Basis{Width: b.Width + 1, Rows: b.Rows}) || impl.EqualBases(impl.Basis{Width: b.Width - 1, Rows: b.Rows}, b) {
			t.Errorf("EqualBases(%v) does not look at the width", b)
		}
		if len(b.Rows) == 0 {
			continue
		}
		for _, i := range spots(len(b.Rows)) {
			longer := withRow(b.Rows, i, append(slices.Clone(b.Rows[i]), 0))
			if impl.EqualBases(b, impl.Basis{Width: b.Width, Rows: longer}) || impl.EqualBases(b, impl.Basis{Width: b.Width, Rows: slices.Delete(slices.Clone(b.Rows), i, i+1)}) {
				t.Errorf("EqualBases(%v) does not look at the row %d", b, i)
			}
		}
	}
}

func rowsAfterInsertion(width int, rows [][]int, v []int) [][]int {
	b, _ := impl.InsertVector(impl.Basis{Width: width, Rows: rows}, v)
	return b.Rows
}

// basisResults are calls that return a basis; some have rows equal to an argument, which must be memory of their own. The first row alone is a valid basis, with spare capacity behind it; all three rows are none.
var basisResults = map[string]func(m [][]int, v []int) [][]int{
	"NewBasis":                             func(m [][]int, v []int) [][]int { return impl.NewBasis(3).Rows },
	"NewBasis, rejected":                   func(m [][]int, v []int) [][]int { return impl.NewBasis(41).Rows },
	"InsertVector":                         func(m [][]int, v []int) [][]int { return rowsAfterInsertion(3, m[:1], v) },
	"InsertVector behind the row":          func(m [][]int, v []int) [][]int { return rowsAfterInsertion(3, m[:1], m[1]) },
	"InsertVector before the row":          func(m [][]int, v []int) [][]int { return rowsAfterInsertion(3, [][]int{{0, 1, 5}}, v) },
	"InsertVector of a reduced vector":     func(m [][]int, v []int) [][]int { return rowsAfterInsertion(3, m[:1], []int{0, 1, 0}) },
	"InsertVector without rows":            func(m [][]int, v []int) [][]int { return rowsAfterInsertion(3, m[:0], v) },
	"InsertVector of a row, without rows":  func(m [][]int, v []int) [][]int { return rowsAfterInsertion(3, m[:0], m[0]) },
	"InsertVector of the row":              func(m [][]int, v []int) [][]int { return rowsAfterInsertion(3, m[:1], m[0]) },
	"InsertVector of an equal row":         func(m [][]int, v []int) [][]int { return rowsAfterInsertion(3, m[:1], m[2]) },
	"InsertVector of zeros":                func(m [][]int, v []int) [][]int { return rowsAfterInsertion(3, m[:1], []int{0, 0, 0}) },
	"InsertVector, full":                   func(m [][]int, v []int) [][]int { return rowsAfterInsertion(1, [][]int{v[1:2]}, v[:1]) },
	"InsertVector of another width":        func(m [][]int, v []int) [][]int { return rowsAfterInsertion(3, m[:1], v[:2]) },
	"InsertVector of no element":           func(m [][]int, v []int) [][]int { return rowsAfterInsertion(3, m[:1], []int{0, -1, 0}) },
	"InsertVector into an invalid basis":   func(m [][]int, v []int) [][]int { return rowsAfterInsertion(3, m, v) },
	"InsertVector into equal rows":         func(m [][]int, v []int) [][]int { return rowsAfterInsertion(3, [][]int{v, v, m[0]}, v) },
	"InsertVector into rows of two widths": func(m [][]int, v []int) [][]int { return rowsAfterInsertion(3, [][]int{m[0], v[:1], v[:0], nil}, v) },
	"InsertVector into a bad width":        func(m [][]int, v []int) [][]int { return rowsAfterInsertion(-1, m, v) },
}

func TestBasesAreNewMemory(t *testing.T) {
	expectNewMatrices(t, basisResults)
}

// reducedResults are calls that return a vector; some of them have a result equal to an argument.
var reducedResults = map[string]func(m [][]int, v []int) []int{
	"ReduceVector":                     func(m [][]int, v []int) []int { return impl.ReduceVector(impl.Basis{Width: 3, Rows: m[:1]}, v) },
	"ReduceVector of the row":          func(m [][]int, v []int) []int { return impl.ReduceVector(impl.Basis{Width: 3, Rows: m[:1]}, m[0]) },
	"ReduceVector of a reduced vector": func(m [][]int, v []int) []int { return impl.ReduceVector(impl.Basis{Width: 3, Rows: m[:1]}, m[1]) },
	"ReduceVector without rows":        func(m [][]int, v []int) []int { return impl.ReduceVector(impl.Basis{Width: 3, Rows: m[:0]}, v) },
	"ReduceVector of the empty vector": func(m [][]int, v []int) []int { return impl.ReduceVector(impl.NewBasis(0), v[:0]) },
	"ReduceVector by an invalid basis": func(m [][]int, v []int) []int { return impl.ReduceVector(impl.Basis{Width: 3, Rows: m}, v) },
	"ReduceVector of another width":    func(m [][]int, v []int) []int { return impl.ReduceVector(impl.Basis{Width: 3, Rows: m[:1]}, v[:2]) },
	"FreeColumns":                      func(m [][]int, v []int) []int { return impl.FreeColumns(impl.Basis{Width: 3, Rows: m[:1]}) },
	"FreeColumns without rows":         func(m [][]int, v []int) []int { return impl.FreeColumns(impl.Basis{Width: 3, Rows: m[:0]}) },
	"FreeColumns of an invalid basis":  func(m [][]int, v []int) []int { return impl.FreeColumns(impl.Basis{Width: 3, Rows: m}) },
}

func TestReducedVectorsAreNewMemory(t *testing.T) {
	expectNewVectors(t, reducedResults)
}

// In larger results, rows that were taken from one slice would share memory.
func TestRowsOfBasesShareNoMemory(t *testing.T) {
	for seed, whole := range sampleBases() {
		before := copyBasis(whole)
		vectors := [][]int{filledVector(whole.Width, 0), sampleVector(whole.Width, seed), nil}
		for _, v := range append(vectors, whole.Rows...) {
			got, _ := impl.InsertVector(whole, v)
			if spoil(got.Rows) {
				t.Errorf("InsertVector(%v, %v) returns rows that share memory", before, v)
			}
			if !sameBasis(whole, before) {
				t.Fatalf("InsertVector(%v, %v) returns memory of an argument", before, v)
			}
		}
	}
}

func TestBasisFunctionsChangeNoArgument(t *testing.T) {
	for _, b := range append(sampleBases(), invalidBases()...) {
		rows, rowsChanged := matrixWithSpare(b.Rows)
		b.Rows = rows
		for _, vector := range vectorsFor(b) {
			v, vChanged := intsWithSpare(vector)
			impl.ReduceVector(b, v)
			impl.ContainsVector(b, v)
			impl.InsertVector(b, v)
			if vChanged() {
				t.Errorf("a call with %v and %v changes the vector", b, vector)
			}
		}
		impl.IsValidBasis(b)
		impl.Dimension(b)
		impl.FreeColumns(b)
		impl.EqualBases(b, b)
		impl.EqualBases(b, impl.NewBasis(3))
		if rowsChanged() {
			t.Errorf("a call with %v changes the basis", b)
		}
	}
}
