package tests

import (
	"math"
	"slices"
	"testing"

	"loop.example/g00513/impl"
)

// matrixSizes are numbers of rows or of columns.
var matrixSizes = []int{0, 1, 2, 3, 5, 39, 40}

// sampleMatrix returns a valid matrix whose components are spread over the field; seeds tell matrices of one size apart.
func sampleMatrix(rows int, columns int, seed int) [][]int {
	m := make([][]int, rows)
	for i := range m {
		m[i] = sampleVector(columns, 7*seed+i)
	}
	return m
}

func filledMatrix(rows int, columns int, component int) [][]int {
	m := make([][]int, rows)
	for i := range m {
		m[i] = filledVector(columns, component)
	}
	return m
}

func withRow(m [][]int, index int, row []int) [][]int {
	changed := slices.Clone(m)
	changed[index] = row
	return changed
}

// spots are a first, a middle and a last index.
func spots(count int) []int {
	return []int{0, count / 2, count - 1}
}

// raggedMatrices have rows that are valid one by one, but not all of the same length.
func raggedMatrices() [][][]int {
	matrices := [][][]int{{{1}, {1, 2}}, {{1, 2}, {1}}, {{}, {0}}, {{0}, {}}, {nil, {0}}, {{0}, nil}, {{1, 2}, {1, 2, 3}, {1}}, {{1}, {1, 2}, {1, 2, 3}}}
	for _, rows := range []int{2, 3, 40} {
		for _, index := range spots(rows) {
			for _, columns := range []int{0, 1, 3, 39} {
				matrices = append(matrices,
					withRow(sampleMatrix(rows, columns, 1), index, sampleVector(columns+1, 2)),
					withRow(sampleMatrix(rows, columns+1, 1), index, sampleVector(columns, 2)),
					withRow(filledMatrix(rows, columns, 0), index, filledVector(columns+1, 0)))
			}
		}
	}
	return matrices
}

// invalidMatrices are ragged, have too many rows or too many columns, or have one component that is no element.
func invalidMatrices() [][][]int {
	matrices := raggedMatrices()
	for _, columns := range []int{0, 1, 2, 40, 41} {
		for _, rows := range []int{41, 42, 100} {
			matrices = append(matrices, filledMatrix(rows, columns, 0), sampleMatrix(rows, columns, 1))
		}
	}
	for _, rows := range []int{1, 2, 40} {
		matrices = append(matrices, filledMatrix(rows, 41, 0), sampleMatrix(rows, 41, 1), filledMatrix(rows, 100, 1))
	}
	for _, x := range nonElements {
		for _, size := range []int{1, 3, 40} {
			for _, i := range spots(size) {
				for _, j := range spots(size) {
					m := sampleMatrix(size, size, 2)
					matrices = append(matrices, withRow(m, i, withComponent(m[i], j, x)))
				}
			}
		}
	}
	return matrices
}

// sameMatrix compares without the package, so that EqualMatrices need not be right for the other tests.
func sameMatrix(a [][]int, b [][]int) bool {
	return slices.EqualFunc(a, b, func(x, y []int) bool { return slices.Equal(x, y) })
}

func expectMatrix(t *testing.T, what string, got [][]int, want [][]int) {
	t.Helper()
	if !sameMatrix(got, want) {
		t.Errorf("%s: got %v, want %v", what, got, want)
	}
}

// expectedProduct computes the document's sum with one remainder for each component.
func expectedProduct(a [][]int, b [][]int, columns int) [][]int {
	product := filledMatrix(len(a), columns, 0)
	for i := range a {
		for j := range columns {
			for k := range b {
				product[i][j] += a[i][k] * b[k][j]
			}
			product[i][j] %= 1019
		}
	}
	return product
}

func TestMaxRows(t *testing.T) {
	if impl.MaxRows != 40 {
		t.Errorf("MaxRows = %d", impl.MaxRows)
	}
}

func TestIsValidMatrix(t *testing.T) {
	for rows := range 41 {
		for columns := range 41 {
			for _, m := range [][][]int{filledMatrix(rows, columns, 0), filledMatrix(rows, columns, 1018), sampleMatrix(rows, columns, 1)} {
				if !impl.IsValidMatrix(m) {
					t.Errorf("IsValidMatrix(%v) = false", m)
				}
			}
		}
	}
	for _, m := range [][][]int{nil, {}, {nil}, {{}}, {nil, {}}, {{}, nil, {}}, slices.Repeat([][]int{nil}, 40)} {
		if !impl.IsValidMatrix(m) {
			t.Errorf("IsValidMatrix(%v) = false", m)
		}
	}
	for _, m := range invalidMatrices() {
		if impl.IsValidMatrix(m) {
			t.Errorf("IsValidMatrix(%v) = true", m)
		}
	}
	if impl.IsValidMatrix(slices.Repeat([][]int{nil}, 41)) {
		t.Error("41 rows that are nil are valid")
	}
}

func TestIsValidMatrixLooksAtEveryComponent(t *testing.T) {
	for i := range 40 {
		for j := range 40 {
			for _, x := range []int{-1, 1019} {
				m := filledMatrix(40, 40, 0)
				m[i][j] = x
				if impl.IsValidMatrix(m) {
					t.Errorf("IsValidMatrix with the component %d at %d, %d = true", x, i, j)
				}
			}
		}
	}
}

func TestIsValidMatrixLooksAtEveryLength(t *testing.T) {
	for rows := 2; rows <= 40; rows++ {
		for i := range rows {
			for _, columns := range []int{0, 2, 4} {
				if m := withRow(filledMatrix(rows, 3, 1), i, filledVector(columns, 1)); impl.IsValidMatrix(m) {
					t.Errorf("IsValidMatrix(%v) = true", m)
				}
			}
		}
	}
}

// Only the rows up to the length belong to a matrix.
func TestIsValidMatrixIgnoresSpareCapacity(t *testing.T) {
	long := append(filledMatrix(40, 2, 7), []int{-1, 1019}, nil)
	if !impl.IsValidMatrix(long[:40]) || !impl.IsValidMatrix(long[:0]) || impl.IsValidMatrix(long[:41]) {
		t.Error("spare capacity counts")
	}
}

func TestColumnsOf(t *testing.T) {
	cases := []struct {
		m    [][]int
		want int
	}{
		{nil, 0},
		{[][]int{}, 0},
		{[][]int{nil}, 0},
		{[][]int{{}, {}}, 0},
		{[][]int{{1, 2}, {3, 4}, {0, 1}}, 2},
		{[][]int{{5}}, 1},
		{filledMatrix(40, 40, 1), 40},
		// The following are no valid matrices.
		{[][]int{{1}, {1, 2}}, 1},
		{[][]int{{1, 2}, {1}}, 2},
		{[][]int{{1, 2}, {}}, 2},
		{[][]int{nil, {1, 2}}, 0},
		{[][]int{{1, 2, 3}, {1}, {1, 2, 3, 4}}, 3},
		{[][]int{{-1, 1019}}, 2},
		{[][]int{{math.MinInt}, {0}}, 1},
		{filledMatrix(1, 41, 0), 41},
		{filledMatrix(2, 1000, -1), 1000},
		{filledMatrix(41, 3, 0), 3},
		{filledMatrix(1000, 2, 0), 2},
		{slices.Repeat([][]int{nil}, 41), 0},
	}
	for _, c := range cases {
		if got := impl.ColumnsOf(c.m); got != c.want {
			t.Errorf("ColumnsOf(%v) = %d, want %d", c.m, got, c.want)
		}
	}
}

func TestIdentity(t *testing.T) {
	expectMatrix(t, "Identity(2)", impl.Identity(2), [][]int{{1, 0}, {0, 1}})
	for n := range 41 {
		want := filledMatrix(n, n, 0)
		for i := range n {
			want[i][i] = 1
		}
		expectMatrix(t, "Identity", impl.Identity(n), want)
	}
	for _, n := range []int{math.MinInt, -1 << 32, -41, -40, -2, -1, 41, 42, 80, 1 << 32, 1<<32 + 2, math.MaxInt} {
		if got := impl.Identity(n); len(got) != 0 {
			t.Errorf("Identity(%d) = %v", n, got)
		}
	}
}

func TestTranspose(t *testing.T) {
	cases := []struct{ m, want [][]int }{
		{[][]int{{1, 2}, {3, 4}, {0, 1}}, [][]int{{1, 3, 0}, {2, 4, 1}}},
		{[][]int{{1, 3, 0}, {2, 4, 1}}, [][]int{{1, 2}, {3, 4}, {0, 1}}},
		{[][]int{{5}}, [][]int{{5}}},
		{[][]int{{5, 6, 7}}, [][]int{{5}, {6}, {7}}},
		{[][]int{{5}, {6}, {7}}, [][]int{{5, 6, 7}}},
		{nil, nil},
		{[][]int{}, nil},
		{[][]int{{}}, nil},
		{[][]int{nil, {}, nil}, nil},
		{filledMatrix(40, 0, 0), nil},
	}
	for _, c := range cases {
		expectMatrix(t, "Transpose", impl.Transpose(c.m), c.want)
	}
}

func TestTransposeOfAllSizes(t *testing.T) {
	for rows := range 41 {
		for columns := range 41 {
			m := sampleMatrix(rows, columns, rows+columns)
			want := [][]int{}
			if rows > 0 {
				want = filledMatrix(columns, rows, 0)
			}
			for i := range m {
				for j, x := range m[i] {
					want[j][i] = x
				}
			}
			transposed := impl.Transpose(m)
			expectMatrix(t, "Transpose", transposed, want)
			// Without components, the number of rows is lost.
			if columns == 0 {
				m = nil
			}
			expectMatrix(t, "Transpose twice", impl.Transpose(transposed), m)
		}
	}
}

func TestTransposeRejects(t *testing.T) {
	for _, m := range invalidMatrices() {
		if got := impl.Transpose(m); len(got) != 0 {
			t.Errorf("Transpose(%v) = %v", m, got)
		}
	}
}

func TestMulMatrices(t *testing.T) {
	a := [][]int{{1, 2}, {3, 4}, {0, 1}}
	cases := []struct{ a, b, want [][]int }{
		{a, [][]int{{1, 0, 2}, {0, 1, 1}}, [][]int{{1, 2, 4}, {3, 4, 10}, {0, 1, 1}}},
		{a, [][]int{{1018}, {1}}, [][]int{{1}, {1}, {1}}},
		{a, [][]int{{0, 1}, {1, 0}}, [][]int{{2, 1}, {4, 3}, {1, 0}}},
		{[][]int{{0, 1}, {1, 0}}, [][]int{{1, 2}, {3, 4}}, [][]int{{3, 4}, {1, 2}}},
		{[][]int{{1, 2}, {3, 4}}, [][]int{{0, 1}, {1, 0}}, [][]int{{2, 1}, {4, 3}}},
		{[][]int{{2}}, [][]int{{510}}, [][]int{{1}}},
		{[][]int{{2}, {3}}, [][]int{{5, 7}}, [][]int{{10, 14}, {15, 21}}},
		{[][]int{{5, 7}}, [][]int{{2}, {3}}, [][]int{{31}}},
		{filledMatrix(40, 40, 1018), filledMatrix(40, 40, 1018), filledMatrix(40, 40, 40)},
		{filledMatrix(40, 40, 1018), filledMatrix(40, 40, 1), filledMatrix(40, 40, 979)},
		{filledMatrix(2, 3, 0), filledMatrix(3, 4, 9), filledMatrix(2, 4, 0)},
	}
	for _, c := range cases {
		expectMatrix(t, "MulMatrices", impl.MulMatrices(c.a, c.b), c.want)
	}
}

// A factor without rows has no columns either, so it follows any factor whose rows are empty.
func TestMulMatricesWithEmptyFactors(t *testing.T) {
	cases := []struct{ a, b, want [][]int }{
		{nil, nil, nil},
		{[][]int{}, nil, nil},
		{nil, [][]int{}, nil},
		{nil, [][]int{{}}, nil},
		{nil, [][]int{{1, 2}}, nil},
		{[][]int{{}}, nil, [][]int{{}}},
		{[][]int{{}, nil, {}}, nil, filledMatrix(3, 0, 0)},
		{filledMatrix(40, 0, 0), [][]int{}, filledMatrix(40, 0, 0)},
		{[][]int{{}, {}}, [][]int{{}}, nil},
		{[][]int{{}, {}}, [][]int{{1}}, nil},
		{[][]int{{1}, {2}}, nil, nil},
		{[][]int{{1}, {2}}, [][]int{{}}, [][]int{{}, {}}},
		{[][]int{{1, 2}, {3, 4}, {5, 6}}, [][]int{nil, {}}, filledMatrix(3, 0, 0)},
		{[][]int{{1, 2}}, [][]int{{}}, nil},
	}
	for _, c := range cases {
		expectMatrix(t, "MulMatrices", impl.MulMatrices(c.a, c.b), c.want)
	}
}

func TestMulMatricesOfAllSizes(t *testing.T) {
	for _, rows := range matrixSizes {
		for _, inner := range matrixSizes {
			for _, columns := range matrixSizes {
				if inner == 0 {
					columns = 0
				}
				a, b := sampleMatrix(rows, inner, columns), sampleMatrix(inner, columns, rows+1)
				expectMatrix(t, "MulMatrices", impl.MulMatrices(a, b), expectedProduct(a, b, columns))
			}
		}
	}
}

func TestProductsAreAssociative(t *testing.T) {
	for _, rows := range matrixSizes {
		for _, inner := range matrixSizes {
			for _, outer := range matrixSizes {
				columns := (rows + 2*inner + 3*outer) % 41
				if inner == 0 {
					outer = 0
				}
				if outer == 0 {
					columns = 0
				}
				a, b, c := sampleMatrix(rows, inner, 1), sampleMatrix(inner, outer, 2), sampleMatrix(outer, columns, 3)
				left, right := impl.MulMatrices(impl.MulMatrices(a, b), c), impl.MulMatrices(a, impl.MulMatrices(b, c))
				// Where a has no rows, the products have none either, and so no columns.
				expectMatrix(t, "products in two orders", left, right)
				if len(left) != rows || rows > 0 && impl.ColumnsOf(left) != columns {
					t.Errorf("the product has %d rows of %d components, want %d of %d", len(left), impl.ColumnsOf(left), rows, columns)
				}
			}
		}
	}
}

func TestIdentityChangesNothing(t *testing.T) {
	for rows := range 41 {
		for columns := range 41 {
			m := sampleMatrix(rows, columns, rows)
			expectMatrix(t, "identity times matrix", impl.MulMatrices(impl.Identity(rows), m), m)
			if rows > 0 {
				expectMatrix(t, "matrix times identity", impl.MulMatrices(m, impl.Identity(columns)), m)
			}
		}
		v := sampleVector(rows, 3)
		expectVector(t, "identity times vector", impl.MulMatrixVector(impl.Identity(rows), v), v)
		expectMatrix(t, "transposed identity", impl.Transpose(impl.Identity(rows)), impl.Identity(rows))
	}
}

func TestTransposedProducts(t *testing.T) {
	for _, rows := range []int{1, 2, 5, 40} {
		for _, inner := range []int{1, 3, 40} {
			for _, columns := range []int{1, 2, 7, 40} {
				a, b := sampleMatrix(rows, inner, 4), sampleMatrix(inner, columns, 5)
				want := impl.MulMatrices(impl.Transpose(b), impl.Transpose(a))
				expectMatrix(t, "transposed product", impl.Transpose(impl.MulMatrices(a, b)), want)
			}
		}
	}
}

func TestMulMatricesNeedsInnerSizes(t *testing.T) {
	for rows := 1; rows <= 4; rows++ {
		for columns := range 42 {
			for inner := range 42 {
				if inner == columns && columns <= 40 {
					continue
				}
				a, b := filledMatrix(rows, columns, 1), filledMatrix(inner, 3, 1)
				if got := impl.MulMatrices(a, b); len(got) != 0 {
					t.Errorf("MulMatrices of %d columns and %d rows = %v", columns, inner, got)
				}
			}
		}
	}
	a := [][]int{{1, 2}, {3, 4}, {0, 1}}
	if got := impl.MulMatrices(a, a); len(got) != 0 {
		t.Errorf("MulMatrices(%v, %v) = %v", a, a, got)
	}
	for rows := 1; rows <= 41; rows++ {
		if got := impl.MulMatrices(nil, filledMatrix(rows, 2, 1)); len(got) != 0 {
			t.Errorf("MulMatrices of no rows and %d rows = %v", rows, got)
		}
	}
}

// The other factor fits in size, so that only the invalid one is the reason.
func TestMulMatricesNeedsValidFactors(t *testing.T) {
	for _, m := range invalidMatrices() {
		before, after := impl.Identity(len(m)), impl.Identity(impl.ColumnsOf(m))
		factors := [][2][][]int{{before, m}, {m, after}, {m, m}, {nil, m}, {m, nil},
			{filledMatrix(1, len(m), 0), m}, {filledMatrix(3, len(m), 1), m},
			{m, filledMatrix(impl.ColumnsOf(m), 1, 0)}, {m, filledMatrix(impl.ColumnsOf(m), 0, 0)}, {m, filledMatrix(impl.ColumnsOf(m), 3, 1)}}
		for _, f := range factors {
			if got := impl.MulMatrices(f[0], f[1]); len(got) != 0 {
				t.Errorf("MulMatrices(%v, %v) = %v", f[0], f[1], got)
			}
		}
	}
}

func TestMulMatrixVector(t *testing.T) {
	a := [][]int{{1, 2}, {3, 4}, {0, 1}}
	cases := []struct {
		m       [][]int
		v, want []int
	}{
		{a, []int{10, 1}, []int{12, 34, 1}},
		{a, []int{0, 0}, []int{0, 0, 0}},
		{a, []int{1018, 1}, []int{1, 1, 1}},
		{a, []int{1, 0}, []int{1, 3, 0}},
		{a, []int{0, 1}, []int{2, 4, 1}},
		{[][]int{{2}}, []int{510}, []int{1}},
		{[][]int{{5, 7}}, []int{2, 3}, []int{31}},
		{filledMatrix(40, 40, 1018), filledVector(40, 1018), filledVector(40, 40)},
		{nil, nil, nil},
		{[][]int{}, []int{}, nil},
		{nil, []int{1}, nil},
		{[][]int{{}}, nil, []int{0}},
		{[][]int{nil, {}, nil}, []int{}, []int{0, 0, 0}},
		{filledMatrix(40, 0, 0), nil, filledVector(40, 0)},
		{[][]int{{}, {}}, []int{0}, nil},
	}
	for _, c := range cases {
		expectVector(t, "MulMatrixVector", impl.MulMatrixVector(c.m, c.v), c.want)
	}
}

func TestMulMatrixVectorOfAllSizes(t *testing.T) {
	for rows := 1; rows <= 40; rows++ {
		for columns := range 41 {
			m, v := sampleMatrix(rows, columns, 1), sampleVector(columns, rows)
			want := make([]int, rows)
			for i := range m {
				for j, x := range v {
					want[i] += m[i][j] * x
				}
				want[i] %= 1019
			}
			expectVector(t, "MulMatrixVector", impl.MulMatrixVector(m, v), want)
		}
	}
}

func TestProductsWithAVectorInTwoOrders(t *testing.T) {
	for _, rows := range matrixSizes[1:] {
		for _, inner := range matrixSizes {
			for _, columns := range matrixSizes {
				if inner == 0 {
					columns = 0
				}
				a, b, v := sampleMatrix(rows, inner, 6), sampleMatrix(inner, columns, 8), sampleVector(columns, 9)
				want := impl.MulMatrixVector(a, impl.MulMatrixVector(b, v))
				expectVector(t, "products with a vector", impl.MulMatrixVector(impl.MulMatrices(a, b), v), want)
				if len(want) != rows {
					t.Errorf("the product with a vector has %d components, want %d", len(want), rows)
				}
			}
		}
	}
}

// The second column of a Vandermonde matrix consists of its points.
func TestMulMatrixVectorAgreesWithMulMatrices(t *testing.T) {
	for rows := range 41 {
		m, v := sampleMatrix(rows, 9, 2), sampleVector(9, rows)
		column := impl.MulMatrices(m, impl.Vandermonde(v, 2))
		for i, x := range impl.MulMatrixVector(m, v) {
			if column[i][1] != x {
				t.Errorf("component %d is %d and %d", i, x, column[i][1])
			}
		}
		if impl.ColumnsOf(column) == 0 && rows > 0 {
			t.Errorf("no product of %d rows", rows)
		}
	}
}

func rejectMatrixVector(t *testing.T, m [][]int, v []int) {
	t.Helper()
	if got := impl.MulMatrixVector(m, v); len(got) != 0 {
		t.Errorf("MulMatrixVector(%v, %v) = %v", m, v, got)
	}
}

func TestMulMatrixVectorRejects(t *testing.T) {
	for columns := range 41 {
		for width := range 42 {
			if width != columns {
				rejectMatrixVector(t, filledMatrix(2, columns, 1), filledVector(width, 1))
				rejectMatrixVector(t, filledMatrix(2, columns, 0), filledVector(width, 0))
			}
		}
		if columns > 0 {
			rejectMatrixVector(t, nil, filledVector(columns, 1))
		}
	}
	for _, m := range invalidMatrices() {
		rejectMatrixVector(t, m, filledVector(impl.ColumnsOf(m), 1))
		rejectMatrixVector(t, m, filledVector(impl.ColumnsOf(m), 0))
		rejectMatrixVector(t, m, nil)
	}
	for _, v := range invalidVectors() {
		rejectMatrixVector(t, filledMatrix(3, len(v), 1), v)
		rejectMatrixVector(t, filledMatrix(1, len(v), 0), v)
		rejectMatrixVector(t, nil, v)
		rejectMatrixVector(t, [][]int{{}}, v)
		rejectMatrixVector(t, [][]int{v}, v)
	}
}

func TestVandermonde(t *testing.T) {
	cases := []struct {
		points  []int
		columns int
		want    [][]int
	}{
		{[]int{2, 3}, 3, [][]int{{1, 2, 4}, {1, 3, 9}}},
		{[]int{0}, 4, [][]int{{1, 0, 0, 0}}},
		{[]int{0, 0}, 1, [][]int{{1}, {1}}},
		{[]int{1, 1018}, 4, [][]int{{1, 1, 1, 1}, {1, 1018, 1, 1018}}},
		{[]int{7, 7, 5}, 2, [][]int{{1, 7}, {1, 7}, {1, 5}}},
		{[]int{3, 0, 3}, 3, [][]int{{1, 3, 9}, {1, 0, 0}, {1, 3, 9}}},
		{[]int{2}, 11, [][]int{{1, 2, 4, 8, 16, 32, 64, 128, 256, 512, 5}}},
		{[]int{5}, 1, [][]int{{1}}},
		{[]int{5}, 0, [][]int{{}}},
		{[]int{5, 5, 6}, 0, [][]int{{}, {}, {}}},
		{filledVector(40, 1), 40, filledMatrix(40, 40, 1)},
		{nil, 3, nil},
		{[]int{}, 40, nil},
		{nil, 0, nil},
	}
	for _, c := range cases {
		expectMatrix(t, "Vandermonde", impl.Vandermonde(c.points, c.columns), c.want)
	}
}

func TestVandermondeOfEveryPoint(t *testing.T) {
	for x := range 1019 {
		row := make([]int, 40)
		for j := range row {
			row[j] = bigPower(x, j, 1019)
		}
		for _, columns := range []int{1, 2, 3, 39, 40} {
			expectMatrix(t, "Vandermonde", impl.Vandermonde([]int{x}, columns), [][]int{row[:columns]})
		}
	}
}

func TestVandermondeOfAllSizes(t *testing.T) {
	for count := range 41 {
		for columns := range 41 {
			points := sampleVector(count, columns)
			got := impl.Vandermonde(points, columns)
			if len(got) != count {
				t.Fatalf("Vandermonde of %d points has %d rows", count, len(got))
			}
			for i, x := range points {
				expectMatrix(t, "one row of Vandermonde", got[i:i+1], impl.Vandermonde([]int{x}, columns))
			}
			if !impl.IsValidMatrix(got) || count > 0 && impl.ColumnsOf(got) != columns {
				t.Errorf("Vandermonde(%v, %d) = %v", points, columns, got)
			}
		}
	}
}

// The product with coefficients is the value of a polynomial at every point.
func TestVandermondeEvaluatesPolynomials(t *testing.T) {
	for _, columns := range []int{1, 2, 3, 20, 40} {
		points, coefficients := sampleVector(40, 4), sampleVector(columns, 6)
		want := make([]int, len(points))
		for i, x := range points {
			for j := columns - 1; j >= 0; j-- {
				want[i] = (want[i]*x + coefficients[j]) % 1019
			}
		}
		expectVector(t, "values of a polynomial", impl.MulMatrixVector(impl.Vandermonde(points, columns), coefficients), want)
	}
}

// independentRows eliminates as in school; the rows are changed.
func independentRows(m [][]int) int {
	rank := 0
	for j := range impl.ColumnsOf(m) {
		i := slices.IndexFunc(m[rank:], func(row []int) bool { return row[j] != 0 })
		if i < 0 {
			continue
		}
		m[rank], m[rank+i] = m[rank+i], m[rank]
		for k := rank + 1; k < len(m); k++ {
			factor := m[k][j] * bigPower(m[rank][j], 1017, 1019)
			for c := range m[k] {
				m[k][c] = ((m[k][c]-factor*m[rank][c])%1019 + 1019) % 1019
			}
		}
		rank++
	}
	return rank
}

func TestRowsOfDistinctPointsAreIndependent(t *testing.T) {
	for _, columns := range []int{1, 2, 3, 10, 40} {
		for first := 0; first+columns <= 1019; first += 97 {
			points := make([]int, columns)
			for i := range points {
				points[i] = first + i
			}
			if got := independentRows(impl.Vandermonde(points, columns)); got != columns {
				t.Errorf("%d of the rows of %v are independent", got, points)
			}
		}
	}
}

func TestVandermondeRejects(t *testing.T) {
	for _, columns := range []int{math.MinInt, -1 << 32, -41, -40, -2, -1, 41, 42, 80, 1 << 32, 1<<32 + 3, math.MaxInt} {
		for _, points := range [][]int{nil, {}, {0}, {1}, {2, 3}, filledVector(40, 1)} {
			if got := impl.Vandermonde(points, columns); len(got) != 0 {
				t.Errorf("Vandermonde(%v, %d) = %v", points, columns, got)
			}
		}
	}
	for _, points := range invalidVectors() {
		for _, columns := range []int{-1, 0, 1, 2, 3, 40, 41} {
			if got := impl.Vandermonde(points, columns); len(got) != 0 {
				t.Errorf("Vandermonde(%v, %d) = %v", points, columns, got)
			}
		}
	}
}

func TestEqualMatrices(t *testing.T) {
	cases := []struct {
		a, b [][]int
		want bool
	}{
		{nil, nil, true},
		{nil, [][]int{}, true},
		{[][]int{nil}, [][]int{{}}, true},
		{[][]int{nil, {1}}, [][]int{{}, {1}}, true},
		{nil, [][]int{{}}, false},
		{nil, [][]int{nil}, false},
		{[][]int{{}}, [][]int{{}, {}}, false},
		{[][]int{{}}, [][]int{{0}}, false},
		{[][]int{{1, 2}, {3, 4}}, [][]int{{1, 2}, {3, 4}}, true},
		{[][]int{{1, 2}, {3, 4}}, [][]int{{3, 4}, {1, 2}}, false},
		{[][]int{{1, 2}, {3, 4}}, [][]int{{1, 3}, {2, 4}}, false},
		{[][]int{{1, 2}, {3, 4}}, [][]int{{9, 2}, {3, 4}}, false},
		{[][]int{{1, 2}, {3, 4}}, [][]int{{1, 2}, {3, 9}}, false},
		{[][]int{{1, 2}, {3, 4}}, [][]int{{1, 2}}, false},
		{[][]int{{1, 2}, {3, 4}}, [][]int{{1, 2}, {3}}, false},
		{[][]int{{1, 2}, {3, 4}}, [][]int{{1, 2}, {3, 4}, {}}, false},
		{[][]int{{1, 2}, {3, 4}}, [][]int{{1, 2, 3, 4}}, false},
		{[][]int{{1, 2}, {3}}, [][]int{{1}, {2, 3}}, false},
		// The following are no valid matrices.
		{[][]int{{1, 2}, {3}}, [][]int{{1, 2}, {3}}, true},
		{[][]int{{-1}, {1019}}, [][]int{{-1}, {1019}}, true},
		{[][]int{{-1}}, [][]int{{1018}}, false},
		{[][]int{{1019}}, [][]int{{0}}, false},
		{[][]int{{1}}, [][]int{{1 << 32}}, false},
		{[][]int{{math.MinInt}, {math.MaxInt}}, [][]int{{math.MinInt}, {math.MaxInt}}, true},
		{filledMatrix(41, 41, 3), filledMatrix(41, 41, 3), true},
		{filledMatrix(41, 41, 3), filledMatrix(40, 41, 3), false},
		{filledMatrix(41, 41, 3), filledMatrix(41, 40, 3), false},
		{filledMatrix(100, 1, 3), withRow(filledMatrix(100, 1, 3), 99, []int{4}), false},
		{filledMatrix(1, 100, 0), [][]int{withComponent(filledVector(100, 0), 99, 1)}, false},
	}
	for _, c := range cases {
		if impl.EqualMatrices(c.a, c.b) != c.want || impl.EqualMatrices(c.b, c.a) != c.want {
			t.Errorf("EqualMatrices(%v, %v), or of the two in the other order, is not %v", c.a, c.b, c.want)
		}
	}
}

func TestEqualMatricesLooksAtEveryComponent(t *testing.T) {
	for i := range 40 {
		for j := range 40 {
			a, b := filledMatrix(40, 40, 7), filledMatrix(40, 40, 7)
			if !impl.EqualMatrices(a, b) {
				t.Error("equal matrices are not equal")
			}
			b[i][j] = 8
			if impl.EqualMatrices(a, b) || impl.EqualMatrices(b, a) {
				t.Errorf("a difference at %d, %d does not count", i, j)
			}
		}
	}
}

// matrixWithSpare returns the matrix with spare capacity behind its rows and behind each of them, and a function that tells whether anything of it has changed.
func matrixWithSpare(m [][]int) ([][]int, func() bool) {
	checks := []func() bool{}
	whole := [][]int{}
	for _, row := range append(slices.Clone(m), []int{801}, []int{802}) {
		own, changed := intsWithSpare(row)
		whole, checks = append(whole, own), append(checks, changed)
	}
	before := slices.Clone(whole)
	return whole[:len(m)], func() bool {
		sameRow := func(x, y []int) bool {
			return len(x) == len(y) && cap(x) == cap(y) && &x[:1][0] == &y[:1][0]
		}
		return !slices.EqualFunc(whole, before, sameRow) || slices.ContainsFunc(checks, func(changed func() bool) bool { return changed() })
	}
}

// matrixResults are calls that return a matrix; some of them have a result equal to an argument, or equal rows, which must be memory of their own.
var matrixResults = map[string]func(m [][]int, v []int) [][]int{
	"Identity":                       func(m [][]int, v []int) [][]int { return impl.Identity(4) },
	"Identity of 1":                  func(m [][]int, v []int) [][]int { return impl.Identity(1) },
	"Identity of 0":                  func(m [][]int, v []int) [][]int { return impl.Identity(0) },
	"Identity, rejected":             func(m [][]int, v []int) [][]int { return impl.Identity(41) },
	"Transpose":                      func(m [][]int, v []int) [][]int { return impl.Transpose(m) },
	"Transpose of the first row":     func(m [][]int, v []int) [][]int { return impl.Transpose(m[:1]) },
	"Transpose of a vector":          func(m [][]int, v []int) [][]int { return impl.Transpose([][]int{v}) },
	"Transpose of equal rows":        func(m [][]int, v []int) [][]int { return impl.Transpose([][]int{v, v, v}) },
	"Transpose of one component":     func(m [][]int, v []int) [][]int { return impl.Transpose([][]int{v[:1]}) },
	"Transpose of no rows":           func(m [][]int, v []int) [][]int { return impl.Transpose(m[:0]) },
	"Transpose, rejected":            func(m [][]int, v []int) [][]int { return impl.Transpose([][]int{v, v[:1]}) },
	"MulMatrices":                    func(m [][]int, v []int) [][]int { return impl.MulMatrices(m, m) },
	"MulMatrices, identity first":    func(m [][]int, v []int) [][]int { return impl.MulMatrices(impl.Identity(3), m) },
	"MulMatrices, identity second":   func(m [][]int, v []int) [][]int { return impl.MulMatrices(m, impl.Identity(3)) },
	"MulMatrices of equal rows":      func(m [][]int, v []int) [][]int { return impl.MulMatrices([][]int{v, v, v}, m) },
	"MulMatrices by equal rows":      func(m [][]int, v []int) [][]int { return impl.MulMatrices(m, [][]int{v, v, v}) },
	"MulMatrices of a vector":        func(m [][]int, v []int) [][]int { return impl.MulMatrices([][]int{v}, m) },
	"MulMatrices by the first row":   func(m [][]int, v []int) [][]int { return impl.MulMatrices([][]int{{1}, {1}}, m[:1]) },
	"MulMatrices, empty rows":        func(m [][]int, v []int) [][]int { return impl.MulMatrices([][]int{v[:0], v[:0]}, m[:0]) },
	"MulMatrices by empty rows":      func(m [][]int, v []int) [][]int { return impl.MulMatrices(m, [][]int{v[:0], v[:0], v[:0]}) },
	"MulMatrices, no rows":           func(m [][]int, v []int) [][]int { return impl.MulMatrices(m[:0], m[:0]) },
	"MulMatrices, rejected":          func(m [][]int, v []int) [][]int { return impl.MulMatrices(m, m[:2]) },
	"Vandermonde":                    func(m [][]int, v []int) [][]int { return impl.Vandermonde(v, 3) },
	"Vandermonde of repeated points": func(m [][]int, v []int) [][]int { return impl.Vandermonde([]int{5, 5, 5, 0}, 4) },
	"Vandermonde of one column":      func(m [][]int, v []int) [][]int { return impl.Vandermonde(v, 1) },
	"Vandermonde of no columns":      func(m [][]int, v []int) [][]int { return impl.Vandermonde(v, 0) },
	"Vandermonde of no points":       func(m [][]int, v []int) [][]int { return impl.Vandermonde(v[:0], 3) },
	"Vandermonde, rejected":          func(m [][]int, v []int) [][]int { return impl.Vandermonde(v, 41) },
}

func copyRows(m [][]int) [][]int {
	copied := [][]int{}
	for _, row := range m {
		copied = append(copied, slices.Clone(row))
	}
	return copied
}

// spoil overwrites all memory of a matrix, spare capacity included, row by row; it tells whether a row shares memory with an earlier one.
func spoil(m [][]int) bool {
	shared := false
	rows := m[:cap(m)]
	for i, row := range rows {
		all := row[:cap(row)]
		shared = shared || slices.Contains(all, -777)
		for j := range all {
			all[j] = -777
		}
		rows[i] = []int{-777}
	}
	return shared
}

func TestMatrixResultsAreNewMemory(t *testing.T) {
	expectNewMatrices(t, matrixResults)
}

func expectNewMatrices(t *testing.T, results map[string]func(m [][]int, v []int) [][]int) {
	t.Helper()
	for name, call := range results {
		m, mChanged := matrixWithSpare([][]int{{1, 2, 1018}, {0, 5, 7}, {1, 2, 1018}})
		v, vChanged := intsWithSpare([]int{3, 1, 510})
		first, second := call(m, v), call(m, v)
		if mChanged() || vChanged() {
			t.Errorf("%s changes an argument", name)
		}
		want := copyRows(second)
		if spoil(first) {
			t.Errorf("%s returns rows that share memory", name)
		}
		if mChanged() || vChanged() {
			t.Errorf("%s returns memory of an argument", name)
		}
		if !sameMatrix(second, want) || !sameMatrix(call(m, v), want) {
			t.Errorf("%s returns the same memory twice", name)
		}
	}
}

// In larger results, rows that were appended to one slice would share memory.
func TestRowsShareNoMemory(t *testing.T) {
	for _, rows := range matrixSizes {
		for _, columns := range matrixSizes {
			m := sampleMatrix(rows, columns, 1)
			results := [][][]int{impl.Identity(rows), impl.Transpose(m), impl.MulMatrices(m, impl.Identity(columns)), impl.Vandermonde(sampleVector(rows, 1), columns)}
			for i, result := range results {
				if spoil(result) {
					t.Errorf("result %d for %d rows and %d columns has rows that share memory", i, rows, columns)
				}
			}
			expectMatrix(t, "the argument afterwards", m, sampleMatrix(rows, columns, 1))
		}
	}
}

// productResults are calls of MulMatrixVector; some of them have a result equal to an argument.
var productResults = map[string]func(m [][]int, v []int) []int{
	"MulMatrixVector with a vector":           func(m [][]int, v []int) []int { return impl.MulMatrixVector(m, v) },
	"MulMatrixVector with a row":              func(m [][]int, v []int) []int { return impl.MulMatrixVector(m, m[0]) },
	"MulMatrixVector of the identity":         func(m [][]int, v []int) []int { return impl.MulMatrixVector(impl.Identity(3), v) },
	"MulMatrixVector of the identity, a row":  func(m [][]int, v []int) []int { return impl.MulMatrixVector(impl.Identity(3), m[1]) },
	"MulMatrixVector with a unit vector":      func(m [][]int, v []int) []int { return impl.MulMatrixVector(m, []int{0, 1, 0}) },
	"MulMatrixVector of one row and one unit": func(m [][]int, v []int) []int { return impl.MulMatrixVector([][]int{v[:1]}, []int{1}) },
	"MulMatrixVector of empty rows":           func(m [][]int, v []int) []int { return impl.MulMatrixVector([][]int{v[:0], v[:0]}, v[:0]) },
	"MulMatrixVector of no rows":              func(m [][]int, v []int) []int { return impl.MulMatrixVector(m[:0], v[:0]) },
	"MulMatrixVector rejected":                func(m [][]int, v []int) []int { return impl.MulMatrixVector(m, v[:2]) },
}

func TestProductsWithAVectorAreNewMemory(t *testing.T) {
	expectNewVectors(t, productResults)
}

func expectNewVectors(t *testing.T, results map[string]func(m [][]int, v []int) []int) {
	t.Helper()
	for name, call := range results {
		m, mChanged := matrixWithSpare([][]int{{1, 2, 1018}, {0, 5, 7}, {1, 2, 1018}})
		v, vChanged := intsWithSpare([]int{3, 1, 510})
		first, second := call(m, v), call(m, v)
		want := slices.Clone(second)
		if mChanged() || vChanged() {
			t.Errorf("%s changes an argument", name)
		}
		for i := range first[:cap(first)] {
			first[:cap(first)][i] = -777
		}
		if mChanged() || vChanged() {
			t.Errorf("%s returns memory of an argument", name)
		}
		if !slices.Equal(second, want) || !slices.Equal(call(m, v), want) {
			t.Errorf("%s returns the same memory twice", name)
		}
	}
}

func TestMatrixQuestionsChangeNothing(t *testing.T) {
	for _, rows := range [][][]int{{{1, 2}, {3, 4}}, {{1}, {1, 2}}, {{-1, 1019}}, {{}, {}}, {}} {
		a, aChanged := matrixWithSpare(rows)
		b, bChanged := matrixWithSpare(rows)
		impl.IsValidMatrix(a)
		impl.ColumnsOf(a)
		impl.EqualMatrices(a, b)
		impl.EqualMatrices(a, a)
		impl.EqualMatrices(a, b[:0])
		if aChanged() || bChanged() {
			t.Errorf("a question about %v changes an argument", rows)
		}
	}
}

func TestRejectedMatricesAreNotChanged(t *testing.T) {
	for _, rows := range [][][]int{{{1}, {1, 2}}, {{1, -1}, {1019, 2}}, filledMatrix(41, 2, 1), filledMatrix(2, 41, 1)} {
		m, mChanged := matrixWithSpare(rows)
		v, vChanged := intsWithSpare(rows[0])
		impl.Transpose(m)
		impl.MulMatrices(m, m)
		impl.MulMatrices(impl.Identity(len(m)), m)
		impl.MulMatrixVector(m, v)
		impl.Vandermonde(v, -1)
		if mChanged() || vChanged() {
			t.Errorf("a call that rejects %v changes it", rows)
		}
	}
}
