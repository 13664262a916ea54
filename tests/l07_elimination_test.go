package tests

import (
	"math"
	"slices"
	"testing"

	"loop.example/g00513/impl"
)

// mixedMatrix returns a valid matrix of components without a short rule; a sampleMatrix never has a rank above 3.
func mixedMatrix(rows int, columns int, seed int) [][]int {
	m := filledMatrix(rows, columns, 0)
	state := 7919*seed + 1
	for i := range m {
		for j := range m[i] {
			state = state * 48271 % 2147483647
			m[i][j] = state / 97 % 1019
		}
	}
	return m
}

// reducedMatrix returns the reduced matrix with these pivots; its other components are mixed.
func reducedMatrix(pivots []int, columns int, seed int) [][]int {
	m := mixedMatrix(len(pivots), columns, seed)
	for i, pivot := range pivots {
		for j := range pivot {
			m[i][j] = 0
		}
		for k := range m {
			m[k][pivot] = 0
		}
		m[i][pivot] = 1
	}
	return m
}

// spreads are matrices with independent columns: multiplied with a reduced matrix, they mix its rows and keep its space.
func spreads(rows int, columns int) [][][]int {
	points := make([]int, rows)
	for i := range points {
		points[i] = 37 * i % 1019
	}
	// The search for each pivot has to leave the row where it begins, and finds rows of zeros and rows that repeat.
	upsideDown := filledMatrix(rows, columns, 0)
	for i := range columns {
		upsideDown[rows-1-i][i] = 1018 - i
	}
	for i := range rows - columns {
		if columns > 0 && i%2 == 1 {
			upsideDown[i][columns/2] = i
		}
	}
	return [][][]int{impl.Vandermonde(points, columns), upsideDown}
}

// pivotChoices are columns in ascending order: all choices among few columns, and some among many.
func pivotChoices(columns int) [][]int {
	choices := [][]int{}
	for mask := range 1 << min(columns, 5) {
		choice := []int{}
		for j := range columns {
			if mask>>(j%5)&1 == 1 {
				choice = append(choice, j)
			}
		}
		choices = append(choices, choice)
	}
	if columns <= 5 {
		return choices
	}
	for _, spot := range spots(columns) {
		others := []int{}
		for j := range columns {
			if j != spot {
				others = append(others, j)
			}
		}
		choices = append(choices, []int{spot}, others)
	}
	return choices
}

// pivotsOf are the first columns that are not 0, row by row.
func pivotsOf(m [][]int) []int {
	pivots := []int{}
	for _, row := range m {
		pivots = append(pivots, slices.IndexFunc(row, func(x int) bool { return x != 0 }))
	}
	return pivots
}

// followsDefinition takes the document's words on reduced matrices one by one.
func followsDefinition(m [][]int) bool {
	pivots := pivotsOf(m)
	for i, pivot := range pivots {
		if pivot < 0 || m[i][pivot] != 1 || i > 0 && pivots[i-1] >= pivot {
			return false
		}
		for k := range m {
			if k != i && m[k][pivot] != 0 {
				return false
			}
		}
	}
	return true
}

// everyMatrix calls visit with all matrices of this size whose components are of the given ones.
func everyMatrix(rows int, columns int, components []int, visit func(m [][]int)) {
	count := 1
	for range rows * columns {
		count *= len(components)
	}
	for number := range count {
		m := filledMatrix(rows, columns, 0)
		for i := range m {
			for j := range m[i] {
				m[i][j] = components[number%len(components)]
				number /= len(components)
			}
		}
		visit(m)
	}
}

// everySmallMatrix calls visit with all matrices of up to three rows and columns with the components 0, 1 and -1 (and so their multiples in the field).
func everySmallMatrix(visit func(m [][]int)) {
	for rows := range 4 {
		for columns := range 4 {
			everyMatrix(rows, columns, []int{0, 1, 1018}, visit)
		}
	}
}

// rankOf leaves the matrix as it is.
func rankOf(m [][]int) int {
	return independentRows(copyRows(m))
}

func beside(m [][]int, b []int) [][]int {
	joined := copyRows(m)
	for i := range joined {
		joined[i] = append(joined[i], b[i])
	}
	return joined
}

// timesVector computes the document's sum with one remainder for each row.
func timesVector(m [][]int, v []int) []int {
	product := make([]int, len(m))
	for i, row := range m {
		for j, x := range row {
			product[i] += x * v[j]
		}
		product[i] %= 1019
	}
	return product
}

func TestRowReduce(t *testing.T) {
	cases := []struct{ m, want [][]int }{
		{[][]int{{2, 4, 6}, {1, 2, 3}, {0, 0, 5}}, [][]int{{1, 2, 0}, {0, 0, 1}}},
		{nil, nil},
		{[][]int{}, nil},
		{[][]int{{}}, nil},
		{[][]int{nil, {}, nil}, nil},
		{filledMatrix(40, 0, 0), nil},
		{filledMatrix(1, 1, 0), nil},
		{filledMatrix(3, 2, 0), nil},
		{filledMatrix(40, 40, 0), nil},
		{[][]int{{1}}, [][]int{{1}}},
		{[][]int{{2}}, [][]int{{1}}},
		{[][]int{{1018}, {0}, {5}}, [][]int{{1}}},
		{[][]int{{0, 0, 7}}, [][]int{{0, 0, 1}}},
		{[][]int{{2, 0, 1}}, [][]int{{1, 0, 510}}},
		{[][]int{{0, 1}, {1, 0}}, [][]int{{1, 0}, {0, 1}}},
		{[][]int{{1, 1}, {0, 2}}, [][]int{{1, 0}, {0, 1}}},
		{[][]int{{0, 3, 6}, {0, 0, 2}}, [][]int{{0, 1, 0}, {0, 0, 1}}},
		{[][]int{{3, 6, 0}, {0, 0, 2}}, [][]int{{1, 2, 0}, {0, 0, 1}}},
		{[][]int{{3, 0, 6}, {0, 2, 4}}, [][]int{{1, 0, 2}, {0, 1, 2}}},
		{[][]int{{1, 2, 3}, {1, 2, 3}, {1, 2, 3}}, [][]int{{1, 2, 3}}},
		{[][]int{{1, 2, 3}, {2, 4, 6}, {1018, 1017, 1016}}, [][]int{{1, 2, 3}}},
		{[][]int{{0, 0}, {0, 4}, {0, 0}, {0, 1}}, [][]int{{0, 1}}},
		{[][]int{{1, 2, 3}, {4, 5, 6}}, [][]int{{1, 0, 1018}, {0, 1, 2}}},
		{[][]int{{1, 4}, {2, 5}, {3, 6}}, [][]int{{1, 0}, {0, 1}}},
		{filledMatrix(40, 40, 7), filledMatrix(1, 40, 1)},
		{filledMatrix(1, 40, 1018), filledMatrix(1, 40, 1)},
		{filledMatrix(40, 1, 1018), [][]int{{1}}},
	}
	for _, c := range cases {
		expectMatrix(t, "RowReduce", impl.RowReduce(c.m), c.want)
		if got := impl.Rank(c.m); got != len(c.want) {
			t.Errorf("Rank(%v) = %d", c.m, got)
		}
	}
}

// The reduced matrix is unique, so it must come back from whatever spans its rows.
func TestRowReduceFindsTheReducedMatrix(t *testing.T) {
	for _, columns := range []int{0, 1, 2, 3, 4, 5, 6, 39, 40} {
		for seed, pivots := range pivotChoices(columns) {
			want := reducedMatrix(pivots, columns, seed)
			for _, rows := range []int{len(pivots), len(pivots) + 1, len(pivots) + 3, 40} {
				if rows > 40 {
					continue
				}
				for _, spread := range spreads(rows, len(pivots)) {
					m := expectedProduct(spread, want, columns)
					expectMatrix(t, "RowReduce", impl.RowReduce(m), want)
					if got := impl.Rank(m); got != len(pivots) {
						t.Errorf("the rank of %d rows with the pivots %v is %d", rows, pivots, got)
					}
				}
			}
			expectMatrix(t, "RowReduce of a reduced matrix", impl.RowReduce(want), want)
		}
	}
}

func TestRowReduceKeepsTheSpace(t *testing.T) {
	check := func(m [][]int) {
		got := impl.RowReduce(m)
		rank := rankOf(m)
		if !followsDefinition(got) || len(got) != rank || rankOf(slices.Concat(m, got)) != rank {
			t.Errorf("RowReduce(%v) = %v", m, got)
		}
		if impl.Rank(m) != rank {
			t.Errorf("Rank(%v) = %d, want %d", m, impl.Rank(m), rank)
		}
		if rank > 0 && impl.ColumnsOf(got) != impl.ColumnsOf(m) {
			t.Errorf("RowReduce changes the number of columns of %v", m)
		}
	}
	everySmallMatrix(check)
	for _, rows := range matrixSizes {
		for _, columns := range matrixSizes {
			check(mixedMatrix(rows, columns, rows))
			check(sampleMatrix(rows, columns, columns))
		}
	}
}

func TestRankOfTransposed(t *testing.T) {
	for _, rows := range matrixSizes {
		for _, columns := range matrixSizes {
			for rank := range min(rows, columns, 4) {
				m := expectedProduct(mixedMatrix(rows, rank, 1), mixedMatrix(rank, columns, 2), columns)
				if got := impl.Rank(m); got != rank || impl.Rank(impl.Transpose(m)) != rank {
					t.Errorf("the rank of %d rows and %d columns is %d, want %d", rows, columns, got, rank)
				}
			}
		}
	}
}

func TestIsReduced(t *testing.T) {
	cases := []struct {
		m    [][]int
		want bool
	}{
		{nil, true},
		{[][]int{}, true},
		{[][]int{{}}, false},
		{[][]int{nil}, false},
		{[][]int{{}, {}}, false},
		{[][]int{{0}}, false},
		{[][]int{{1}}, true},
		{[][]int{{2}}, false},
		{[][]int{{1018}}, false},
		{[][]int{{1}, {1}}, false},
		{[][]int{{1}, {0}}, false},
		{[][]int{{0}, {1}}, false},
		{[][]int{{1, 2, 0}, {0, 0, 1}}, true},
		{[][]int{{2, 4, 6}, {1, 2, 3}, {0, 0, 5}}, false},
		{[][]int{{1, 0, 7}, {0, 1, 9}}, true},
		{[][]int{{0, 1, 9}, {1, 0, 7}}, false},
		{[][]int{{1, 0, 7}, {0, 2, 9}}, false},
		{[][]int{{2, 0, 7}, {0, 1, 9}}, false},
		{[][]int{{1, 3, 7}, {0, 1, 9}}, false},
		{[][]int{{1, 0, 7}, {3, 1, 9}}, false},
		{[][]int{{1, 0, 7}, {0, 1, 9}, {0, 0, 0}}, false},
		{[][]int{{1, 0, 7}, {0, 0, 0}, {0, 1, 9}}, false},
		{[][]int{{0, 0, 0}, {1, 0, 7}, {0, 1, 9}}, false},
		{[][]int{{0, 1, 2, 0, 3}, {0, 0, 0, 1, 4}}, true},
		{[][]int{{0, 1, 2, 5, 3}, {0, 0, 0, 1, 4}}, false},
		{[][]int{{0, 1, 2, 0, 1018}}, true},
		{[][]int{{1, 1, 1}}, true},
		{[][]int{{1, 1, 1}, {0, 0, 1}}, false},
		{[][]int{{0, 0, 1}}, true},
		{[][]int{{1, 0}, {1, 0}}, false},
	}
	for _, c := range cases {
		if got := impl.IsReduced(c.m); got != c.want {
			t.Errorf("IsReduced(%v) = %v", c.m, got)
		}
	}
}

func TestIsReducedOfSmallMatrices(t *testing.T) {
	for rows := range 4 {
		for columns := range 4 {
			everyMatrix(rows, columns, []int{0, 1, 2}, func(m [][]int) {
				if got, want := impl.IsReduced(m), followsDefinition(m); got != want {
					t.Errorf("IsReduced(%v) = %v", m, got)
				}
				if impl.IsReduced(m) != sameMatrix(m, impl.RowReduce(m)) {
					t.Errorf("IsReduced(%v) does not agree with RowReduce", m)
				}
			})
		}
	}
}

func TestIsReducedLooksAtEveryComponent(t *testing.T) {
	for _, pivots := range pivotChoices(40) {
		m := reducedMatrix(pivots, 40, 3)
		if !impl.IsReduced(m) {
			t.Fatalf("IsReduced(%v) = false", m)
		}
		for i := range m {
			for j := range m[i] {
				changed := withRow(m, i, withComponent(m[i], j, 5))
				if got, want := impl.IsReduced(changed), followsDefinition(changed); got != want {
					t.Errorf("IsReduced(%v) = %v", changed, got)
				}
			}
		}
	}
}

func TestIsReducedLooksAtTheOrderOfRows(t *testing.T) {
	for rows := 2; rows <= 40; rows++ {
		m := impl.Identity(rows)
		for i := range rows - 1 {
			exchanged := slices.Clone(m)
			exchanged[i], exchanged[i+1] = m[i+1], m[i]
			if !impl.IsReduced(m) || impl.IsReduced(exchanged) || impl.IsReduced(withRow(m, i, m[i+1])) {
				t.Errorf("IsReduced of %d rows, exchanged at %d, is wrong", rows, i)
			}
		}
	}
}

// Components that are no elements do not become valid by being left alone.
func TestIsReducedNeedsAValidMatrix(t *testing.T) {
	reduced := [][]int{{1, 0, 7}, {0, 1, 9}}
	for _, x := range nonElements {
		for i := range reduced {
			for j := range reduced[i] {
				if m := withRow(reduced, i, withComponent(reduced[i], j, x)); impl.IsReduced(m) {
					t.Errorf("IsReduced(%v) = true", m)
				}
			}
		}
	}
	tooWide := filledMatrix(40, 41, 0)
	for i := range tooWide {
		tooWide[i][i] = 1
	}
	for _, m := range [][][]int{tooWide, {withComponent(filledVector(41, 0), 0, 1)}, {{1, 0}, {0, 1, 0}}, {{1, 0, 0}, {0, 1}}, {{1}, {0, 1}}, {{1, 0}, {0}}} {
		if impl.IsReduced(m) {
			t.Errorf("IsReduced(%v) = true", m)
		}
	}
}

// Every function has its fallback for every kind of invalid matrix, and for one whose other properties would do.
func TestEliminationRejectsInvalidMatrices(t *testing.T) {
	identity41 := filledMatrix(41, 41, 0)
	for i := range identity41 {
		identity41[i][i] = 1
	}
	invalid := append(invalidMatrices(), identity41, identity41[:1], identity41[:40], [][]int{{1019}}, [][]int{{-1}}, [][]int{{1, 0}, {0, 1020}}, [][]int{{1, 1}, {0, 1, 0}})
	for _, m := range invalid {
		if got := impl.RowReduce(m); len(got) != 0 {
			t.Errorf("RowReduce(%v) = %v", m, got)
		}
		if impl.IsReduced(m) || impl.Rank(m) != 0 || impl.Determinant(m) != 0 {
			t.Errorf("%v is reduced or has a rank or a determinant", m)
		}
		if got := impl.NullSpace(m); len(got) != 0 {
			t.Errorf("NullSpace(%v) = %v", m, got)
		}
		rejectInverse(t, m)
		rejectSystem(t, m, filledVector(len(m), 0))
		rejectSystem(t, m, filledVector(len(m), 1))
		rejectSystem(t, m, nil)
	}
}

func rejectInverse(t *testing.T, m [][]int) {
	t.Helper()
	if got, ok := impl.InvertMatrix(m); ok || len(got) != 0 {
		t.Errorf("InvertMatrix(%v) = %v, %v", m, got, ok)
	}
}

func rejectSystem(t *testing.T, m [][]int, b []int) {
	t.Helper()
	if got, ok := impl.SolveSystem(m, b); ok || len(got) != 0 {
		t.Errorf("SolveSystem(%v, %v) = %v, %v", m, b, got, ok)
	}
}

// expansion is the determinant along the first row.
func expansion(m [][]int) int {
	if len(m) == 0 {
		return 1
	}
	sum := 0
	for j, x := range m[0] {
		minor := copyRows(m[1:])
		for i := range minor {
			minor[i] = slices.Delete(minor[i], j, j+1)
		}
		sum += (1 - 2*(j%2)) * x * expansion(minor)
	}
	return (sum%1019 + 1019) % 1019
}

func TestDeterminant(t *testing.T) {
	cases := []struct {
		m    [][]int
		want int
	}{
		{nil, 1},
		{[][]int{}, 1},
		{[][]int{{}}, 0},
		{[][]int{nil}, 0},
		{[][]int{{}, {}}, 0},
		{[][]int{{0}}, 0},
		{[][]int{{1}}, 1},
		{[][]int{{1018}}, 1018},
		{[][]int{{0, 1}, {1, 0}}, 1018},
		{[][]int{{1, 2}, {3, 4}}, 1017},
		{[][]int{{3, 4}, {1, 2}}, 2},
		{[][]int{{1, 2}, {2, 4}}, 0},
		{[][]int{{5, 0}, {0, 0}}, 0},
		{[][]int{{0, 0}, {0, 5}}, 0},
		{[][]int{{2, 4, 6}, {1, 2, 3}, {0, 0, 5}}, 0},
		{[][]int{{0, 0, 2}, {0, 3, 0}, {4, 0, 0}}, 995},
		{[][]int{{0, 2, 0}, {0, 0, 3}, {4, 0, 0}}, 24},
		{[][]int{{1, 2, 3}, {1, 2, 3}, {4, 5, 6}}, 0},
		{[][]int{{1, 2}}, 0},
		{[][]int{{1}, {2}}, 0},
		{[][]int{{1, 0, 0}, {0, 1, 0}}, 0},
		{[][]int{{1, 0}, {0, 1}, {0, 0}}, 0},
		{filledMatrix(40, 40, 0), 0},
		{filledMatrix(40, 40, 1018), 0},
		{filledMatrix(40, 39, 1), 0},
		{filledMatrix(39, 40, 1), 0},
	}
	for _, c := range cases {
		if got := impl.Determinant(c.m); got != c.want {
			t.Errorf("Determinant(%v) = %d, want %d", c.m, got, c.want)
		}
	}
}

func TestDeterminantAgreesWithExpansion(t *testing.T) {
	check := func(m [][]int) {
		want := 0
		if len(m) == impl.ColumnsOf(m) {
			want = expansion(m)
		}
		if got := impl.Determinant(m); got != want {
			t.Errorf("Determinant(%v) = %d, want %d", m, got, want)
		}
	}
	everySmallMatrix(check)
	everyMatrix(4, 4, []int{0, 1}, check)
	for n := 1; n <= 6; n++ {
		for seed := range 20 {
			check(mixedMatrix(n, n, seed))
		}
	}
}

func TestDeterminantNeedsASquare(t *testing.T) {
	for rows := range 41 {
		for columns := range 41 {
			if rows == columns {
				continue
			}
			m := filledMatrix(rows, columns, 0)
			for i := range min(rows, columns) {
				m[i][i] = 1
			}
			want := 0
			if rows == 0 {
				want = 1
			}
			if got := impl.Determinant(m); got != want {
				t.Errorf("Determinant of %d rows and %d columns = %d", rows, columns, got)
			}
		}
	}
}

// triangularMatrix returns a matrix with zeros above the diagonal (or below it) and the product of its diagonal, which has no zeros.
func triangularMatrix(n int, seed int, above bool) ([][]int, int) {
	m, product := mixedMatrix(n, n, seed), 1
	for i := range m {
		for j := range m[i] {
			if i != j && above == (j > i) {
				m[i][j] = 0
			}
		}
		m[i][i] = 1 + (seed+31*i)%1018
		product = product * m[i][i] % 1019
	}
	return m, product
}

// invertibleMatrix returns a matrix of mixed components and its determinant, which is not 0.
func invertibleMatrix(n int, seed int) ([][]int, int) {
	lower, a := triangularMatrix(n, seed, true)
	upper, b := triangularMatrix(n, seed+5, false)
	m := expectedProduct(lower, upper, n)
	if n < 2 {
		return m, a * b % 1019
	}
	first := seed % n
	last := (first + 1 + seed%(n-1)) % n
	m[first], m[last] = m[last], m[first]
	return m, 1019 - a*b%1019
}

func TestDeterminantOfAllSizes(t *testing.T) {
	for n := range 41 {
		for seed := range 6 {
			for _, above := range []bool{true, false} {
				if m, want := triangularMatrix(n, seed, above); impl.Determinant(m) != want {
					t.Errorf("the determinant of a triangle of %d rows is %d, want %d", n, impl.Determinant(m), want)
				}
			}
			m, want := invertibleMatrix(n, seed)
			if got := impl.Determinant(m); got != want || impl.Determinant(impl.Transpose(m)) != want {
				t.Errorf("the determinant of %d rows is %d, want %d", n, got, want)
			}
			if n > 1 {
				m[seed%n] = slices.Clone(m[(seed+1)%n])
				if got := impl.Determinant(m); got != 0 {
					t.Errorf("with a row that repeats, the determinant of %d rows is %d", n, got)
				}
			}
		}
		if got := impl.Determinant(impl.Identity(n)); got != 1 {
			t.Errorf("the determinant of the identity of %d rows is %d", n, got)
		}
	}
}

// Upside down, a matrix of n rows has had n*(n-1)/2 exchanges of neighbors.
func TestDeterminantCountsExchanges(t *testing.T) {
	for n := range 41 {
		m := impl.Identity(n)
		slices.Reverse(m)
		want := 1
		if n*(n-1)/2%2 == 1 {
			want = 1018
		}
		if got := impl.Determinant(m); got != want {
			t.Errorf("the determinant of the identity of %d rows upside down is %d", n, got)
		}
	}
}

func TestDeterminantOfVandermonde(t *testing.T) {
	for n := range 41 {
		points, want := make([]int, n), 1
		for i := range points {
			points[i] = (n + 53*i) % 1019
			for _, x := range points[:i] {
				want = want * (points[i] - x + 1019) % 1019
			}
		}
		if got := impl.Determinant(impl.Vandermonde(points, n)); got != want {
			t.Errorf("the determinant of the powers of %v is %d, want %d", points, got, want)
		}
	}
}

func TestDeterminantOfProducts(t *testing.T) {
	for _, n := range []int{1, 2, 3, 7, 20, 40} {
		a, b := mixedMatrix(n, n, 11), mixedMatrix(n, n, 12)
		want := impl.Determinant(a) * impl.Determinant(b) % 1019
		if got := impl.Determinant(expectedProduct(a, b, n)); got != want {
			t.Errorf("the determinant of a product of %d rows is %d, want %d", n, got, want)
		}
	}
}

func expectInverse(t *testing.T, m [][]int) {
	t.Helper()
	n := len(m)
	got, ok := impl.InvertMatrix(m)
	if !ok || len(got) != n || !impl.IsValidMatrix(got) || impl.ColumnsOf(got) != n {
		t.Errorf("InvertMatrix(%v) = %v, %v", m, got, ok)
		return
	}
	identity := filledMatrix(n, n, 0)
	for i := range identity {
		identity[i][i] = 1
	}
	expectMatrix(t, "matrix times inverse", expectedProduct(m, got, n), identity)
	expectMatrix(t, "inverse times matrix", expectedProduct(got, m, n), identity)
}

func TestInvertMatrix(t *testing.T) {
	cases := []struct{ m, want [][]int }{
		{[][]int{{1, 1}, {0, 2}}, [][]int{{1, 509}, {0, 510}}},
		{[][]int{{0, 1}, {1, 0}}, [][]int{{0, 1}, {1, 0}}},
		{[][]int{{0, 2}, {1, 0}}, [][]int{{0, 1}, {510, 0}}},
		{[][]int{{1018}}, [][]int{{1018}}},
		{[][]int{{0, 1, 0}, {0, 0, 1}, {1, 0, 0}}, [][]int{{0, 0, 1}, {1, 0, 0}, {0, 1, 0}}},
		{nil, nil},
		{[][]int{}, nil},
		{impl.Identity(20), impl.Identity(20)},
	}
	for _, c := range cases {
		got, ok := impl.InvertMatrix(c.m)
		if !ok {
			t.Errorf("InvertMatrix(%v) is refused", c.m)
		}
		expectMatrix(t, "InvertMatrix", got, c.want)
	}
	for x := 1; x < 1019; x++ {
		expectInverse(t, [][]int{{x}})
	}
}

func TestInvertMatrixOfAllSizes(t *testing.T) {
	for n := range 41 {
		upsideDown := impl.Identity(n)
		slices.Reverse(upsideDown)
		matrices := [][][]int{impl.Identity(n), upsideDown}
		for seed := range 8 {
			m, _ := invertibleMatrix(n, seed)
			lower, _ := triangularMatrix(n, seed, true)
			upper, _ := triangularMatrix(n, seed, false)
			matrices = append(matrices, m, lower, upper)
		}
		for _, m := range matrices {
			if n <= 20 {
				expectInverse(t, m)
			} else {
				rejectInverse(t, m)
			}
		}
	}
}

func TestInvertMatrixNeedsADeterminant(t *testing.T) {
	everySmallMatrix(func(m [][]int) {
		if len(m) == impl.ColumnsOf(m) && expansion(m) != 0 {
			expectInverse(t, m)
		} else if len(m) > 0 {
			rejectInverse(t, m)
		}
	})
	for n := 1; n <= 20; n++ {
		rejectInverse(t, filledMatrix(n, n, 0))
		for _, j := range spots(n) {
			identity := impl.Identity(n)
			rejectInverse(t, withRow(identity, j, filledVector(n, 0)))
			if n > 1 {
				rejectInverse(t, withRow(identity, j, identity[(j+1)%n]))
			}
			// The rows add up to 0.
			m, _ := invertibleMatrix(n, j)
			for k := range n {
				sum := 0
				for i := range n {
					if i != j {
						sum += m[i][k]
					}
				}
				m[j][k] = (1019 - sum%1019) % 1019
			}
			rejectInverse(t, m)
		}
	}
}

func TestInvertMatrixNeedsASquare(t *testing.T) {
	for rows := 1; rows <= 41; rows++ {
		for columns := range 42 {
			if rows == columns {
				continue
			}
			m := filledMatrix(rows, columns, 0)
			for i := range min(rows, columns) {
				m[i][i] = 1
			}
			rejectInverse(t, m)
		}
	}
}

func expectSolution(t *testing.T, m [][]int, b []int, want []int) {
	t.Helper()
	if got, ok := impl.SolveSystem(m, b); !ok || !slices.Equal(got, want) {
		t.Errorf("SolveSystem(%v, %v) = %v, %v, want %v", m, b, got, ok, want)
	}
}

func TestSolveSystem(t *testing.T) {
	m := [][]int{{2, 4, 6}, {1, 2, 3}, {0, 0, 5}}
	cases := []struct {
		m       [][]int
		b, want []int
	}{
		{m, []int{12, 6, 10}, []int{0, 0, 2}},
		{m, []int{0, 0, 0}, []int{0, 0, 0}},
		{m, []int{2, 1, 0}, []int{1, 0, 0}},
		{[][]int{{2}}, []int{1}, []int{510}},
		{[][]int{{0}}, []int{0}, []int{0}},
		{[][]int{{0, 3}}, []int{6}, []int{0, 2}},
		{[][]int{{3, 3}}, []int{6}, []int{2, 0}},
		{[][]int{{1}, {2}, {3}}, []int{5, 10, 15}, []int{5}},
		{[][]int{{1, 1}, {1, 1018}}, []int{10, 4}, []int{7, 3}},
		{nil, nil, nil},
		{[][]int{}, []int{}, nil},
		{[][]int{{}}, []int{0}, nil},
		{[][]int{nil, {}, nil}, []int{0, 0, 0}, nil},
		{filledMatrix(40, 0, 0), filledVector(40, 0), nil},
		{filledMatrix(40, 39, 0), filledVector(40, 0), filledVector(39, 0)},
		{filledMatrix(40, 39, 1), filledVector(40, 1018), withComponent(filledVector(39, 0), 0, 1018)},
		{filledMatrix(1, 39, 2), []int{1}, withComponent(filledVector(39, 0), 0, 510)},
	}
	for _, c := range cases {
		expectSolution(t, c.m, c.b, c.want)
	}
}

func TestSolveSystemWithoutSolution(t *testing.T) {
	m := [][]int{{2, 4, 6}, {1, 2, 3}, {0, 0, 5}}
	cases := []struct {
		m [][]int
		b []int
	}{
		{m, []int{1, 1, 0}},
		{m, []int{12, 7, 10}},
		{m, []int{1018, 0, 0}},
		{[][]int{{0}}, []int{1}},
		{[][]int{{0, 0}, {0, 0}}, []int{0, 5}},
		{[][]int{{1}, {1}}, []int{1, 2}},
		{[][]int{{1, 0}, {0, 1}, {1, 1}}, []int{1, 1, 1}},
		{[][]int{{}}, []int{1}},
		{[][]int{{}, nil, {}}, []int{0, 0, 1018}},
		{filledMatrix(40, 0, 0), withComponent(filledVector(40, 0), 39, 1)},
		{filledMatrix(40, 39, 0), withComponent(filledVector(40, 0), 39, 1)},
		{filledMatrix(40, 39, 1), withComponent(filledVector(40, 1), 0, 2)},
	}
	for _, c := range cases {
		rejectSystem(t, c.m, c.b)
	}
}

// A system has a solution if and only if the right side adds nothing to the space of the columns.
func TestSolveSystemOfSmallMatrices(t *testing.T) {
	for rows := range 4 {
		for columns := range 4 {
			everyMatrix(rows, columns, smallComponents(columns), func(m [][]int) {
				everyMatrix(1, rows, []int{0, 1, 1018}, func(right [][]int) { checkSystem(t, m, right[0]) })
			})
		}
	}
}

// smallComponents are fewer for three columns, so that the matrices stay few.
func smallComponents(columns int) []int {
	if columns < 3 {
		return []int{0, 1, 2}
	}
	return []int{0, 1}
}

func checkSystem(t *testing.T, m [][]int, b []int) {
	t.Helper()
	if rankOf(beside(m, b)) != rankOf(m) {
		rejectSystem(t, m, b)
		return
	}
	x, ok := impl.SolveSystem(m, b)
	if !ok || len(x) != impl.ColumnsOf(m) || !slices.Equal(timesVector(m, x), b) {
		t.Errorf("SolveSystem(%v, %v) = %v, %v", m, b, x, ok)
		return
	}
	pivots := pivotsOf(impl.RowReduce(m))
	for j, component := range x {
		if component != 0 && !slices.Contains(pivots, j) {
			t.Errorf("SolveSystem(%v, %v) = %v uses a column without a pivot", m, b, x)
		}
	}
}

func TestSolveSystemFindsTheSolution(t *testing.T) {
	for _, columns := range []int{0, 1, 2, 3, 4, 5, 6, 38, 39} {
		for seed, pivots := range pivotChoices(columns) {
			// Components in the columns without a pivot are 0, so the solution is the only one of its kind.
			want := filledVector(columns, 0)
			for i, pivot := range pivots {
				want[pivot] = (seed + 313*i) % 1019
			}
			for _, rows := range []int{len(pivots), len(pivots) + 1, len(pivots) + 3, 40} {
				if rows == 0 || rows > 40 {
					continue
				}
				for _, spread := range spreads(rows, len(pivots)) {
					m := expectedProduct(spread, reducedMatrix(pivots, columns, seed), columns)
					b := timesVector(m, want)
					expectSolution(t, m, b, want)
					if rows > len(pivots) {
						rejectSystem(t, m, unreachable(m, b))
					}
				}
			}
		}
	}
}

// unreachable changes b in one component so that no combination of the columns gives it; the matrix has more rows than its rank.
func unreachable(m [][]int, b []int) []int {
	rank := rankOf(m)
	for i, x := range b {
		if changed := withComponent(b, i, (x+1)%1019); rankOf(beside(m, changed)) > rank {
			return changed
		}
	}
	return nil
}

func TestSolveSystemLimitsColumns(t *testing.T) {
	for rows := 1; rows <= 40; rows++ {
		m, b := mixedMatrix(rows, 40, rows), filledVector(rows, 1)
		rejectSystem(t, m, b)
		rejectSystem(t, m, filledVector(rows, 0))
		rejectSystem(t, filledMatrix(rows, 40, 0), filledVector(rows, 0))
		rejectSystem(t, filledMatrix(rows, 41, 0), filledVector(rows, 0))
		narrower, want := filledMatrix(rows, 39, 0), filledVector(39, 0)
		for i := range rows {
			narrower[i][(38+i)%39] = 1
			want[(38+i)%39] = 1
		}
		expectSolution(t, narrower, b, want)
	}
}

func TestSolveSystemNeedsARightSide(t *testing.T) {
	for rows := range 41 {
		for length := range 42 {
			if length != rows {
				rejectSystem(t, filledMatrix(rows, 2, 1), filledVector(length, 1))
				rejectSystem(t, filledMatrix(rows, 2, 1), filledVector(length, 0))
				rejectSystem(t, filledMatrix(rows, 0, 0), filledVector(length, 0))
			}
		}
	}
	for _, b := range invalidVectors() {
		rejectSystem(t, impl.Identity(len(b)), b)
		rejectSystem(t, filledMatrix(len(b), 2, 1), b)
		rejectSystem(t, filledMatrix(len(b), 0, 0), b)
		rejectSystem(t, filledMatrix(3, 3, 0), b)
		rejectSystem(t, nil, b)
	}
	for _, x := range []int{-1, 1019, math.MinInt, math.MaxInt} {
		for i := range 3 {
			rejectSystem(t, impl.Identity(3), withComponent([]int{1, 2, 3}, i, x))
		}
	}
}

func TestNullSpace(t *testing.T) {
	cases := []struct{ m, want [][]int }{
		{[][]int{{1, 2}}, [][]int{{1017, 1}}},
		{nil, nil},
		{[][]int{}, nil},
		{[][]int{{}}, nil},
		{[][]int{nil, {}}, nil},
		{[][]int{{0}}, [][]int{{1}}},
		{[][]int{{5}}, nil},
		{[][]int{{0, 1}}, [][]int{{1, 0}}},
		{[][]int{{0, 0, 4}}, [][]int{{1, 0, 0}, {0, 1, 0}}},
		{[][]int{{0, 4, 0}}, [][]int{{1, 0, 0}, {0, 0, 1}}},
		{[][]int{{2, 4, 6}, {1, 2, 3}, {0, 0, 5}}, [][]int{{1017, 1, 0}}},
		{[][]int{{1, 2, 3}, {4, 5, 6}}, [][]int{{1, 1017, 1}}},
		{[][]int{{1}, {2}, {3}}, nil},
		{[][]int{{0, 1, 7, 0, 9}, {0, 0, 0, 1, 11}}, [][]int{{1, 0, 0, 0, 0}, {0, 1012, 1, 0, 0}, {0, 1010, 0, 1008, 1}}},
		{filledMatrix(3, 4, 0), impl.Identity(4)},
		{filledMatrix(40, 40, 0), impl.Identity(40)},
		{impl.Identity(40), nil},
		{filledMatrix(40, 1, 0), [][]int{{1}}},
	}
	for _, c := range cases {
		expectMatrix(t, "NullSpace", impl.NullSpace(c.m), c.want)
	}
}

// expectNullSpace compares with the document's words: there is only one vector for each column.
func expectNullSpace(t *testing.T, m [][]int, pivots []int) {
	t.Helper()
	columns := impl.ColumnsOf(m)
	got := impl.NullSpace(m)
	free := []int{}
	for j := range columns {
		if !slices.Contains(pivots, j) {
			free = append(free, j)
		}
	}
	if len(got) != len(free) || !impl.IsValidMatrix(got) {
		t.Errorf("NullSpace(%v) = %v, with the pivots %v", m, got, pivots)
		return
	}
	for i, x := range got {
		if len(x) != columns || !slices.Equal(timesVector(m, x), filledVector(len(m), 0)) {
			t.Errorf("NullSpace(%v) contains %v", m, x)
			continue
		}
		for k, j := range free {
			if k == i && x[j] != 1 || k != i && x[j] != 0 {
				t.Errorf("component %d of vector %d of NullSpace(%v) is %d", j, i, m, x[j])
			}
		}
		for _, row := range m {
			if impl.DotProduct(row, x) != 0 {
				t.Errorf("NullSpace(%v) contains %v, which is not orthogonal", m, x)
			}
		}
	}
}

func TestNullSpaceOfEveryChoiceOfPivots(t *testing.T) {
	for _, columns := range []int{1, 2, 3, 4, 5, 6, 39, 40} {
		for seed, pivots := range pivotChoices(columns) {
			for _, rows := range []int{len(pivots), len(pivots) + 1, len(pivots) + 3, 40} {
				// Without rows, there are no columns.
				if rows == 0 || rows > 40 {
					continue
				}
				for _, spread := range spreads(rows, len(pivots)) {
					m := expectedProduct(spread, reducedMatrix(pivots, columns, seed), columns)
					expectNullSpace(t, m, pivots)
				}
			}
		}
	}
}

func TestNullSpaceOfSmallMatrices(t *testing.T) {
	everySmallMatrix(func(m [][]int) {
		expectNullSpace(t, m, pivotsOf(impl.RowReduce(m)))
	})
}

func TestNullSpaceAndRankAddUp(t *testing.T) {
	for _, rows := range matrixSizes[1:] {
		for _, columns := range matrixSizes {
			for _, m := range [][][]int{mixedMatrix(rows, columns, 3), sampleMatrix(rows, columns, 3)} {
				null := impl.NullSpace(m)
				if impl.Rank(m)+len(null) != columns || impl.Rank(null) != len(null) {
					t.Errorf("the rank is %d, and the null space has %d vectors, for %d columns", impl.Rank(m), len(null), columns)
				}
				// What is orthogonal to the null space is the space of the rows.
				if len(null) > 0 {
					expectMatrix(t, "RowReduce of the second null space", impl.RowReduce(impl.NullSpace(null)), impl.RowReduce(m))
				}
			}
		}
	}
}

func inverseOf(m [][]int) [][]int {
	inverse, _ := impl.InvertMatrix(m)
	return inverse
}

func solutionOf(m [][]int, b []int) []int {
	solution, _ := impl.SolveSystem(m, b)
	return solution
}

// eliminationResults are calls that return a matrix; some of them have a result equal to an argument, which must be memory of its own.
var eliminationResults = map[string]func(m [][]int, v []int) [][]int{
	"RowReduce":                       func(m [][]int, v []int) [][]int { return impl.RowReduce(m) },
	"RowReduce with an exchange":      func(m [][]int, v []int) [][]int { return impl.RowReduce([][]int{m[1], m[2], v}) },
	"RowReduce of a reduced row":      func(m [][]int, v []int) [][]int { return impl.RowReduce(m[:1]) },
	"RowReduce of reduced rows":       func(m [][]int, v []int) [][]int { return impl.RowReduce([][]int{{1, 0, 3}, {0, 1, 4}}) },
	"RowReduce of equal rows":         func(m [][]int, v []int) [][]int { return impl.RowReduce([][]int{v, v, v}) },
	"RowReduce of zeros":              func(m [][]int, v []int) [][]int { return impl.RowReduce([][]int{m[1][:1], m[1][:1]}) },
	"RowReduce of empty rows":         func(m [][]int, v []int) [][]int { return impl.RowReduce([][]int{v[:0], m[0][:0]}) },
	"RowReduce of no rows":            func(m [][]int, v []int) [][]int { return impl.RowReduce(m[:0]) },
	"RowReduce, rejected":             func(m [][]int, v []int) [][]int { return impl.RowReduce([][]int{v, v[:1]}) },
	"InvertMatrix":                    func(m [][]int, v []int) [][]int { return inverseOf([][]int{m[0], m[1], v}) },
	"InvertMatrix of one component":   func(m [][]int, v []int) [][]int { return inverseOf([][]int{v[1:2]}) },
	"InvertMatrix of the identity":    func(m [][]int, v []int) [][]int { return inverseOf([][]int{{1, 0}, {0, 1}}) },
	"InvertMatrix of no rows":         func(m [][]int, v []int) [][]int { return inverseOf(m[:0]) },
	"InvertMatrix without an inverse": func(m [][]int, v []int) [][]int { return inverseOf(m) },
	"InvertMatrix, rejected":          func(m [][]int, v []int) [][]int { return inverseOf(m[:2]) },
	"NullSpace":                       func(m [][]int, v []int) [][]int { return impl.NullSpace(m) },
	"NullSpace of a row":              func(m [][]int, v []int) [][]int { return impl.NullSpace([][]int{v}) },
	"NullSpace of zeros":              func(m [][]int, v []int) [][]int { return impl.NullSpace([][]int{{0, 0, 0}}) },
	"NullSpace of its own vector":     func(m [][]int, v []int) [][]int { return impl.NullSpace([][]int{{0, 1}}) },
	"NullSpace without vectors":       func(m [][]int, v []int) [][]int { return impl.NullSpace([][]int{m[0], m[1], v}) },
	"NullSpace of empty rows":         func(m [][]int, v []int) [][]int { return impl.NullSpace([][]int{v[:0]}) },
	"NullSpace of no rows":            func(m [][]int, v []int) [][]int { return impl.NullSpace(m[:0]) },
	"NullSpace, rejected":             func(m [][]int, v []int) [][]int { return impl.NullSpace([][]int{v, v[:1]}) },
}

func TestEliminationResultsAreNewMemory(t *testing.T) {
	expectNewMatrices(t, eliminationResults)
}

// solutionResults are calls of SolveSystem; some of them have a solution equal to the right side.
var solutionResults = map[string]func(m [][]int, v []int) []int{
	"SolveSystem":                    func(m [][]int, v []int) []int { return solutionOf([][]int{m[0], m[1], {0, 0, 1}}, v) },
	"SolveSystem of the identity":    func(m [][]int, v []int) []int { return solutionOf(impl.Identity(3), v) },
	"SolveSystem of its own row":     func(m [][]int, v []int) []int { return solutionOf(impl.Identity(3), m[0]) },
	"SolveSystem of one component":   func(m [][]int, v []int) []int { return solutionOf([][]int{{1}}, v[:1]) },
	"SolveSystem of empty rows":      func(m [][]int, v []int) []int { return solutionOf([][]int{v[:0]}, m[1][:1]) },
	"SolveSystem of no rows":         func(m [][]int, v []int) []int { return solutionOf(m[:0], v[:0]) },
	"SolveSystem without a solution": func(m [][]int, v []int) []int { return solutionOf(m, v) },
	"SolveSystem, rejected":          func(m [][]int, v []int) []int { return solutionOf(m, v[:2]) },
}

func TestSolutionsAreNewMemory(t *testing.T) {
	expectNewVectors(t, solutionResults)
}

// In larger results, rows that were taken from one slice would share memory.
func TestRowsOfEliminationShareNoMemory(t *testing.T) {
	for _, rows := range matrixSizes {
		for _, columns := range matrixSizes {
			m := mixedMatrix(rows, columns, 1)
			square, _ := invertibleMatrix(min(rows, 20), columns)
			for i, result := range [][][]int{impl.RowReduce(m), impl.NullSpace(m), inverseOf(square)} {
				if spoil(result) {
					t.Errorf("result %d for %d rows and %d columns has rows that share memory", i, rows, columns)
				}
			}
			expectMatrix(t, "the argument afterwards", m, mixedMatrix(rows, columns, 1))
		}
	}
}

func TestEliminationChangesNoArgument(t *testing.T) {
	singular := [][]int{{0, 2, 4}, {0, 1, 2}, {3, 0, 5}}
	for _, rows := range [][][]int{singular, {{0, 1}, {1, 0}}, {{1, 0}, {0, 1}}, {{2, 3, 4}}, {{0}, {5}}, {{}, {}}, {}, {{1}, {1, 2}}, {{1, -1}, {1019, 2}}, filledMatrix(41, 2, 1), filledMatrix(2, 41, 1), mixedMatrix(40, 40, 1)} {
		m, mChanged := matrixWithSpare(rows)
		b, bChanged := intsWithSpare(filledVector(len(rows), 2))
		impl.RowReduce(m)
		impl.IsReduced(m)
		impl.Rank(m)
		impl.Determinant(m)
		impl.InvertMatrix(m)
		impl.SolveSystem(m, b)
		impl.SolveSystem(m, b[:0])
		impl.NullSpace(m)
		if mChanged() || bChanged() {
			t.Errorf("a call with %v changes an argument", rows)
		}
	}
}
