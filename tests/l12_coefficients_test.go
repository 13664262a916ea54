package tests

import (
	"bytes"
	"math"
	"slices"
	"testing"

	"loop.example/g00513/impl"
)

// vectorForms are the two encodings, each beside one that is computed without the package.
var vectorForms = []struct {
	name   string
	encode func(v []int) []byte
	want   func(v []int) []byte
}{
	{"EncodeDense", impl.EncodeDense, func(v []int) []byte { return varints(denseNumbers(v)...) }},
	{"EncodeSparse", impl.EncodeSparse, func(v []int) []byte { return varints(sparseNumbers(v)...) }},
}

func denseNumbers(v []int) []int {
	return slices.Concat([]int{0, len(v)}, v)
}

func sparseNumbers(v []int) []int {
	pairs := []int{}
	last := -1
	for i, x := range v {
		if x != 0 {
			pairs = append(pairs, i-last-1, x)
			last = i
		}
	}
	return slices.Concat([]int{1, len(v), len(pairs) / 2}, pairs)
}

func shorterEncoding(v []int) []byte {
	dense, sparse := varints(denseNumbers(v)...), varints(sparseNumbers(v)...)
	if len(sparse) < len(dense) {
		return sparse
	}
	return dense
}

// coefficientVectors are valid ones of all lengths: without zeros, of zeros alone, and with zeros at the beginning, in the middle and at the end.
func coefficientVectors() [][]int {
	vectors := [][]int{}
	for width := range 41 {
		vectors = append(vectors,
			filledVector(width, 0), filledVector(width, 1), filledVector(width, 127), filledVector(width, 128), filledVector(width, 1018),
			sampleVector(width, width+1))
		for start := 0; start < width; start += 1 + width/6 {
			for end := start + 1; end <= width; end += 1 + width/6 {
				inside, outside := filledVector(width, 0), sampleNonzero(width, start+end)
				copy(inside[start:end], sampleNonzero(end-start, end))
				clear(outside[start:end])
				vectors = append(vectors, inside, outside)
			}
		}
		for step := 2; step <= 5; step++ {
			v := filledVector(width, 0)
			for i := width % step; i < width; i += step {
				v[i] = 1 + (i*389+step)%1018
			}
			vectors = append(vectors, v)
		}
	}
	return vectors
}

// fewCoefficientVectors are those of some lengths, for tests that take many steps for each one.
func fewCoefficientVectors() [][]int {
	return slices.DeleteFunc(coefficientVectors(), func(v []int) bool { return !slices.Contains([]int{0, 1, 2, 3, 4, 7, 16, 40}, len(v)) })
}

func sampleNonzero(width int, seed int) []int {
	v := sampleVector(width, seed)
	for i, x := range v {
		if x == 0 {
			v[i] = 1018
		}
	}
	return v
}

func expectCoefficients(t *testing.T, what string, b []byte, want []int) {
	t.Helper()
	if got, ok := impl.DecodeCoefficients(b); !ok || !slices.Equal(got, want) {
		t.Errorf("%s: DecodeCoefficients(%v) = %v, %v, want %v, true", what, b, got, ok, want)
	}
}

func rejectCoefficients(t *testing.T, what string, b []byte) {
	t.Helper()
	if got, ok := impl.DecodeCoefficients(b); ok || len(got) != 0 {
		t.Errorf("%s: DecodeCoefficients(%v) = %v, %v, want none, false", what, b, got, ok)
	}
}

func TestCountNonzero(t *testing.T) {
	cases := []struct {
		v    []int
		want int
	}{
		{nil, 0},
		{[]int{}, 0},
		{[]int{0}, 0},
		{[]int{1}, 1},
		{[]int{1018}, 1},
		{[]int{0, 0, 0, 0, 9, 0, 0, 0}, 1},
		{[]int{300, 2}, 2},
		{[]int{0, 3, 0, 3}, 2},
		{[]int{3, 0, 3, 0}, 2},
		{[]int{-1}, 1},
		{[]int{1019}, 1},
		{[]int{1019, 0, -1019}, 2},
		{[]int{math.MinInt, 0, math.MaxInt, 1 << 32}, 3},
		{[]int{-1, 1}, 2},
		{filledVector(41, 0), 0},
		{filledVector(41, 7), 41},
		{filledVector(5000, -3), 5000},
		{filledVector(5000, 0), 0},
	}
	for _, c := range cases {
		if got := impl.CountNonzero(c.v); got != c.want {
			t.Errorf("CountNonzero(%v) = %d, want %d", c.v, got, c.want)
		}
	}
}

func TestDensityPercent(t *testing.T) {
	cases := []struct {
		v    []int
		want int
	}{
		{nil, 0},
		{[]int{}, 0},
		{[]int{0}, 0},
		{[]int{1}, 100},
		{[]int{-5}, 100},
		{[]int{0, 0, 0, 0, 9, 0, 0, 0}, 13},
		{[]int{300, 2}, 100},
		{[]int{300, 0}, 50},
		{[]int{0, 0, 1}, 34},
		{[]int{1, 0, 1}, 67},
		{[]int{1019, 0, 0, math.MinInt}, 50},
		{withComponent(filledVector(100, 0), 99, 1), 1},
		{withComponent(filledVector(101, 0), 0, 1), 1},
		{withComponent(filledVector(99, 0), 0, 1), 2},
		{withComponent(filledVector(5000, 0), 7, 1), 1},
		{withComponent(filledVector(5000, 1), 7, 0), 100},
		{filledVector(41, 0), 0},
		{filledVector(41, 1), 100},
	}
	for _, c := range cases {
		if got := impl.DensityPercent(c.v); got != c.want {
			t.Errorf("DensityPercent(%v) = %d, want %d", c.v, got, c.want)
		}
	}
}

// Wherever the nonzero components are and whatever they are, valid or not, only their number counts.
func TestCountsOfAllDensities(t *testing.T) {
	for width := range 45 {
		for count := range width + 1 {
			want := 0
			for want*width < 100*count {
				want++
			}
			for k, x := range append([]int{1, 2, 1018}, nonElements...) {
				v := filledVector(width, 0)
				for i := range count {
					v[(i+k)%width] = x
				}
				if impl.CountNonzero(v) != count || impl.DensityPercent(v) != want {
					t.Errorf("%v has %d nonzero components and the density %d, want %d and %d", v, impl.CountNonzero(v), impl.DensityPercent(v), count, want)
				}
			}
		}
	}
}

func TestEncodingsInBothForms(t *testing.T) {
	cases := []struct {
		v      []int
		dense  []byte
		sparse []byte
	}{
		{nil, []byte{0, 0}, []byte{1, 0, 0}},
		{[]int{}, []byte{0, 0}, []byte{1, 0, 0}},
		{[]int{0}, []byte{0, 1, 0}, []byte{1, 1, 0}},
		{[]int{1}, []byte{0, 1, 1}, []byte{1, 1, 1, 0, 1}},
		{[]int{1018}, []byte{0, 1, 250, 7}, []byte{1, 1, 1, 0, 250, 7}},
		{[]int{0, 0}, []byte{0, 2, 0, 0}, []byte{1, 2, 0}},
		{[]int{300, 2}, []byte{0, 2, 172, 2, 2}, []byte{1, 2, 2, 0, 172, 2, 0, 2}},
		{[]int{5, 0, 0}, []byte{0, 3, 5, 0, 0}, []byte{1, 3, 1, 0, 5}},
		{[]int{0, 5, 0}, []byte{0, 3, 0, 5, 0}, []byte{1, 3, 1, 1, 5}},
		{[]int{0, 0, 5}, []byte{0, 3, 0, 0, 5}, []byte{1, 3, 1, 2, 5}},
		{[]int{7, 0, 128}, []byte{0, 3, 7, 0, 128, 1}, []byte{1, 3, 2, 0, 7, 1, 128, 1}},
		{[]int{0, 1, 2, 0, 0, 3}, []byte{0, 6, 0, 1, 2, 0, 0, 3}, []byte{1, 6, 3, 1, 1, 0, 2, 2, 3}},
		{[]int{0, 0, 0, 0, 9, 0, 0, 0}, []byte{0, 8, 0, 0, 0, 0, 9, 0, 0, 0}, []byte{1, 8, 1, 4, 9}},
		{filledVector(40, 0), append([]byte{0, 40}, make([]byte, 40)...), []byte{1, 40, 0}},
		{withComponent(filledVector(40, 0), 39, 127), slices.Concat([]byte{0, 40}, make([]byte, 39), []byte{127}), []byte{1, 40, 1, 39, 127}},
		{filledVector(40, 3), append([]byte{0, 40}, bytes.Repeat([]byte{3}, 40)...), append([]byte{1, 40, 40}, bytes.Repeat([]byte{0, 3}, 40)...)},
	}
	for _, c := range cases {
		if got := impl.EncodeDense(c.v); !bytes.Equal(got, c.dense) {
			t.Errorf("EncodeDense(%v) = %v, want %v", c.v, got, c.dense)
		}
		if got := impl.EncodeSparse(c.v); !bytes.Equal(got, c.sparse) {
			t.Errorf("EncodeSparse(%v) = %v, want %v", c.v, got, c.sparse)
		}
		expectCoefficients(t, "dense", c.dense, c.v)
		expectCoefficients(t, "sparse", c.sparse, c.v)
	}
}

func TestForms(t *testing.T) {
	if impl.DenseForm != 0 || impl.SparseForm != 1 {
		t.Errorf("the forms are %d and %d", impl.DenseForm, impl.SparseForm)
	}
}

func TestEncodeCoefficientsTakesTheShorterForm(t *testing.T) {
	cases := []struct {
		v    []int
		want []byte
	}{
		{nil, []byte{0, 0}},
		{[]int{0}, []byte{0, 1, 0}},
		{[]int{4}, []byte{0, 1, 4}},
		{[]int{0, 0}, []byte{1, 2, 0}},
		{[]int{0, 4}, []byte{0, 2, 0, 4}},
		{[]int{0, 0, 4}, []byte{0, 3, 0, 0, 4}},
		{[]int{4, 0, 0}, []byte{0, 3, 4, 0, 0}},
		{[]int{0, 300, 0}, []byte{0, 3, 0, 172, 2, 0}},
		{[]int{0, 0, 0, 4}, []byte{1, 4, 1, 3, 4}},
		{[]int{4, 0, 0, 0}, []byte{1, 4, 1, 0, 4}},
		{[]int{300, 0, 300, 0, 0}, []byte{0, 5, 172, 2, 0, 172, 2, 0, 0}},
		{[]int{300, 0, 300, 0, 0, 0}, []byte{1, 6, 2, 0, 172, 2, 1, 172, 2}},
		{[]int{300, 2}, []byte{0, 2, 172, 2, 2}},
		{[]int{0, 0, 0, 0, 9, 0, 0, 0}, []byte{1, 8, 1, 4, 9}},
	}
	for _, c := range cases {
		if got := impl.EncodeCoefficients(c.v); !bytes.Equal(got, c.want) {
			t.Errorf("EncodeCoefficients(%v) = %v, want %v", c.v, got, c.want)
		}
		if got := impl.EncodedSize(c.v); got != len(c.want) {
			t.Errorf("EncodedSize(%v) = %d, want %d", c.v, got, len(c.want))
		}
	}
}

func checkVectorForms(t *testing.T, v []int) {
	t.Helper()
	for _, form := range vectorForms {
		want := form.want(v)
		if got := form.encode(v); !bytes.Equal(got, want) {
			t.Errorf("%s(%v) = %v, want %v", form.name, v, got, want)
		}
		expectCoefficients(t, form.name, want, v)
	}
	want := shorterEncoding(v)
	if got := impl.EncodeCoefficients(v); !bytes.Equal(got, want) || impl.EncodedSize(v) != len(want) {
		t.Errorf("EncodeCoefficients(%v) = %v, where EncodedSize is %d, want %v", v, got, impl.EncodedSize(v), want)
	}
}

func TestBothFormsOfAllLengths(t *testing.T) {
	for _, v := range coefficientVectors() {
		checkVectorForms(t, v)
	}
}

func TestBothFormsOfSmallVectors(t *testing.T) {
	for width := range 7 {
		everySmallVector(width, func(v []int) { checkVectorForms(t, v) })
	}
	for width := range 11 {
		everyMatrix(1, width, []int{0, 300}, func(m [][]int) { checkVectorForms(t, m[0]) })
	}
}

func TestBothFormsOfAllComponents(t *testing.T) {
	for x := range 1019 {
		for _, v := range [][]int{{x}, {0, x, 0}, {x, x}, {1018 - x, 0, 0, x}, withComponent(filledVector(40, 0), 39, x)} {
			checkVectorForms(t, v)
		}
	}
}

// One component at each place of each length, and two of them.
func TestBothFormsOfAllPlaces(t *testing.T) {
	for width := range 41 {
		for i := range width {
			v := withComponent(filledVector(width, 0), i, 500)
			checkVectorForms(t, v)
			for j := i + 1; j < width; j++ {
				checkVectorForms(t, withComponent(v, j, 1+i+j))
			}
		}
	}
}

func TestInvalidVectorsHaveNoEncoding(t *testing.T) {
	vectors := append(invalidVectors(), filledVector(41, 1018), withComponent(filledVector(41, 0), 40, 1))
	for _, x := range nonElements {
		vectors = append(vectors, []int{0, x}, []int{x, 0}, filledVector(40, x), []int{x, -x})
		for i := range 40 {
			vectors = append(vectors, withComponent(filledVector(40, 0), i, x), withComponent(filledVector(40, 1), i, x))
		}
	}
	for _, v := range vectors {
		if got := impl.EncodeDense(v); len(got) != 0 {
			t.Errorf("EncodeDense(%v) = %v", v, got)
		}
		if got := impl.EncodeSparse(v); len(got) != 0 {
			t.Errorf("EncodeSparse(%v) = %v", v, got)
		}
		if got := impl.EncodeCoefficients(v); len(got) != 0 {
			t.Errorf("EncodeCoefficients(%v) = %v", v, got)
		}
		if got := impl.EncodedSize(v); got != 0 {
			t.Errorf("EncodedSize(%v) = %d", v, got)
		}
	}
}

// The numbers that are encoded for a vector that is not valid are no encoding.
func TestDecodeCoefficientsRejectsInvalidVectors(t *testing.T) {
	for _, v := range append(invalidVectors(), filledVector(41, 0), filledVector(100, 0), filledVector(98, 1), withComponent(filledVector(41, 0), 40, 1)) {
		if len(v) == 0 || slices.Min(v) >= 0 && slices.Max(v) <= 1000000000000 {
			rejectCoefficients(t, "dense", varints(denseNumbers(v)...))
			rejectCoefficients(t, "sparse", varints(sparseNumbers(v)...))
		}
	}
	for width := range 41 {
		for i := range width {
			for _, x := range []int{1019, 1020, 2037, 2038, 2039, 1 << 14, 1 << 32, 1<<32 + 1, 999999999999, 1000000000000} {
				for _, v := range [][]int{filledVector(width, 0), filledVector(width, 1)} {
					odd := withComponent(v, i, x)
					rejectCoefficients(t, "dense, no element", varints(denseNumbers(odd)...))
					rejectCoefficients(t, "sparse, no element", varints(sparseNumbers(odd)...))
				}
			}
		}
	}
}

func TestDecodeCoefficientsRejectsOtherForms(t *testing.T) {
	for form := 2; form < 256; form++ {
		rejectCoefficients(t, "a form alone", []byte{byte(form)})
		for _, v := range [][]int{{}, {0}, {1}, {0, 0, 5}, {300, 2}, filledVector(40, 1), filledVector(40, 0)} {
			rejectCoefficients(t, "another form", append([]byte{byte(form)}, varints(denseNumbers(v)...)[1:]...))
			rejectCoefficients(t, "another form", append([]byte{byte(form)}, varints(sparseNumbers(v)...)[1:]...))
			// The form is one byte, not a varint that may take more.
			for _, next := range []byte{0, 1} {
				rejectCoefficients(t, "two bytes", append([]byte{byte(form), next}, varints(denseNumbers(v)...)[1:]...))
				rejectCoefficients(t, "two bytes", append([]byte{byte(form), next}, varints(sparseNumbers(v)...)[1:]...))
			}
		}
	}
	rejectCoefficients(t, "empty", nil)
	rejectCoefficients(t, "empty", []byte{})
	rejectCoefficients(t, "a form alone", []byte{0})
	rejectCoefficients(t, "a form alone", []byte{1})
	rejectCoefficients(t, "nothing but zeros", make([]byte, 3))
	rejectCoefficients(t, "nothing but zeros", make([]byte, 1000))
	rejectCoefficients(t, "nothing but ones", bytes.Repeat([]byte{1}, 1000))
	rejectCoefficients(t, "nothing but full bytes", bytes.Repeat([]byte{255}, 1000))
}

func TestAnotherFormIsAnotherVector(t *testing.T) {
	expectCoefficients(t, "dense", []byte{0, 3, 1, 0, 5}, []int{1, 0, 5})
	expectCoefficients(t, "sparse", []byte{1, 3, 1, 0, 5}, []int{5, 0, 0})
	expectCoefficients(t, "sparse", []byte{1, 3, 1, 2, 5}, []int{0, 0, 5})
	expectCoefficients(t, "dense", []byte{0, 3, 1, 2, 5}, []int{1, 2, 5})
	for _, v := range coefficientVectors() {
		dense, sparse := varints(denseNumbers(v)...), varints(sparseNumbers(v)...)
		dense[0], sparse[0] = 1, 0
		checkCoefficients(t, dense)
		checkCoefficients(t, sparse)
	}
}

func TestDecodeCoefficientsNeedsTheWholeEncoding(t *testing.T) {
	for _, v := range coefficientVectors() {
		for _, form := range vectorForms {
			b := form.want(v)
			for end := range b {
				rejectCoefficients(t, "cut off", b[:end])
			}
			for _, more := range [][]byte{{0}, {1}, {128}, {255}, {0, 0}, {0, 1}, {128, 1}, b} {
				rejectCoefficients(t, "longer", slices.Concat(b, more))
				checkCoefficients(t, slices.Concat(more, b))
			}
			for start := 1; start < len(b); start++ {
				checkCoefficients(t, b[start:])
			}
		}
	}
}

// Every number in turn takes one byte more than it needs, or is none.
func TestDecodeCoefficientsRejectsVarints(t *testing.T) {
	for _, v := range fewCoefficientVectors() {
		for _, numbers := range [][]int{denseNumbers(v), sparseNumbers(v)} {
			for i, n := range numbers {
				before, after := varints(numbers[:i]...), varints(numbers[i+1:]...)
				longer := varint(n)
				longer[len(longer)-1] |= 128
				rejectCoefficients(t, "not minimal", slices.Concat(before, longer, []byte{0}, after))
				rejectCoefficients(t, "not minimal", slices.Concat(before, longer, []byte{128, 0}, after))
				for _, bad := range badVarints {
					// Bytes that are cut off may continue with those of the next number.
					checkCoefficients(t, slices.Concat(before, bad.bytes, after))
				}
			}
		}
	}
}

var oddCounts = []int{0, 1, 2, 3, 4, 5, 8, 16, 20, 21, 39, 40, 41, 42, 49, 50, 51, 80, 82, 97, 98, 99, 100, 101, 127, 128, 255, 256, 1 << 16, 1 << 31, 1 << 32, 1<<32 + 1, 1<<32 + 2, 1<<40 - 1, 499999999999, 500000000000, 999999999999, 1000000000000}

func TestDecodeCoefficientsRejectsLengths(t *testing.T) {
	for _, v := range coefficientVectors() {
		for _, count := range oddCounts {
			if count == len(v) {
				continue
			}
			dense, sparse := withComponent(denseNumbers(v), 1, count), withComponent(sparseNumbers(v), 1, count)
			rejectCoefficients(t, "dense, another number of components", varints(dense...))
			if zeros := len(v) - 1 - lastNonzero(v); count > 40 || count < len(v)-zeros {
				rejectCoefficients(t, "sparse, another number of components", varints(sparse...))
			} else {
				// The zeros at the end are not listed, so there may be any number of them.
				w := append(slices.Clone(v[:len(v)-zeros]), make([]int, count-len(v)+zeros)...)
				expectCoefficients(t, "sparse, other zeros at the end", varints(sparse...), w)
			}
		}
	}
	for _, count := range oddCounts {
		if count > 40 {
			rejectCoefficients(t, "dense, too long and complete", append(varints(0, count), make([]byte, min(count, 1000))...))
			rejectCoefficients(t, "sparse, too long and complete", varints(1, count, 0))
			rejectCoefficients(t, "sparse, too long and complete", varints(1, count, 1, 0, 5))
			rejectCoefficients(t, "sparse, too long and complete", varints(1, count, 1, count-1, 5))
			rejectCoefficients(t, "far beyond what follows", varints(0, count))
			rejectCoefficients(t, "far beyond what follows", varints(1, count))
		}
	}
}

func lastNonzero(v []int) int {
	last := -1
	for i, x := range v {
		if x != 0 {
			last = i
		}
	}
	return last
}

func TestDecodeCoefficientsRejectsCounts(t *testing.T) {
	for _, v := range coefficientVectors() {
		numbers := sparseNumbers(v)
		for _, count := range oddCounts {
			if count != numbers[2] {
				rejectCoefficients(t, "another number of nonzero components", varints(withComponent(numbers, 2, count)...))
			}
		}
	}
	for length := range 41 {
		for count := range 102 {
			for _, x := range []int{0, 1, 1018} {
				pairs := slices.Repeat([]int{0, x}, count)
				b := varints(slices.Concat([]int{1, length, count}, pairs)...)
				if count > length || count > 0 && x == 0 {
					rejectCoefficients(t, "complete, but too many or zeros", b)
				} else {
					expectCoefficients(t, "the first components", b, append(filledVector(count, x), make([]int, length-count)...))
				}
			}
		}
	}
}

func TestDecodeCoefficientsRejectsZerosBeyondTheEnd(t *testing.T) {
	for length := range 41 {
		for _, zeros := range append([]int{length - 1, length, length + 1, 2 * length, 1<<32 - 1, 1<<32 + length - 1, 1 << 39}, oddCounts...) {
			if zeros < 0 {
				continue
			}
			if zeros < length {
				expectCoefficients(t, "the last zeros are within", varints(1, length, 1, zeros, 7), withComponent(filledVector(length, 0), zeros, 7))
			} else {
				rejectCoefficients(t, "beyond the end", varints(1, length, 1, zeros, 7))
			}
			for first := range length {
				rest := length - 1 - first
				b := varints(1, length, 2, first, 7, zeros, 8)
				if zeros < rest {
					expectCoefficients(t, "two within", b, withComponent(withComponent(filledVector(length, 0), first, 7), first+1+zeros, 8))
				} else {
					rejectCoefficients(t, "the second one beyond the end", b)
				}
			}
			if zeros >= length {
				rejectCoefficients(t, "the first one beyond the end", varints(1, length, 2, zeros, 7, 0, 8))
				rejectCoefficients(t, "both beyond the end", varints(1, length, 2, zeros, 7, zeros, 8))
				rejectCoefficients(t, "all beyond the end", varints(slices.Concat([]int{1, length, 40}, slices.Repeat([]int{zeros, 7}, 40))...))
			}
		}
	}
}

func TestDecodeCoefficientsRejectsListedZeros(t *testing.T) {
	for _, v := range coefficientVectors() {
		numbers := sparseNumbers(v)
		for i := 4; i < len(numbers); i += 2 {
			rejectCoefficients(t, "a listed zero", varints(withComponent(numbers, i, 0)...))
		}
		for i := 3; i <= len(numbers); i += 2 {
			more := slices.Insert(slices.Clone(numbers), i, 0, 0)
			more[2]++
			rejectCoefficients(t, "one more, which is zero", varints(more...))
			if i < len(numbers) && numbers[i] > 0 {
				more[i+2]--
				rejectCoefficients(t, "one of the zeros listed", varints(more...))
			}
		}
		if zeros := len(v) - 1 - lastNonzero(v); zeros > 0 {
			all := append(slices.Clone(numbers), zeros-1, 0)
			all[2]++
			rejectCoefficients(t, "the zeros at the end listed", varints(all...))
		}
		rejectCoefficients(t, "the number of zeros at the end", varints(append(slices.Clone(numbers), len(v)-1-lastNonzero(v))...))
	}
}

// expectedCoefficients follows the document's words, without the package.
func expectedCoefficients(b []byte) ([]int, bool) {
	numbers := []int{}
	for len(b) > 0 {
		n, rest, ok := readVarint(b)
		if !ok {
			return nil, false
		}
		numbers, b = append(numbers, n), rest
	}
	if len(numbers) < 2 || numbers[0] > 1 || numbers[1] > 40 {
		return nil, false
	}
	form, length, list := numbers[0], numbers[1], numbers[2:]
	if form == 0 {
		return list, len(list) == length && !slices.ContainsFunc(list, func(x int) bool { return x > 1018 })
	}
	if len(list) == 0 || len(list) != 1+2*list[0] {
		return nil, false
	}
	v := []int{}
	for i := 1; i < len(list); i += 2 {
		if list[i] >= length-len(v) || list[i+1] == 0 || list[i+1] > 1018 {
			return nil, false
		}
		v = append(append(v, make([]int, list[i])...), list[i+1])
	}
	return append(v, make([]int, length-len(v))...), true
}

func checkCoefficients(t *testing.T, b []byte) bool {
	t.Helper()
	want, ok := expectedCoefficients(b)
	if !ok {
		rejectCoefficients(t, "no encoding", b)
		return false
	}
	expectCoefficients(t, "an encoding", b, want)
	if !bytes.Equal(impl.EncodeDense(want), b) && !bytes.Equal(impl.EncodeSparse(want), b) {
		t.Errorf("%v is an encoding of %v, but not one of the two", b, want)
	}
	return true
}

// All short byte strings are compared with the definition.
func TestDecodeCoefficientsOfShortBytes(t *testing.T) {
	accepted := map[byte]int{}
	for length := range 10 {
		components := []int{0, 1, 2, 3, 4, 7, 128, 250, 255}
		if length > 5 {
			components = []int{0, 1, 2, 5, 129}
		}
		if length > 7 {
			components = []int{0, 1, 3}
		}
		everyMatrix(1, length, components, func(m [][]int) {
			b := []byte{}
			for _, x := range m[0] {
				b = append(b, byte(x))
			}
			if checkCoefficients(t, b) {
				accepted[b[0]]++
			}
		})
	}
	if accepted[0] < 500 || accepted[1] < 100 || len(accepted) != 2 {
		t.Errorf("the encodings among the short byte strings are %v", accepted)
	}
}

func TestDecodeCoefficientsOfChangedBytes(t *testing.T) {
	for k, v := range fewCoefficientVectors() {
		for _, form := range vectorForms {
			b := form.want(v)
			for i := range b {
				for _, c := range []byte{0, 1, 2, 7, 8, 39, 40, 41, 127, 128, 129, 255, b[i] ^ 128, b[i] + 1, b[i] - 1, byte(k)} {
					changed := slices.Clone(b)
					changed[i] = c
					checkCoefficients(t, changed)
					checkCoefficients(t, slices.Insert(slices.Clone(b), i, c))
				}
				checkCoefficients(t, slices.Delete(slices.Clone(b), i, i+1))
			}
		}
	}
}

func TestEncodedCoefficientsAreNewMemory(t *testing.T) {
	encodings := map[string]func(v []int) []byte{"EncodeDense": impl.EncodeDense, "EncodeSparse": impl.EncodeSparse, "EncodeCoefficients": impl.EncodeCoefficients}
	for _, values := range append(coefficientVectors(), []int{-1}, []int{0, 1019}, filledVector(41, 0)) {
		v, changed := intsWithSpare(values)
		for name, encode := range encodings {
			first, second := encode(v), encode(v)
			want := slices.Clone(second)
			flip(first)
			if changed() || !bytes.Equal(second, want) || !bytes.Equal(encode(v), want) {
				t.Errorf("%s(%v) changes its argument or returns the same memory twice", name, values)
			}
		}
		impl.CountNonzero(v)
		impl.EncodedSize(v)
		impl.DensityPercent(v)
		if changed() {
			t.Errorf("CountNonzero, EncodedSize or DensityPercent changes %v", values)
		}
	}
}

func TestDecodedCoefficientsAreNewMemory(t *testing.T) {
	for _, v := range coefficientVectors() {
		for _, form := range vectorForms {
			encoding := form.want(v)
			for _, data := range [][]byte{encoding, encoding[:len(encoding)-1], append(slices.Clone(encoding), 1), encoding[:0]} {
				b, changed := withSpare(data)
				first, firstOk := impl.DecodeCoefficients(b)
				second, secondOk := impl.DecodeCoefficients(b)
				want := slices.Clone(second)
				if firstOk != secondOk || !slices.Equal(first, want) {
					t.Errorf("DecodeCoefficients(%v) is not always the same", data)
				}
				spoil([][]int{first})
				third, _ := impl.DecodeCoefficients(b)
				if changed() || !slices.Equal(second, want) || !slices.Equal(third, want) {
					t.Errorf("DecodeCoefficients(%v) changes its argument or returns the same memory twice", data)
				}
				flip(b)
				if !slices.Equal(third, want) {
					t.Errorf("the result of DecodeCoefficients(%v) changes with the argument", data)
				}
			}
		}
	}
}
