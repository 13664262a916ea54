package tests

import (
	"math"
	"math/big"
	"slices"
	"testing"

	"loop.example/g00513/impl"
)

// Numbers that are no field elements: the neighbours of the limits, numbers congruent to elements, also after a wraparound of 32 bits, and the ends of int.
var nonElements = []int{
	-1, -2, -510, 1 - impl.FieldSize, -impl.FieldSize, -impl.FieldSize - 1, -impl.MaxValue, math.MinInt, math.MinInt + 1,
	impl.FieldSize, impl.FieldSize + 1, impl.FieldSize + 2, 2*impl.FieldSize - 1, 2 * impl.FieldSize,
	impl.GroupModulus - 1, impl.GroupModulus, 1 << 32, 1<<32 + 1, 1<<32 + 2, impl.MaxValue, impl.MaxValue + 1, math.MaxInt - 1, math.MaxInt,
}

// Numbers that are no group elements: 0, those whose power FieldSize is GroupModulus-1, and numbers congruent to group elements.
var nonGroupElements = []int{
	0, -1, -4, 1 - impl.GroupModulus, 4 - impl.GroupModulus, -impl.GroupModulus, -impl.MaxValue, math.MinInt, math.MinInt + 1,
	impl.GroupModulus - 1, impl.GroupModulus - 4, impl.GroupModulus, impl.GroupModulus + 1, impl.GroupModulus + 4, 2*impl.GroupModulus + 1,
	1 << 32, 1<<32 + 1, 1<<32 + 4, impl.MaxValue, math.MaxInt - 1, math.MaxInt,
}

func bigPower(base int, n int, modulus int) int {
	return int(new(big.Int).Exp(big.NewInt(int64(base)), big.NewInt(int64(n)), big.NewInt(int64(modulus))).Int64())
}

// groupElements finds the group elements as squares: GroupModulus is 2*FieldSize+1, so the squares are the numbers whose power FieldSize is 1.
func groupElements() []int {
	squares := []int{}
	for x := 1; x < impl.GroupModulus; x++ {
		squares = append(squares, x*x%impl.GroupModulus)
	}
	slices.Sort(squares)
	return slices.Compact(squares)
}

func TestFieldConstants(t *testing.T) {
	if impl.FieldSize != 1019 || impl.GroupModulus != 2039 {
		t.Errorf("FieldSize = %d, GroupModulus = %d", impl.FieldSize, impl.GroupModulus)
	}
}

func TestIsElement(t *testing.T) {
	for x := range impl.FieldSize {
		if !impl.IsElement(x) {
			t.Errorf("IsElement(%d) = false", x)
		}
	}
	for d := range 3000 {
		if impl.IsElement(-1-d) || impl.IsElement(impl.FieldSize+d) {
			t.Errorf("IsElement(%d) = %v, IsElement(%d) = %v", -1-d, impl.IsElement(-1-d), impl.FieldSize+d, impl.IsElement(impl.FieldSize+d))
		}
	}
	for _, x := range nonElements {
		if impl.IsElement(x) {
			t.Errorf("IsElement(%d) = true", x)
		}
	}
}

func TestFieldArithmetic(t *testing.T) {
	cases := []struct{ a, b, sum, difference, product int }{
		{0, 0, 0, 0, 0},
		{0, 1, 1, 1018, 0},
		{1, 0, 1, 1, 0},
		{1, 1, 2, 0, 1},
		{3, 5, 8, 1017, 15},
		{1000, 20, 1, 980, 639},
		{2, 510, 512, 511, 1},
		{510, 509, 0, 1, 764},
		{0, 1018, 1018, 1, 0},
		{1018, 0, 1018, 1018, 0},
		{1018, 1, 0, 1017, 1018},
		{1018, 1018, 1017, 0, 1},
	}
	for _, c := range cases {
		if got := impl.AddField(c.a, c.b); got != c.sum {
			t.Errorf("AddField(%d, %d) = %d, want %d", c.a, c.b, got, c.sum)
		}
		if got := impl.SubField(c.a, c.b); got != c.difference {
			t.Errorf("SubField(%d, %d) = %d, want %d", c.a, c.b, got, c.difference)
		}
		if got := impl.MulField(c.a, c.b); got != c.product {
			t.Errorf("MulField(%d, %d) = %d, want %d", c.a, c.b, got, c.product)
		}
	}
}

func TestFieldArithmeticOfAllElements(t *testing.T) {
	for a := range impl.FieldSize {
		for b := range impl.FieldSize {
			if got, want := impl.AddField(a, b), (a+b)%1019; got != want {
				t.Fatalf("AddField(%d, %d) = %d, want %d", a, b, got, want)
			}
			if got, want := impl.SubField(a, b), (a+1019-b)%1019; got != want {
				t.Fatalf("SubField(%d, %d) = %d, want %d", a, b, got, want)
			}
			if got, want := impl.MulField(a, b), a*b%1019; got != want {
				t.Fatalf("MulField(%d, %d) = %d, want %d", a, b, got, want)
			}
		}
	}
}

func TestFieldArithmeticNeedsElements(t *testing.T) {
	operations := map[string]func(int, int) int{"AddField": impl.AddField, "SubField": impl.SubField, "MulField": impl.MulField}
	for name, apply := range operations {
		for _, x := range nonElements {
			for _, a := range append([]int{0, 1, 2, 510, 1017, 1018}, nonElements...) {
				if got := apply(x, a); got != 0 {
					t.Errorf("%s(%d, %d) = %d, want 0", name, x, a, got)
				}
				if got := apply(a, x); got != 0 {
					t.Errorf("%s(%d, %d) = %d, want 0", name, a, x, got)
				}
			}
		}
	}
}

func TestPowField(t *testing.T) {
	cases := []struct{ a, n, want int }{
		{0, 0, 1},
		{0, 1, 0},
		{0, 2, 0},
		{0, 1018, 0},
		{0, 1019, 0},
		{0, impl.MaxValue, 0},
		{1, 0, 1},
		{1, 1, 1},
		{1, impl.MaxValue, 1},
		{2, 10, 5},
		{2, 509, 1018},
		{2, 1017, 510},
		{2, 1018, 1},
		{2, 1019, 2},
		{3, 0, 1},
		{3, 4, 81},
		{5, 1018, 1},
		{1018, 0, 1},
		{1018, 1, 1018},
		{1018, 2, 1},
		{1018, 1019, 1018},
		{1018, impl.MaxValue - 1, 1018},
		{1018, impl.MaxValue, 1},
	}
	for _, c := range cases {
		if got := impl.PowField(c.a, c.n); got != c.want {
			t.Errorf("PowField(%d, %d) = %d, want %d", c.a, c.n, got, c.want)
		}
	}
}

func TestPowFieldMultipliesRepeatedly(t *testing.T) {
	for a := range impl.FieldSize {
		want := 1
		for n := range 2*impl.FieldSize + 2 {
			if got := impl.PowField(a, n); got != want {
				t.Fatalf("PowField(%d, %d) = %d, want %d", a, n, got, want)
			}
			want = want * a % 1019
		}
	}
}

func TestPowFieldOfGreatExponents(t *testing.T) {
	for a := range impl.FieldSize {
		for _, n := range []int{5000, 1<<31 - 1, 1 << 31, 1<<32 - 1, 1 << 32, 1<<39 + 1, impl.MaxValue - 1019, impl.MaxValue - 1, impl.MaxValue} {
			if got, want := impl.PowField(a, n), bigPower(a, n, 1019); got != want {
				t.Errorf("PowField(%d, %d) = %d, want %d", a, n, got, want)
			}
		}
	}
}

func TestPowFieldRejects(t *testing.T) {
	for a := range impl.FieldSize {
		for _, n := range []int{-1, -2, -1018, -impl.MaxValue, math.MinInt, impl.MaxValue + 1, impl.MaxValue + 2, 1 << 40, 1 << 62, math.MaxInt} {
			if got := impl.PowField(a, n); got != 0 {
				t.Errorf("PowField(%d, %d) = %d, want 0", a, n, got)
			}
		}
	}
	for _, a := range nonElements {
		for _, n := range []int{0, 1, 2, 1018, impl.MaxValue, -1, impl.MaxValue + 1, math.MinInt, math.MaxInt} {
			if got := impl.PowField(a, n); got != 0 {
				t.Errorf("PowField(%d, %d) = %d, want 0", a, n, got)
			}
		}
	}
}

func TestInverseField(t *testing.T) {
	cases := []struct{ a, want int }{
		{0, 0}, {1, 1}, {2, 510}, {510, 2}, {3, 340}, {340, 3}, {4, 255}, {7, 728}, {509, 1017}, {1017, 509}, {1018, 1018},
	}
	for _, c := range cases {
		if got := impl.InverseField(c.a); got != c.want {
			t.Errorf("InverseField(%d) = %d, want %d", c.a, got, c.want)
		}
	}
}

func TestEveryElementButZeroHasAnInverse(t *testing.T) {
	for a := range impl.FieldSize {
		found := []int{}
		for b := range impl.FieldSize {
			if impl.MulField(a, b) == 1 {
				found = append(found, b)
			}
		}
		got := impl.InverseField(a)
		if a == 0 {
			if len(found) != 0 || got != 0 {
				t.Errorf("InverseField(0) = %d; products with 0 are 1 for %v", got, found)
			}
			continue
		}
		if !slices.Equal(found, []int{got}) || a*got%1019 != 1 {
			t.Errorf("InverseField(%d) = %d, want the one of %v", a, got, found)
		}
		if back := impl.InverseField(got); back != a {
			t.Errorf("InverseField(InverseField(%d)) = %d", a, back)
		}
		if power := impl.PowField(a, impl.FieldSize-2); power != got {
			t.Errorf("InverseField(%d) = %d, but the power FieldSize-2 is %d", a, got, power)
		}
	}
}

func TestInverseFieldNeedsAnElement(t *testing.T) {
	for d := range 3000 {
		for _, x := range []int{-1 - d, impl.FieldSize + d} {
			if got := impl.InverseField(x); got != 0 {
				t.Errorf("InverseField(%d) = %d, want 0", x, got)
			}
		}
	}
	for _, x := range nonElements {
		if got := impl.InverseField(x); got != 0 {
			t.Errorf("InverseField(%d) = %d, want 0", x, got)
		}
	}
}

func TestEveryElementHasANegative(t *testing.T) {
	for a := range impl.FieldSize {
		negative := impl.SubField(0, a)
		if !impl.IsElement(negative) || impl.AddField(a, negative) != 0 || impl.MulField(a, 1018) != negative {
			t.Errorf("SubField(0, %d) = %d", a, negative)
		}
	}
}

func TestIsGroupElement(t *testing.T) {
	group := groupElements()
	if len(group) != impl.FieldSize {
		t.Fatalf("%d group elements", len(group))
	}
	for x := -3 * impl.GroupModulus; x <= 3*impl.GroupModulus; x++ {
		_, want := slices.BinarySearch(group, x)
		if got := impl.IsGroupElement(x); got != want {
			t.Errorf("IsGroupElement(%d) = %v, want %v", x, got, want)
		}
		if want != (x >= 1 && x <= 2038 && bigPower(x, 1019, 2039) == 1) {
			t.Errorf("%d is not expected to be a group element as the document words it", x)
		}
	}
	for _, x := range nonGroupElements {
		if impl.IsGroupElement(x) {
			t.Errorf("IsGroupElement(%d) = true", x)
		}
	}
}

// Squares of numbers this far from 0 wrap around, so that some would pass for group elements if only their powers were taken.
func TestIsGroupElementFarFromZero(t *testing.T) {
	for d := range 50000 {
		for _, x := range []int{math.MinInt + d, math.MaxInt - d, -1<<32 - d, 1<<32 + d, -1<<40 - 977*d, 1<<40 + 977*d} {
			if impl.IsGroupElement(x) {
				t.Errorf("IsGroupElement(%d) = true", x)
			}
		}
	}
}

func TestPowGroup(t *testing.T) {
	cases := []struct{ g, n, want int }{
		{1, 0, 1},
		{1, 1018, 1},
		{4, 0, 1},
		{4, 1, 4},
		{4, 3, 64},
		{4, 6, 18},
		{4, 1018, 510},
		{2, 11, 9},
		{2, 1018, 1020},
	}
	for _, c := range cases {
		if got := impl.PowGroup(c.g, c.n); got != c.want {
			t.Errorf("PowGroup(%d, %d) = %d, want %d", c.g, c.n, got, c.want)
		}
	}
}

func TestPowGroupMultipliesRepeatedly(t *testing.T) {
	for _, g := range groupElements() {
		want := 1
		for n := range impl.FieldSize {
			if got := impl.PowGroup(g, n); got != want {
				t.Fatalf("PowGroup(%d, %d) = %d, want %d", g, n, got, want)
			}
			want = want * g % 2039
		}
		if want != 1 {
			t.Errorf("the power FieldSize of %d is %d", g, want)
		}
	}
}

func TestPowGroupRejects(t *testing.T) {
	for _, g := range []int{1, 2, 4, 64, 1020} {
		for _, n := range nonElements {
			if got := impl.PowGroup(g, n); got != 0 {
				t.Errorf("PowGroup(%d, %d) = %d, want 0", g, n, got)
			}
		}
	}
	for _, g := range nonGroupElements {
		for _, n := range append([]int{0, 1, 2, 3, 1018}, nonElements...) {
			if got := impl.PowGroup(g, n); got != 0 {
				t.Errorf("PowGroup(%d, %d) = %d, want 0", g, n, got)
			}
		}
	}
}

func TestMulGroup(t *testing.T) {
	cases := []struct{ a, b, want int }{
		{1, 1, 1}, {1, 4, 4}, {4, 1, 4}, {4, 16, 64}, {64, 64, 18}, {4, 510, 1}, {2, 1020, 1}, {1020, 1020, 510},
	}
	for _, c := range cases {
		if got := impl.MulGroup(c.a, c.b); got != c.want {
			t.Errorf("MulGroup(%d, %d) = %d, want %d", c.a, c.b, got, c.want)
		}
	}
}

func TestMulGroupOfAllGroupElements(t *testing.T) {
	group := groupElements()
	for _, a := range group {
		for _, b := range group {
			if got, want := impl.MulGroup(a, b), a*b%2039; got != want {
				t.Fatalf("MulGroup(%d, %d) = %d, want %d", a, b, got, want)
			}
		}
	}
}

func TestMulGroupRejects(t *testing.T) {
	others := slices.Clone(nonGroupElements)
	group := groupElements()
	for x := 1; x < impl.GroupModulus; x++ {
		if _, ok := slices.BinarySearch(group, x); !ok {
			others = append(others, x)
		}
	}
	for _, x := range others {
		for _, a := range append([]int{1, 2, 4, 64, 1020}, nonGroupElements...) {
			if got := impl.MulGroup(x, a); got != 0 {
				t.Errorf("MulGroup(%d, %d) = %d, want 0", x, a, got)
			}
			if got := impl.MulGroup(a, x); got != 0 {
				t.Errorf("MulGroup(%d, %d) = %d, want 0", a, x, got)
			}
		}
		// The product of two numbers that are no group elements may be one.
		if got := impl.MulGroup(x, x); got != 0 {
			t.Errorf("MulGroup(%d, %d) = %d, want 0", x, x, got)
		}
	}
}

// The exponents are spread over the field, so that most of their sums are beyond FieldSize.
func TestExponentsOfGroupElementsAddUp(t *testing.T) {
	exponents := []int{0, 1, 2, 3, 255, 509, 510, 511, 700, 1000, 1016, 1017, 1018}
	for _, g := range groupElements() {
		for _, m := range exponents {
			power := impl.PowGroup(g, m)
			if !impl.IsGroupElement(power) {
				t.Fatalf("PowGroup(%d, %d) = %d is no group element", g, m, power)
			}
			for _, n := range exponents {
				if got, want := impl.MulGroup(power, impl.PowGroup(g, n)), impl.PowGroup(g, impl.AddField(m, n)); got != want {
					t.Fatalf("the powers %d and %d of %d have the product %d, want %d", m, n, g, got, want)
				}
				if got, want := impl.PowGroup(power, n), impl.PowGroup(g, impl.MulField(m, n)); got != want {
					t.Fatalf("the power %d of the power %d of %d is %d, want %d", n, m, g, got, want)
				}
			}
			if impl.MulGroup(power, impl.PowGroup(g, impl.SubField(0, m))) != 1 {
				t.Fatalf("the powers %d and %d of %d have not the product 1", m, impl.SubField(0, m), g)
			}
		}
	}
}
