package tests

import (
	"bytes"
	"math"
	"math/big"
	"slices"
	"testing"

	"loop.example/g00513/impl"
)

// Keys of every kind: valid ones, those at and beyond both limits, and the ends of int.
var sampleKeys = []int{
	1, 2, 3, 77, 1000003, impl.Modulus - 2, impl.Modulus - 1,
	0, impl.Modulus, impl.Modulus + 1, 2 * impl.Modulus, impl.MaxValue, math.MaxInt,
	-1, -2, 1 - impl.Modulus, -impl.Modulus, -impl.Modulus - 1, math.MinInt,
}

// bigHash computes Hash as the document words it, with integers that cannot overflow and a remainder that is never negative.
func bigHash(values ...int) int {
	modulus := big.NewInt(impl.Modulus)
	accumulator := big.NewInt(11)
	for _, v := range values {
		remainder := new(big.Int).Mod(big.NewInt(int64(v)), modulus)
		accumulator.Mul(accumulator, big.NewInt(1000003))
		accumulator.Add(accumulator, remainder)
		accumulator.Add(accumulator, big.NewInt(13))
		accumulator.Mod(accumulator, modulus)
	}
	return int(accumulator.Int64())
}

func bigKeyedHash(key int, values ...int) int {
	return bigHash(slices.Concat([]int{key}, values, []int{key})...)
}

// intsWithSpare returns the values with spare capacity behind them, and a function that tells whether either has changed.
func intsWithSpare(values []int) ([]int, func() bool) {
	whole := append(slices.Clone(values), 901, 902, 903, 904)
	before := slices.Clone(whole)
	return whole[:len(values)], func() bool { return !slices.Equal(whole, before) }
}

func allBytes() []byte {
	data := make([]byte, 256)
	for i := range data {
		data[i] = byte(i)
	}
	return data
}

func TestModulus(t *testing.T) {
	if impl.Modulus != 2147483647 {
		t.Errorf("Modulus = %d", impl.Modulus)
	}
}

func TestHash(t *testing.T) {
	cases := []struct {
		values []int
		want   int
	}{
		{nil, 11},
		{[]int{}, 11},
		{[]int{0}, 11000046},
		{[]int{1}, 11000047},
		{[]int{5}, 11000051},
		{[]int{5 + impl.Modulus}, 11000051},
		{[]int{-1}, 11000045},
		{[]int{impl.Modulus - 1}, 11000045},
		{[]int{impl.Modulus}, 11000046},
		{[]int{impl.Modulus + 1}, 11000047},
		{[]int{-impl.Modulus}, 11000046},
		{[]int{-impl.Modulus - 1}, 11000045},
		{[]int{math.MinInt}, 11000044},
		{[]int{math.MaxInt}, 11000047},
		{[]int{5, 5}, 672760237},
		{[]int{1, 2}, 668760222},
		{[]int{2, 1}, 669760224},
		{[]int{1, 2, 3}, 1460866530},
		{[]int{math.MinInt, math.MaxInt}, 665760212},
		{[]int{impl.MaxValue}, 1431104191},
	}
	for _, c := range cases {
		if got := impl.Hash(c.values); got != c.want {
			t.Errorf("Hash(%v) = %d, want %d", c.values, got, c.want)
		}
	}
}

func TestKeyedHash(t *testing.T) {
	cases := []struct {
		key    int
		values []int
		want   int
	}{
		{0, nil, 667760217},
		{0, []int{}, 667760217},
		{0, []int{4}, 36762379},
		{0, []int{0}, 32762367},
		{1, nil, 668760221},
		{1, []int{1, 2, 3}, 596233557},
		{3, []int{4}, 20107550},
		{77, []int{1, 2, 3}, 136746810},
		{impl.Modulus - 1, []int{4}, 758141871},
		{impl.Modulus, []int{4}, 36762379},
		{impl.Modulus + 1, []int{4}, 1462866534},
		{-1, []int{4}, 758141871},
		{math.MinInt, nil, 665760209},
		{math.MinInt, []int{1, 2, 3}, 77500280},
		{math.MaxInt, []int{4}, 1462866534},
	}
	for _, c := range cases {
		if got := impl.KeyedHash(c.key, c.values); got != c.want {
			t.Errorf("KeyedHash(%d, %v) = %d, want %d", c.key, c.values, got, c.want)
		}
	}
}

// The samples drive the accumulator up to Modulus-1, where a product that is too large would wrap around.
func TestHashesAsTheDocumentSays(t *testing.T) {
	lists := [][]int{{}, sampleKeys, slices.Repeat(sampleKeys, 50)}
	for _, v := range sampleKeys {
		for _, w := range sampleKeys {
			lists = append(lists, []int{v}, []int{v, w}, []int{w, 7, v})
		}
	}
	for _, values := range lists {
		if got, want := impl.Hash(values), bigHash(values...); got != want {
			t.Errorf("Hash(%v) = %d, want %d", values, got, want)
		}
		for _, key := range sampleKeys {
			want := bigKeyedHash(key, values...)
			if got := impl.KeyedHash(key, values); got != want || got < 0 || got >= impl.Modulus {
				t.Errorf("KeyedHash(%d, %v) = %d, want %d", key, values, got, want)
			}
		}
	}
}

func TestHashesDependOnEachValue(t *testing.T) {
	values := []int{4, 0, -7, impl.Modulus - 1, 1 << 40, math.MinInt, 12}
	for i := range values {
		for _, d := range []int{1, -1, 256, 1 << 31, impl.Modulus - 1} {
			other := slices.Clone(values)
			other[i] += d
			if impl.Hash(other) == impl.Hash(values) {
				t.Errorf("Hash does not change with value %d by %d", i, d)
			}
			for _, key := range sampleKeys {
				if impl.KeyedHash(key, other) == impl.KeyedHash(key, values) {
					t.Errorf("KeyedHash(%d, ..) does not change with value %d by %d", key, i, d)
				}
			}
		}
		shorter := slices.Delete(slices.Clone(values), i, i+1)
		if impl.Hash(shorter) == impl.Hash(values) || impl.KeyedHash(5, shorter) == impl.KeyedHash(5, values) {
			t.Errorf("a hash does not change if value %d is left out", i)
		}
	}
	for i := range len(values) - 1 {
		other := slices.Clone(values)
		other[i], other[i+1] = other[i+1], other[i]
		if impl.Hash(other) == impl.Hash(values) || impl.KeyedHash(5, other) == impl.KeyedHash(5, values) {
			t.Errorf("a hash does not change if values %d and %d change places", i, i+1)
		}
	}
}

func TestKeyedHashDependsOnTheKey(t *testing.T) {
	for _, values := range [][]int{nil, {4}, {1, 2, 3}, sampleKeys} {
		keys := map[int]int{}
		for key := range 2000 {
			h := impl.KeyedHash(key, values)
			if other, ok := keys[h]; ok {
				t.Errorf("KeyedHash of %v is %d for the keys %d and %d", values, h, other, key)
			}
			keys[h] = key
		}
	}
}

func TestValuesThatDifferByModulusHashAlike(t *testing.T) {
	for _, v := range []int{0, 5, -5, impl.Modulus - 1, impl.MaxValue} {
		for _, k := range []int{-3, -1, 1, 2, 1000} {
			w := v + k*impl.Modulus
			if impl.Hash([]int{1, w, 2}) != impl.Hash([]int{1, v, 2}) {
				t.Errorf("Hash differs for the values %d and %d", v, w)
			}
			if impl.KeyedHash(w, []int{4}) != impl.KeyedHash(v, []int{4}) {
				t.Errorf("KeyedHash differs for the keys %d and %d", v, w)
			}
			if impl.KeyedHash(3, []int{w}) != impl.KeyedHash(3, []int{v}) {
				t.Errorf("KeyedHash differs for the values %d and %d", v, w)
			}
		}
	}
}

func TestHashesLeaveTheirArguments(t *testing.T) {
	for _, values := range [][]int{{}, {4}, {-1, impl.Modulus, math.MinInt}} {
		b, changed := intsWithSpare(values)
		impl.Hash(b)
		impl.KeyedHash(3, b)
		if changed() {
			t.Errorf("a hash of %v writes into its argument", values)
		}
		if got, want := impl.KeyedHash(3, b), bigKeyedHash(3, values...); got != want {
			t.Errorf("KeyedHash(3, %v) = %d with spare capacity, want %d", values, got, want)
		}
	}
}

func TestIsValidKey(t *testing.T) {
	for _, key := range []int{1, 2, 77, 1 << 30, impl.Modulus - 2, impl.Modulus - 1} {
		if !impl.IsValidKey(key) {
			t.Errorf("IsValidKey(%d) = false", key)
		}
	}
	for _, key := range []int{0, -1, impl.Modulus, impl.Modulus + 1, 1 - impl.Modulus, 1 << 32, 1<<32 + 1, impl.MaxValue, math.MinInt, math.MaxInt} {
		if impl.IsValidKey(key) {
			t.Errorf("IsValidKey(%d) = true", key)
		}
	}
}

func TestBytesToInts(t *testing.T) {
	cases := []struct {
		b    []byte
		want []int
	}{
		{nil, []int{0}},
		{[]byte{}, []int{0}},
		{[]byte{0}, []int{1, 0}},
		{[]byte{255}, []int{1, 255}},
		{[]byte{9, 8}, []int{2, 9, 8}},
		{[]byte{0, 127, 128, 255}, []int{4, 0, 127, 128, 255}},
		{make([]byte, 1, 9), []int{1, 0}},
	}
	for _, c := range cases {
		if got := impl.BytesToInts(c.b); !slices.Equal(got, c.want) {
			t.Errorf("BytesToInts(%v) = %v, want %v", c.b, got, c.want)
		}
	}
	long := impl.BytesToInts(slices.Repeat(allBytes(), 40))
	if len(long) != 1+256*40 || long[0] != 256*40 {
		t.Errorf("BytesToInts of %d bytes has %d values, of which the first is %d", 256*40, len(long), long[0])
	}
	for i, v := range long[1:] {
		if v != i%256 {
			t.Fatalf("BytesToInts: the byte with index %d is %d, want %d", i, v, i%256)
		}
	}
}

func TestBytesToIntsReturnsNewMemory(t *testing.T) {
	b, changed := withSpare([]byte{9, 8})
	first, second := impl.BytesToInts(b), impl.BytesToInts(b)
	second[0], second[1], second[2] = 5, 6, 7
	if !slices.Equal(first, []int{2, 9, 8}) || changed() {
		t.Errorf("two results of BytesToInts share memory, or it writes into the argument: %v", first)
	}
	flip(b)
	if !slices.Equal(first, []int{2, 9, 8}) {
		t.Errorf("the result of BytesToInts changes with the argument to %v", first)
	}
}

func TestEncrypt(t *testing.T) {
	plaintext := []byte{0, 0, 0, 255, 104, 101, 0}
	cases := []struct {
		key  int
		want []byte
	}{
		{0, []byte{255, 66, 133, 199, 115, 179, 145}},
		{1, []byte{90, 157, 224, 34, 206, 14, 236}},
		{77, []byte{145, 212, 23, 89, 5, 69, 35}},
		{impl.Modulus - 1, []byte{163, 230, 41, 107, 23, 87, 53}},
		{impl.Modulus, []byte{255, 66, 133, 199, 115, 179, 145}},
		{-1, []byte{163, 230, 41, 107, 23, 87, 53}},
		{math.MinInt, []byte{71, 138, 205, 15, 187, 251, 217}},
		{math.MaxInt, []byte{90, 157, 224, 34, 206, 14, 236}},
	}
	for _, c := range cases {
		if got := impl.Encrypt(c.key, plaintext); !bytes.Equal(got, c.want) {
			t.Errorf("Encrypt(%d, %v) = %v, want %v", c.key, plaintext, got, c.want)
		}
		if got := impl.Decrypt(c.key, c.want); !bytes.Equal(got, plaintext) {
			t.Errorf("Decrypt(%d, %v) = %v, want %v", c.key, c.want, got, plaintext)
		}
	}
}

// The text is long because the values of the key stream repeat, modulo 256, until the hash first passes Modulus, which may take some 2147 indices.
func TestCipherShiftsEachByte(t *testing.T) {
	b := make([]byte, 5000)
	for i := range b {
		b[i] = byte(i * 7)
	}
	for _, key := range sampleKeys {
		encrypted, decrypted := impl.Encrypt(key, b), impl.Decrypt(key, b)
		if len(encrypted) != len(b) || len(decrypted) != len(b) {
			t.Fatalf("key %d: %d bytes become %d and %d", key, len(b), len(encrypted), len(decrypted))
		}
		for i, c := range b {
			mask := bigKeyedHash(key, i)
			if want := byte((int(c) + mask) % 256); encrypted[i] != want {
				t.Fatalf("Encrypt(%d, ..) makes %d of byte %d at index %d, want %d", key, encrypted[i], c, i, want)
			}
			if want := byte((int(c) - mask%256 + 256) % 256); decrypted[i] != want {
				t.Fatalf("Decrypt(%d, ..) makes %d of byte %d at index %d, want %d", key, decrypted[i], c, i, want)
			}
		}
	}
}

func TestDecryptAndEncryptInvertEachOther(t *testing.T) {
	texts := [][]byte{nil, {}, {0}, {255}, {0, 255}, {255, 0, 255}, []byte("hello"), []byte("h\xc3\xa9\x00"), make([]byte, 100), allBytes()}
	for _, key := range sampleKeys {
		for _, b := range texts {
			if got := impl.Decrypt(key, impl.Encrypt(key, b)); !bytes.Equal(got, b) {
				t.Errorf("Decrypt(%d, Encrypt(.., %v)) = %v", key, b, got)
			}
			if got := impl.Encrypt(key, impl.Decrypt(key, b)); !bytes.Equal(got, b) {
				t.Errorf("Encrypt(%d, Decrypt(.., %v)) = %v", key, b, got)
			}
		}
	}
}

func TestDecryptWithAnotherKeyFails(t *testing.T) {
	b := []byte("hello")
	for _, key := range []int{1, 77, impl.Modulus - 2} {
		encrypted := impl.Encrypt(key, b)
		if bytes.Equal(encrypted, b) || bytes.Equal(impl.Decrypt(key+1, encrypted), b) {
			t.Errorf("the key %d hides nothing: %v", key, encrypted)
		}
	}
}

func TestCipherReturnsNewMemory(t *testing.T) {
	cipher := map[string]func(int, []byte) []byte{"Encrypt": impl.Encrypt, "Decrypt": impl.Decrypt}
	for name, apply := range cipher {
		for _, data := range [][]byte{{}, {7}, {0, 255, 104}} {
			b, changed := withSpare(data)
			first, second := apply(77, b), apply(77, b)
			want := slices.Clone(first)
			flip(second)
			if !bytes.Equal(first, want) {
				t.Errorf("two results of %s(77, %v) share memory", name, data)
			}
			flip(first)
			_ = append(first, 1, 2, 3)
			if changed() {
				t.Errorf("%s(77, %v) or its result writes into the argument", name, data)
			}
			third := apply(77, b)
			flip(b)
			if !bytes.Equal(third, want) {
				t.Errorf("the result of %s(77, %v) changes with the argument, or with earlier calls", name, data)
			}
		}
	}
}

func TestDeriveFromString(t *testing.T) {
	cases := []struct {
		key   int
		label string
		want  int
	}{
		{5, "", 720832201},
		{5, "a", 783230796},
		{5, "ab", 1905036959},
		{5, "\x00", 686230505},
		{5, "\xff", 941231270},
		{5, "\u00e9", 323562},
		{0, "", 32762367},
		{0, "ab", 324653615},
		{1, "", 1458866522},
		{1, "a", 879951042},
		{impl.Modulus - 1, "ab", 867570405},
		{impl.Modulus, "ab", 324653615},
		{-1, "ab", 867570405},
	}
	for _, c := range cases {
		if got := impl.DeriveFromString(c.key, c.label); got != c.want {
			t.Errorf("DeriveFromString(%d, %q) = %d, want %d", c.key, c.label, got, c.want)
		}
	}
}

func labelInts(label string) []int {
	values := []int{len(label)}
	for i := range len(label) {
		values = append(values, int(label[i]))
	}
	return values
}

func TestDeriveFromStringOfEveryKey(t *testing.T) {
	for _, key := range sampleKeys {
		for _, label := range []string{"", "a", "ab", "ba", "\x00", "\x00\x00", "\xff", "\xc3", "h\u00e9", string(allBytes())} {
			want := bigKeyedHash(key, labelInts(label)...)
			if got := impl.DeriveFromString(key, label); got != want || !impl.IsValidKey(got) {
				t.Errorf("DeriveFromString(%d, %q) = %d, want %d", key, label, got, want)
			}
		}
	}
}

// A keyed hash is linear in the key modulo Modulus, so for each label the key whose hash is 0 can be computed.
func TestDeriveFromStringIsNeverZero(t *testing.T) {
	modulus := big.NewInt(impl.Modulus)
	for _, label := range []string{"", "a", "ab", "label", "\xff\x00"} {
		values := labelInts(label)
		constant := int64(bigKeyedHash(0, values...))
		slope := big.NewInt(int64(bigKeyedHash(1, values...)) - constant)
		slope.ModInverse(slope.Mod(slope, modulus), modulus)
		zero := slope.Mul(slope, big.NewInt(impl.Modulus-constant))
		key := int(zero.Mod(zero, modulus).Int64())
		if h := impl.KeyedHash(key, values); h != 0 {
			t.Errorf("KeyedHash(%d, %v) = %d, want 0", key, values, h)
		}
		for _, k := range []int{key, key - impl.Modulus, key + impl.Modulus} {
			if got := impl.DeriveFromString(k, label); got != 1 {
				t.Errorf("DeriveFromString(%d, %q) = %d, want 1", k, label, got)
			}
		}
	}
}

func TestEqualInts(t *testing.T) {
	cases := []struct {
		a, b []int
		want bool
	}{
		{nil, nil, true},
		{nil, []int{}, true},
		{[]int{}, nil, true},
		{[]int{}, []int{}, true},
		{[]int{7}, []int{7}, true},
		{[]int{5, 300, -1}, []int{5, 300, -1}, true},
		{[]int{math.MinInt, math.MaxInt}, []int{math.MinInt, math.MaxInt}, true},
		{nil, []int{0}, false},
		{[]int{0}, nil, false},
		{[]int{0}, []int{}, false},
		{[]int{7}, []int{-7}, false},
		{[]int{1}, []int{257}, false},
		{[]int{1}, []int{1 + 1<<32}, false},
		{[]int{math.MinInt}, []int{math.MaxInt}, false},
		{[]int{7, 8}, []int{7}, false},
		{[]int{7}, []int{7, 8}, false},
		{[]int{7, 8}, []int{8, 7}, false},
		{[]int{1, 2, 3}, []int{9, 2, 3}, false},
		{[]int{1, 2, 3}, []int{1, 9, 3}, false},
		{[]int{1, 2, 3}, []int{1, 2, 9}, false},
		{make([]int, 2, 5), make([]int, 2), true},
	}
	for _, c := range cases {
		if got := impl.EqualInts(c.a, c.b); got != c.want {
			t.Errorf("EqualInts(%v, %v) = %v, want %v", c.a, c.b, got, c.want)
		}
	}
}

func TestEqualIntsLeavesItsArguments(t *testing.T) {
	a, b := []int{3, 1, 2}, []int{3, 2, 1}
	impl.EqualInts(a, b[:2])
	impl.EqualInts(a, b)
	if !slices.Equal(a, []int{3, 1, 2}) || !slices.Equal(b, []int{3, 2, 1}) {
		t.Errorf("EqualInts changes its arguments to %v, %v", a, b)
	}
}
