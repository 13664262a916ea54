package tests

import (
	"bytes"
	"math"
	"slices"
	"testing"

	"loop.example/g00513/impl"
)

// The varints of chapter 2 whose bytes are known: the ends of every length and the limit.
var knownVarints = []struct {
	n     int
	bytes []byte
}{
	{0, []byte{0}},
	{1, []byte{1}},
	{127, []byte{127}},
	{128, []byte{128, 1}},
	{129, []byte{129, 1}},
	{255, []byte{255, 1}},
	{256, []byte{128, 2}},
	{300, []byte{172, 2}},
	{1<<14 - 1, []byte{255, 127}},
	{1 << 14, []byte{128, 128, 1}},
	{1<<21 - 1, []byte{255, 255, 127}},
	{1 << 21, []byte{128, 128, 128, 1}},
	{1<<28 - 1, []byte{255, 255, 255, 127}},
	{1 << 28, []byte{128, 128, 128, 128, 1}},
	{1<<35 - 1, []byte{255, 255, 255, 255, 127}},
	{1 << 35, []byte{128, 128, 128, 128, 128, 1}},
	{impl.MaxValue - 1, []byte{255, 159, 148, 165, 141, 29}},
	{impl.MaxValue, []byte{128, 160, 148, 165, 141, 29}},
}

var outsideEncoding = []int{-1, -2, -127, -128, math.MinInt, impl.MaxValue + 1, 1 << 41, 1 << 42, 1 << 62, math.MaxInt}

var badVarints = []struct {
	name  string
	bytes []byte
}{
	{"empty", []byte{}},
	{"one byte, cut off", []byte{128}},
	{"one full byte, cut off", []byte{255}},
	{"two bytes, cut off", []byte{172, 130}},
	{"five bytes, cut off", []byte{129, 130, 131, 132, 133}},
	{"six bytes, cut off", []byte{129, 130, 131, 132, 133, 134}},
	{"six bytes of MaxValue, cut off", []byte{128, 160, 148, 165, 141}},
	{"zero in two bytes", []byte{128, 0}},
	{"one in two bytes", []byte{129, 0}},
	{"127 in two bytes", []byte{255, 0}},
	{"300 in three bytes", []byte{172, 130, 0}},
	{"zero in three bytes", []byte{128, 128, 0}},
	{"zero in six bytes", []byte{128, 128, 128, 128, 128, 0}},
	{"1<<35-1 in six bytes", []byte{255, 255, 255, 255, 255, 0}},
	{"seven bytes", []byte{128, 128, 128, 128, 128, 128, 1}},
	{"one in seven bytes", []byte{129, 128, 128, 128, 128, 128, 0}},
	{"seven bytes, cut off", []byte{128, 128, 128, 128, 128, 128, 128}},
	{"ten bytes that wrap around", []byte{129, 128, 128, 128, 128, 128, 128, 128, 128, 2}},
	{"eleven bytes", []byte{129, 128, 128, 128, 128, 128, 128, 128, 128, 128, 1}},
	{"MaxValue + 1", []byte{129, 160, 148, 165, 141, 29}},
	{"beyond MaxValue in its last group", []byte{128, 160, 148, 165, 141, 30}},
	{"the greatest of six bytes", []byte{255, 255, 255, 255, 255, 127}},
}

var badOffsets = []int{-1, -2, math.MinInt, math.MaxInt, math.MaxInt - 1, 1 << 40}

// withSpare returns the bytes with spare capacity behind them, and a function that tells whether either has changed.
func withSpare(data []byte) ([]byte, func() bool) {
	whole := append(slices.Clone(data), bytes.Repeat([]byte{0xA5}, 64)...)
	before := slices.Clone(whole)
	return whole[:len(data)], func() bool { return !bytes.Equal(whole, before) }
}

func flip(b []byte) {
	b = b[:cap(b)]
	for i := range b {
		b[i] ^= 0xFF
	}
}

func TestAppendUvarint(t *testing.T) {
	for _, c := range knownVarints {
		if got := impl.AppendUvarint(nil, c.n); !bytes.Equal(got, c.bytes) {
			t.Errorf("AppendUvarint(nil, %d) = %v, want %v", c.n, got, c.bytes)
		}
		for _, b := range [][]byte{{}, {9}, {128, 0, 255}} {
			want := slices.Concat(b, c.bytes)
			if got := impl.AppendUvarint(b, c.n); !bytes.Equal(got, want) {
				t.Errorf("AppendUvarint(%v, %d) = %v, want %v", b, c.n, got, want)
			}
		}
	}
}

func TestAppendUvarintOutOfRange(t *testing.T) {
	for _, n := range outsideEncoding {
		for _, b := range [][]byte{nil, {}, {9}, {128, 0, 255}} {
			if got := impl.AppendUvarint(b, n); !bytes.Equal(got, b) {
				t.Errorf("AppendUvarint(%v, %d) = %v, want the same bytes", b, n, got)
			}
		}
	}
}

func TestAppendUvarintReturnsNewMemory(t *testing.T) {
	for _, n := range []int{0, 300, impl.MaxValue, -1, impl.MaxValue + 1} {
		for _, data := range [][]byte{{}, {7}, {1, 2, 3}} {
			b, changed := withSpare(data)
			first := impl.AppendUvarint(b, n)
			second := impl.AppendUvarint(b, n)
			want := slices.Clone(first)
			flip(second)
			if !bytes.Equal(first, want) {
				t.Errorf("two results of AppendUvarint(%v, %d) share memory", data, n)
			}
			flip(first)
			if changed() {
				t.Errorf("AppendUvarint(%v, %d) or its result writes into the argument", data, n)
			}
			third := impl.AppendUvarint(b, n)
			flip(b)
			if !bytes.Equal(third, want) {
				t.Errorf("the result of AppendUvarint(%v, %d) changes with the argument", data, n)
			}
		}
	}
}

func TestReadUvarint(t *testing.T) {
	for _, c := range knownVarints {
		for _, before := range [][]byte{{}, {0}, {128, 128, 128}} {
			for _, after := range [][]byte{{}, {0}, {1}, {255, 255}} {
				b := slices.Concat(before, c.bytes, after)
				wantNext := len(before) + len(c.bytes)
				n, next, ok := impl.ReadUvarint(b, len(before))
				if n != c.n || next != wantNext || !ok {
					t.Errorf("ReadUvarint(%v, %d) = %d, %d, %v, want %d, %d, true", b, len(before), n, next, ok, c.n, wantNext)
				}
			}
		}
	}
}

func checkReadUvarintFails(t *testing.T, name string, b []byte, offset int) {
	t.Helper()
	if n, next, ok := impl.ReadUvarint(b, offset); n != 0 || next != 0 || ok {
		t.Errorf("%s: ReadUvarint(%v, %d) = %d, %d, %v, want 0, 0, false", name, b, offset, n, next, ok)
	}
}

func TestReadUvarintRejects(t *testing.T) {
	for _, c := range badVarints {
		checkReadUvarintFails(t, c.name, c.bytes, 0)
		checkReadUvarintFails(t, c.name+", later", slices.Concat([]byte{5, 6}, c.bytes), 2)
	}
}

// What makes these invalid is already decided before the input ends.
func TestReadUvarintRejectsWhateverFollows(t *testing.T) {
	for _, c := range badVarints {
		if len(c.bytes) > 0 && c.bytes[len(c.bytes)-1] < 128 || len(c.bytes) >= 6 {
			checkReadUvarintFails(t, c.name+", more behind", slices.Concat(c.bytes, []byte{1, 1, 1}), 0)
		}
	}
}

func TestReadUvarintOffsets(t *testing.T) {
	b := []byte{7, 172, 2, 9}
	for _, offset := range append([]int{len(b), len(b) + 1, len(b) + 2}, badOffsets...) {
		checkReadUvarintFails(t, "offset", b, offset)
		checkReadUvarintFails(t, "offset in nil", nil, offset)
	}
	checkReadUvarintFails(t, "offset 0 in nil", nil, 0)
	cases := []struct{ offset, n, next int }{{0, 7, 1}, {1, 300, 3}, {2, 2, 3}, {3, 9, 4}}
	for _, c := range cases {
		if n, next, ok := impl.ReadUvarint(b, c.offset); n != c.n || next != c.next || !ok {
			t.Errorf("ReadUvarint(%v, %d) = %d, %d, %v, want %d, %d, true", b, c.offset, n, next, ok, c.n, c.next)
		}
	}
}

// The bytes behind the length of a slice are not part of the input, even if they would complete a varint.
func TestReadUvarintIgnoresSpareCapacity(t *testing.T) {
	whole := []byte{172, 2, 5}
	checkReadUvarintFails(t, "spare capacity", whole[:1], 0)
	checkReadUvarintFails(t, "spare capacity", whole[:2], 2)
	checkReadUvarintFails(t, "spare capacity", whole[:2], 3)
}

func TestReadUvarintInvertsAppendUvarint(t *testing.T) {
	check := func(n int) {
		b := impl.AppendUvarint([]byte{1, 2}, n)
		got, next, ok := impl.ReadUvarint(b, 2)
		if got != n || next != len(b) || !ok {
			t.Errorf("ReadUvarint(%v, 2) = %d, %d, %v, want %d, %d, true", b, got, next, ok, n, len(b))
		}
		for end := 2; end < len(b); end++ {
			checkReadUvarintFails(t, "cut off", b[:end], 2)
		}
	}
	for n := 0; n <= 70000; n++ {
		check(n)
	}
	for power := 1; power <= 1<<39; power *= 2 {
		check(power - 1)
		check(power)
		check(power + 1)
	}
	for n := 1; n <= impl.MaxValue; n = n*3 + 1 {
		check(n)
	}
	check(impl.MaxValue - 1)
	check(impl.MaxValue)
}

// No two encodings are read as the same integer: what is read is what AppendUvarint writes.
func TestReadUvarintAcceptsOneEncoding(t *testing.T) {
	for first := range 256 {
		for second := range 256 {
			for _, third := range []byte{0, 1, 127, 128} {
				b := []byte{byte(first), byte(second), third}
				n, next, ok := impl.ReadUvarint(b, 0)
				if !ok {
					if n != 0 || next != 0 {
						t.Errorf("ReadUvarint(%v, 0) = %d, %d, false", b, n, next)
					}
				} else if !bytes.Equal(impl.AppendUvarint(nil, n), b[:next]) {
					t.Errorf("ReadUvarint(%v, 0) = %d, %d, true", b, n, next)
				}
				wantOk := first < 128 || second >= 1 && second < 128 || second >= 128 && third >= 1 && third < 128
				if ok != wantOk {
					t.Errorf("ReadUvarint(%v, 0) is %v, want %v", b, ok, wantOk)
				}
			}
		}
	}
}

func TestAppendBytes(t *testing.T) {
	long := bytes.Repeat([]byte{200}, 300)
	cases := []struct{ b, data, want []byte }{
		{nil, nil, []byte{0}},
		{[]byte{}, []byte{}, []byte{0}},
		{[]byte{1}, nil, []byte{1, 0}},
		{[]byte{1}, []byte{7, 8}, []byte{1, 2, 7, 8}},
		{[]byte{128, 255}, []byte{0}, []byte{128, 255, 1, 0}},
		{nil, long[:127], slices.Concat([]byte{127}, long[:127])},
		{nil, long[:128], slices.Concat([]byte{128, 1}, long[:128])},
		{[]byte{4}, long, slices.Concat([]byte{4, 172, 2}, long)},
	}
	for _, c := range cases {
		if got := impl.AppendBytes(c.b, c.data); !bytes.Equal(got, c.want) {
			t.Errorf("AppendBytes(%v, %v) = %v, want %v", c.b, c.data, got, c.want)
		}
	}
}

func TestAppendBytesReturnsNewMemory(t *testing.T) {
	for _, first := range [][]byte{{}, {7}, {1, 2, 3}} {
		for _, second := range [][]byte{{}, {8}, bytes.Repeat([]byte{3}, 130)} {
			b, changedB := withSpare(first)
			data, changedData := withSpare(second)
			got := impl.AppendBytes(b, data)
			again := impl.AppendBytes(b, data)
			want := slices.Clone(got)
			flip(again)
			if !bytes.Equal(got, want) {
				t.Errorf("two results of AppendBytes(%v, %v) share memory", first, second)
			}
			flip(got)
			if changedB() || changedData() {
				t.Errorf("AppendBytes(%v, %v) or its result writes into an argument", first, second)
			}
			got = impl.AppendBytes(b, data)
			flip(b)
			flip(data)
			if !bytes.Equal(got, want) {
				t.Errorf("the result of AppendBytes(%v, %v) changes with an argument", first, second)
			}
		}
	}
}

func TestAppendBytesToItself(t *testing.T) {
	b, changed := withSpare([]byte{7, 8, 9})
	if got := impl.AppendBytes(b, b); !bytes.Equal(got, []byte{7, 8, 9, 3, 7, 8, 9}) {
		t.Errorf("AppendBytes(b, b) = %v", got)
	}
	if got := impl.AppendBytes(b[:1], b[1:]); !bytes.Equal(got, []byte{7, 2, 8, 9}) {
		t.Errorf("AppendBytes(b[:1], b[1:]) = %v", got)
	}
	if changed() {
		t.Error("AppendBytes writes into its argument")
	}
}

func TestReadBytes(t *testing.T) {
	long := bytes.Repeat([]byte{200}, 300)
	for _, data := range [][]byte{{}, {0}, {7, 8}, long[:127], long[:128], long} {
		for _, before := range [][]byte{{}, {1}, {128, 128, 128}} {
			for _, after := range [][]byte{{}, {0}, {255, 255}} {
				prefix := impl.AppendBytes(before, data)
				b := slices.Concat(prefix, after)
				for _, maxLen := range []int{len(data), len(data) + 1, 1000, impl.MaxValue, math.MaxInt} {
					got, next, ok := impl.ReadBytes(b, len(before), maxLen)
					if !bytes.Equal(got, data) || next != len(prefix) || !ok {
						t.Errorf("ReadBytes(%v, %d, %d) = %v, %d, %v, want %v, %d, true", b, len(before), maxLen, got, next, ok, data, len(prefix))
					}
				}
				for _, maxLen := range []int{len(data) - 1, -1, math.MinInt} {
					checkReadBytesFails(t, "length beyond maxLen", b, len(before), maxLen)
				}
			}
		}
	}
}

func checkReadBytesFails(t *testing.T, name string, b []byte, offset int, maxLen int) {
	t.Helper()
	if got, next, ok := impl.ReadBytes(b, offset, maxLen); len(got) != 0 || next != 0 || ok {
		t.Errorf("%s: ReadBytes(%v, %d, %d) = %v, %d, %v, want [], 0, false", name, b, offset, maxLen, got, next, ok)
	}
}

func TestReadBytesRejects(t *testing.T) {
	for _, c := range badVarints {
		checkReadBytesFails(t, c.name, c.bytes, 0, math.MaxInt)
	}
	cases := []struct {
		name  string
		bytes []byte
	}{
		{"one byte missing", []byte{1}},
		{"one of two missing", []byte{2, 7}},
		{"one of three missing", []byte{3, 7, 8}},
		{"one of 300 missing", slices.Concat([]byte{172, 2}, make([]byte, 299))},
		{"nearly all missing", slices.Concat([]byte{172, 2}, make([]byte, 3))},
		{"a length of MaxValue", slices.Concat(impl.AppendUvarint(nil, impl.MaxValue), make([]byte, 9))},
		{"a non-minimal length", []byte{130, 0, 7, 8}},
		{"a non-minimal length of nothing", []byte{128, 0}},
		{"a length above MaxValue", []byte{129, 160, 148, 165, 141, 29, 7, 8}},
		{"a length of seven bytes", []byte{129, 128, 128, 128, 128, 128, 0, 7, 8}},
	}
	for _, c := range cases {
		for _, maxLen := range []int{0, 1, 2, 300, impl.MaxValue, math.MaxInt, -1} {
			checkReadBytesFails(t, c.name, c.bytes, 0, maxLen)
			checkReadBytesFails(t, c.name+", later", slices.Concat([]byte{5, 6}, c.bytes), 2, maxLen)
		}
	}
}

func TestReadBytesOffsets(t *testing.T) {
	b := []byte{1, 9, 0, 2, 1, 0}
	for _, offset := range append([]int{len(b), len(b) + 1, len(b) + 2}, badOffsets...) {
		for _, maxLen := range []int{0, 5, math.MaxInt, -1} {
			checkReadBytesFails(t, "offset", b, offset, maxLen)
			checkReadBytesFails(t, "offset in nil", nil, offset, maxLen)
		}
	}
	if got, next, ok := impl.ReadBytes(b, 2, 0); len(got) != 0 || next != 3 || !ok {
		t.Errorf("ReadBytes(%v, 2, 0) = %v, %d, %v, want [], 3, true", b, got, next, ok)
	}
	if got, next, ok := impl.ReadBytes(b, 5, 0); len(got) != 0 || next != 6 || !ok {
		t.Errorf("ReadBytes(%v, 5, 0) = %v, %d, %v, want [], 6, true", b, got, next, ok)
	}
}

// The data is complete only if it lies within the length of the input, whatever lies in its capacity.
func TestReadBytesIgnoresSpareCapacity(t *testing.T) {
	whole := []byte{2, 7, 8, 9}
	checkReadBytesFails(t, "spare capacity", whole[:2], 0, 5)
	checkReadBytesFails(t, "spare capacity", whole[:1], 0, 5)
	checkReadBytesFails(t, "spare capacity", whole[:0], 0, 5)
}

func TestReadBytesReturnsNewMemory(t *testing.T) {
	for _, content := range [][]byte{{2, 7, 8}, {2, 7, 8, 5, 6}, {0}, {0, 5, 6}} {
		b, changed := withSpare(content)
		got, _, ok := impl.ReadBytes(b, 0, 5)
		again, _, _ := impl.ReadBytes(b, 0, 5)
		want := slices.Clone(got)
		if !ok {
			t.Fatalf("ReadBytes(%v, 0, 5) fails", content)
		}
		flip(again)
		if !bytes.Equal(got, want) {
			t.Errorf("two results of ReadBytes(%v, 0, 5) share memory", content)
		}
		flip(got)
		_ = append(got, 1, 2, 3)
		if changed() {
			t.Errorf("ReadBytes(%v, 0, 5) or its result writes into the argument", content)
		}
		got, _, _ = impl.ReadBytes(b, 0, 5)
		flip(b)
		if !bytes.Equal(got, want) {
			t.Errorf("the result of ReadBytes(%v, 0, 5) changes with the argument", content)
		}
	}
}

func TestEncodeInts(t *testing.T) {
	values, want := []int{}, []byte{}
	for _, c := range knownVarints {
		if got := impl.EncodeInts([]int{c.n}); !bytes.Equal(got, c.bytes) {
			t.Errorf("EncodeInts([%d]) = %v, want %v", c.n, got, c.bytes)
		}
		values = append(values, c.n)
		want = append(want, c.bytes...)
	}
	if got := impl.EncodeInts(values); !bytes.Equal(got, want) {
		t.Errorf("EncodeInts(%v) = %v, want %v", values, got, want)
	}
	if got := impl.EncodeInts(nil); len(got) != 0 {
		t.Errorf("EncodeInts(nil) = %v", got)
	}
	if got := impl.EncodeInts([]int{}); len(got) != 0 {
		t.Errorf("EncodeInts([]) = %v", got)
	}
}

func TestEncodeIntsOmitsWhatIsOutOfRange(t *testing.T) {
	for _, n := range outsideEncoding {
		cases := []struct {
			values []int
			want   []byte
		}{
			{[]int{n}, []byte{}},
			{[]int{n, 5}, []byte{5}},
			{[]int{5, n}, []byte{5}},
			{[]int{300, n, n, 6}, []byte{172, 2, 6}},
		}
		for _, c := range cases {
			if got := impl.EncodeInts(c.values); !bytes.Equal(got, c.want) {
				t.Errorf("EncodeInts(%v) = %v, want %v", c.values, got, c.want)
			}
		}
	}
}

func TestEncodeIntsLeavesItsArgument(t *testing.T) {
	whole := []int{5, -1, 300, impl.MaxValue + 1, 77, 78}
	before := slices.Clone(whole)
	first := impl.EncodeInts(whole[:4])
	second := impl.EncodeInts(whole[:4])
	flip(second)
	if !bytes.Equal(first, []byte{5, 172, 2}) {
		t.Errorf("EncodeInts = %v, or two results share memory", first)
	}
	if !slices.Equal(whole, before) {
		t.Errorf("EncodeInts changes its argument to %v", whole)
	}
}

// The number of values that EncodeInts takes is not limited as that of DecodeInts is.
func TestEncodeIntsOfManyValues(t *testing.T) {
	values := make([]int, 100000)
	for i := range values {
		values[i] = i
	}
	b := impl.EncodeInts(values)
	offset := 0
	for _, want := range values {
		n, next, ok := impl.ReadUvarint(b, offset)
		if n != want || !ok {
			t.Fatalf("value %d is read as %d, %v", want, n, ok)
		}
		offset = next
	}
	if offset != len(b) {
		t.Errorf("%d bytes follow the last value", len(b)-offset)
	}
}

func TestDecodeInts(t *testing.T) {
	many := make([]int, 100)
	for i := range many {
		many[i] = i * i * i * i * i
	}
	for _, values := range [][]int{{}, {0}, {5, 300}, {127, 128, impl.MaxValue, 0}, many[:99], many} {
		for _, before := range [][]byte{{}, {1}, {128, 128}} {
			for _, after := range [][]byte{{}, {0}, {255}} {
				prefix := slices.Concat(before, impl.EncodeInts(values))
				b := slices.Concat(prefix, after)
				got, next, ok := impl.DecodeInts(b, len(before), len(values))
				if !slices.Equal(got, values) || next != len(prefix) || !ok {
					t.Errorf("DecodeInts(%v, %d, %d) = %v, %d, %v, want %v, %d, true", b, len(before), len(values), got, next, ok, values, len(prefix))
				}
			}
		}
	}
}

func TestDecodeIntsTakesOnlyCountValues(t *testing.T) {
	b := []byte{5, 172, 2, 7}
	cases := []struct {
		offset, count int
		want          []int
		next          int
	}{
		{0, 0, []int{}, 0}, {0, 1, []int{5}, 1}, {0, 2, []int{5, 300}, 3}, {0, 3, []int{5, 300, 7}, 4},
		{1, 0, []int{}, 1}, {1, 1, []int{300}, 3}, {1, 2, []int{300, 7}, 4},
		{2, 2, []int{2, 7}, 4},
		{4, 0, []int{}, 4},
	}
	for _, c := range cases {
		got, next, ok := impl.DecodeInts(b, c.offset, c.count)
		if !slices.Equal(got, c.want) || next != c.next || !ok {
			t.Errorf("DecodeInts(%v, %d, %d) = %v, %d, %v, want %v, %d, true", b, c.offset, c.count, got, next, ok, c.want, c.next)
		}
	}
	if got, next, ok := impl.DecodeInts(nil, 0, 0); len(got) != 0 || next != 0 || !ok {
		t.Errorf("DecodeInts(nil, 0, 0) = %v, %d, %v, want [], 0, true", got, next, ok)
	}
}

func checkDecodeIntsFails(t *testing.T, name string, b []byte, offset int, count int) {
	t.Helper()
	if got, next, ok := impl.DecodeInts(b, offset, count); len(got) != 0 || next != 0 || ok {
		t.Errorf("%s: DecodeInts(%v, %d, %d) = %v, %d, %v, want [], 0, false", name, b, offset, count, got, next, ok)
	}
}

func TestDecodeIntsRejects(t *testing.T) {
	for _, c := range badVarints {
		checkDecodeIntsFails(t, c.name, c.bytes, 0, 1)
		checkDecodeIntsFails(t, c.name+", second", slices.Concat([]byte{5}, c.bytes), 0, 2)
		checkDecodeIntsFails(t, c.name+", third", slices.Concat([]byte{5, 172, 2}, c.bytes), 0, 3)
	}
	checkDecodeIntsFails(t, "too few", []byte{5, 172, 2}, 0, 3)
	checkDecodeIntsFails(t, "nothing left", []byte{5, 172, 2}, 3, 1)
	checkDecodeIntsFails(t, "one of 100 missing", make([]byte, 99), 0, 100)
	checkDecodeIntsFails(t, "one of 100 missing", make([]byte, 150), 51, 100)
	checkDecodeIntsFails(t, "spare capacity", make([]byte, 2, 9), 0, 3)
}

func TestDecodeIntsCounts(t *testing.T) {
	b := make([]byte, 200)
	for _, count := range []int{0, 1, 99, 100} {
		if got, next, ok := impl.DecodeInts(b, 3, count); len(got) != count || next != 3+count || !ok {
			t.Errorf("DecodeInts(b, 3, %d) = %d values, %d, %v", count, len(got), next, ok)
		}
	}
	for _, count := range []int{-1, 101, 102, math.MinInt, math.MaxInt, impl.MaxValue} {
		checkDecodeIntsFails(t, "count", b, 3, count)
		checkDecodeIntsFails(t, "count in nil", nil, 0, count)
	}
}

func TestDecodeIntsOffsets(t *testing.T) {
	b := []byte{5, 172, 2}
	for _, offset := range append([]int{len(b) + 1, len(b) + 2}, badOffsets...) {
		for _, count := range []int{0, 1, 100, 101, -1} {
			checkDecodeIntsFails(t, "offset", b, offset, count)
			checkDecodeIntsFails(t, "offset in nil", nil, offset, count)
		}
	}
	checkDecodeIntsFails(t, "offset in spare capacity", b[:1], 2, 0)
}

func TestDecodingLeavesItsArgument(t *testing.T) {
	b, changed := withSpare([]byte{5, 172, 2, 1, 9})
	impl.ReadUvarint(b, 1)
	first, _, _ := impl.DecodeInts(b, 0, 2)
	second, _, _ := impl.DecodeInts(b, 0, 2)
	first[0], first[1] = 1, 1
	if !slices.Equal(second, []int{5, 300}) {
		t.Errorf("DecodeInts = %v, or two results share memory", second)
	}
	impl.DecodeInts(b, 0, 99)
	impl.ReadBytes(b, 0, 2)
	impl.EqualBytes(b, b[:2])
	if changed() {
		t.Error("an argument was changed")
	}
}

func TestEqualBytes(t *testing.T) {
	cases := []struct {
		a, b []byte
		want bool
	}{
		{nil, nil, true},
		{nil, []byte{}, true},
		{[]byte{}, nil, true},
		{[]byte{}, []byte{}, true},
		{[]byte{7}, []byte{7}, true},
		{[]byte{7, 8, 255}, []byte{7, 8, 255}, true},
		{nil, []byte{0}, false},
		{[]byte{0}, nil, false},
		{[]byte{0}, []byte{}, false},
		{[]byte{7}, []byte{8}, false},
		{[]byte{7, 8}, []byte{7}, false},
		{[]byte{7}, []byte{7, 8}, false},
		{[]byte{7, 8}, []byte{8, 7}, false},
		{[]byte{1, 2, 3}, []byte{9, 2, 3}, false},
		{[]byte{1, 2, 3}, []byte{1, 9, 3}, false},
		{[]byte{1, 2, 3}, []byte{1, 2, 9}, false},
		{make([]byte, 2, 5), make([]byte, 2), true},
	}
	for _, c := range cases {
		if got := impl.EqualBytes(c.a, c.b); got != c.want {
			t.Errorf("EqualBytes(%v, %v) = %v, want %v", c.a, c.b, got, c.want)
		}
	}
}
