package tests

import (
	"bytes"
	"math"
	"slices"
	"testing"

	"loop.example/g00513/impl"
)

var (
	badSymbolWidths = []int{math.MinInt, math.MinInt + 1, -1 << 32, -17, -16, -2, -1, 0, 17, 18, 32, 40, 401, 1 << 32, 1<<32 + 2, math.MaxInt - 1, math.MaxInt}
	badSizes        = []int{math.MinInt, math.MinInt + 1, -1 << 32, -9, -8, -2, -1, 0, 9, 10, 16, 401, 1 << 32, 1<<32 + 2, math.MaxInt - 1, math.MaxInt}
	badFirsts       = []int{math.MinInt, math.MinInt + 1, -1 << 32, -2, -1, 999999999591, 999999999592, 999999999999, 1000000000000, 1000000000001, math.MaxInt - 1, math.MaxInt}
	badIds          = []int{math.MinInt, math.MinInt + 1, -1 << 32, -2, -1, 1000000000001, 1000000000002, 1 << 62, math.MaxInt - 1, math.MaxInt}
	goodIds         = []int{0, 1, 5, 1 << 32, 999999999590, 999999999591, 999999999999, 1000000000000}
)

// sampleMessages are of all lengths. Those that end in zeros are told from padding only by their length.
func sampleMessages() [][]byte {
	messages := [][]byte{nil, {}}
	for length := 1; length <= 400; length++ {
		messages = append(messages, sampleMessage(length), make([]byte, length), bytes.Repeat([]byte{255}, length))
	}
	return messages
}

func sampleMessage(length int) []byte {
	data := make([]byte, length)
	for i := range data {
		data[i] = byte(i*i + i*37 + length*11)
	}
	return data
}

func fewMessages() [][]byte {
	messages := [][]byte{nil}
	for _, length := range []int{1, 2, 3, 6, 7, 8, 14, 15, 16, 62, 126, 127, 128, 129, 130, 398, 399, 400} {
		messages = append(messages, sampleMessage(length), make([]byte, length))
	}
	return messages
}

func lengthComponents(length int) []int {
	if length < 128 {
		return []int{length}
	}
	return []int{128 + length%128, length / 128}
}

// expectedSymbols puts every byte where it belongs, without the package.
func expectedSymbols(data []byte, width int) [][]int {
	components := lengthComponents(len(data))
	for _, c := range data {
		components = append(components, int(c))
	}
	symbols := [][]int{}
	for i, x := range components {
		if i%width == 0 {
			symbols = append(symbols, filledVector(width, 0))
		}
		symbols[i/width][i%width] = x
	}
	return symbols
}

// expectedData tries all lengths of a message that the symbols could begin with.
func expectedData(symbols [][]int) ([]byte, bool) {
	if len(symbols) == 0 || len(symbols[0]) < 1 || len(symbols[0]) > 16 {
		return nil, false
	}
	components := slices.Concat(symbols...)
	for length := range 401 {
		start := len(lengthComponents(length))
		if start+length > len(components) || !slices.Equal(components[:start], lengthComponents(length)) {
			continue
		}
		data := []byte{}
		for _, x := range components[start : start+length] {
			data = append(data, byte(x))
		}
		if sameMatrix(expectedSymbols(data, len(symbols[0])), symbols) {
			return data, true
		}
	}
	return nil, false
}

func generation(id int, symbols ...[]int) impl.Generation {
	return impl.Generation{Id: id, Symbols: symbols}
}

func expectData(t *testing.T, what string, got []byte, ok bool, want []byte) {
	t.Helper()
	if !ok || !bytes.Equal(got, want) {
		t.Errorf("%s: got %v, %v, want %v, true", what, got, ok, want)
	}
}

func rejectSymbols(t *testing.T, what string, symbols [][]int) {
	t.Helper()
	if got, ok := impl.SymbolsToBytes(symbols); ok || len(got) != 0 {
		t.Errorf("%s: SymbolsToBytes(%v) = %v, %v", what, symbols, got, ok)
	}
}

func checkSymbols(t *testing.T, what string, symbols [][]int) {
	t.Helper()
	want, ok := expectedData(symbols)
	if !ok {
		rejectSymbols(t, what, symbols)
		return
	}
	got, ok := impl.SymbolsToBytes(symbols)
	expectData(t, what, got, ok, want)
}

func rejectList(t *testing.T, what string, list []impl.Generation) {
	t.Helper()
	if got, ok := impl.JoinGenerations(list); ok || len(got) != 0 {
		t.Errorf("%s: JoinGenerations(%v) = %v, %v", what, list, got, ok)
	}
}

func sameGeneration(a impl.Generation, b impl.Generation) bool {
	return a.Id == b.Id && sameMatrix(a.Symbols, b.Symbols)
}

func expectList(t *testing.T, what string, got []impl.Generation, want []impl.Generation) {
	t.Helper()
	if !slices.EqualFunc(got, want, sameGeneration) {
		t.Errorf("%s: got %v, want %v", what, got, want)
	}
}

func copyList(list []impl.Generation) []impl.Generation {
	copied := []impl.Generation{}
	for _, g := range list {
		copied = append(copied, impl.Generation{Id: g.Id, Symbols: copyRows(g.Symbols)})
	}
	return copied
}

// divided gives every size in turn to one generation.
func divided(symbols [][]int, first int, sizes ...int) []impl.Generation {
	list := []impl.Generation{}
	for len(symbols) > 0 {
		size := min(sizes[len(list)%len(sizes)], len(symbols))
		list = append(list, impl.Generation{Id: first + len(list), Symbols: copyRows(symbols[:size])})
		symbols = symbols[size:]
	}
	return list
}

func everyWidth(visit func(data []byte, width int)) {
	for _, data := range sampleMessages() {
		for width := 1; width <= 16; width++ {
			visit(data, width)
		}
	}
}

func TestLimitsOfGenerations(t *testing.T) {
	if impl.MaxGenerationSize != 8 || impl.MaxSymbolWidth != 16 || impl.MaxMessage != 400 {
		t.Errorf("the limits are %d, %d and %d", impl.MaxGenerationSize, impl.MaxSymbolWidth, impl.MaxMessage)
	}
}

func TestBytesToSymbols(t *testing.T) {
	cases := []struct {
		data  []byte
		width int
		want  [][]int
	}{
		{[]byte{7, 8}, 2, [][]int{{2, 7}, {8, 0}}},
		{nil, 1, [][]int{{0}}},
		{[]byte{}, 1, [][]int{{0}}},
		{nil, 3, [][]int{{0, 0, 0}}},
		{nil, 16, [][]int{filledVector(16, 0)}},
		{[]byte{0}, 1, [][]int{{1}, {0}}},
		{[]byte{0}, 2, [][]int{{1, 0}}},
		{[]byte{0}, 3, [][]int{{1, 0, 0}}},
		{[]byte{255}, 1, [][]int{{1}, {255}}},
		{[]byte{7, 8}, 1, [][]int{{2}, {7}, {8}}},
		{[]byte{7, 8}, 3, [][]int{{2, 7, 8}}},
		{[]byte{7, 8}, 4, [][]int{{2, 7, 8, 0}}},
		{[]byte{7, 8, 9}, 2, [][]int{{3, 7}, {8, 9}}},
		{[]byte{7, 8, 9, 200}, 3, [][]int{{4, 7, 8}, {9, 200, 0}}},
		{[]byte("hello"), 2, [][]int{{5, 104}, {101, 108}, {108, 111}}},
	}
	for _, c := range cases {
		expectMatrix(t, "BytesToSymbols", impl.BytesToSymbols(c.data, c.width), c.want)
	}
}

// From 128 bytes on, the length takes two bytes.
func TestBytesToSymbolsOfLongMessages(t *testing.T) {
	cases := []struct {
		length, width, count int
		first, last          []int
	}{
		{127, 2, 64, []int{127, 5}, []int{5, 5}},
		{127, 16, 8, []int{127, 5, 5, 5, 5, 5, 5, 5, 5, 5, 5, 5, 5, 5, 5, 5}, filledVector(16, 5)},
		{128, 1, 130, []int{128}, []int{5}},
		{128, 2, 65, []int{128, 1}, []int{5, 5}},
		{128, 3, 44, []int{128, 1, 5}, []int{5, 0, 0}},
		{128, 16, 9, []int{128, 1, 5, 5, 5, 5, 5, 5, 5, 5, 5, 5, 5, 5, 5, 5}, []int{5, 5, 0, 0, 0, 0, 0, 0, 0, 0, 0, 0, 0, 0, 0, 0}},
		{400, 1, 402, []int{144}, []int{5}},
		{400, 4, 101, []int{144, 3, 5, 5}, []int{5, 5, 0, 0}},
		{400, 6, 67, []int{144, 3, 5, 5, 5, 5}, filledVector(6, 5)},
	}
	for _, c := range cases {
		got := impl.BytesToSymbols(bytes.Repeat([]byte{5}, c.length), c.width)
		if len(got) != c.count {
			t.Errorf("%d bytes have %d symbols of width %d, want %d", c.length, len(got), c.width, c.count)
			continue
		}
		expectVector(t, "first symbol", got[0], c.first)
		expectVector(t, "last symbol", got[c.count-1], c.last)
	}
}

func TestBytesToSymbolsOfAllLengths(t *testing.T) {
	everyWidth(func(data []byte, width int) {
		got := impl.BytesToSymbols(data, width)
		if !sameMatrix(got, expectedSymbols(data, width)) {
			t.Errorf("BytesToSymbols(%v, %d) = %v", data, width, got)
		}
	})
}

func TestBytesToSymbolsRejects(t *testing.T) {
	reject := func(data []byte, width int) {
		t.Helper()
		if got := impl.BytesToSymbols(data, width); len(got) != 0 {
			t.Errorf("BytesToSymbols of %d bytes with width %d = %v", len(data), width, got)
		}
	}
	for _, length := range []int{0, 1, 2, 16, 127, 128, 400, 401} {
		for _, width := range badSymbolWidths {
			reject(sampleMessage(length), width)
			reject(nil, width)
		}
	}
	for _, length := range []int{401, 402, 416, 512, 656, 1000, 1 << 16, 1<<16 + 3, 1 << 20} {
		for width := 1; width <= 16; width++ {
			reject(make([]byte, length), width)
			reject(sampleMessage(length), width)
		}
	}
}

func TestSymbolsToBytes(t *testing.T) {
	cases := []struct {
		symbols [][]int
		want    []byte
	}{
		{[][]int{{2, 7}, {8, 0}}, []byte{7, 8}},
		{[][]int{{0}}, nil},
		{[][]int{{0, 0, 0}}, nil},
		{[][]int{{1}, {0}}, []byte{0}},
		{[][]int{{1, 0}}, []byte{0}},
		{[][]int{{2, 0}, {0, 0}}, []byte{0, 0}},
		{[][]int{{1}, {255}}, []byte{255}},
		{[][]int{{2, 7, 8}}, []byte{7, 8}},
		{[][]int{{5, 104}, {101, 108}, {108, 111}}, []byte("hello")},
	}
	for _, c := range cases {
		got, ok := impl.SymbolsToBytes(c.symbols)
		expectData(t, "SymbolsToBytes", got, ok, c.want)
	}
}

func TestSymbolsToBytesInvertsBytesToSymbols(t *testing.T) {
	everyWidth(func(data []byte, width int) {
		got, ok := impl.SymbolsToBytes(expectedSymbols(data, width))
		expectData(t, "from symbols written out", got, ok, data)
		got, ok = impl.SymbolsToBytes(impl.BytesToSymbols(data, width))
		expectData(t, "from BytesToSymbols", got, ok, data)
	})
}

func TestSymbolsToBytesRejects(t *testing.T) {
	cases := []struct {
		name    string
		symbols [][]int
	}{
		{"nil", nil},
		{"empty", [][]int{}},
		{"a nil symbol", [][]int{nil}},
		{"an empty symbol", [][]int{{}}},
		{"empty symbols", [][]int{{}, {}, nil}},
		{"the first symbol is empty", [][]int{{}, {2, 7}, {8, 0}}},
		{"the first symbol is empty, width 1", [][]int{{}, {0}}},
		{"the last symbol is empty", [][]int{{2, 7}, {8, 0}, {}}},
		{"an empty symbol in between", [][]int{{2, 7}, {}, {8, 0}}},
		{"a short first symbol", [][]int{{2}, {7, 8}}},
		{"a short last symbol", [][]int{{2, 7}, {8}}},
		{"a long last symbol", [][]int{{2, 7}, {8, 0, 0}}},
		{"a short symbol in between", [][]int{{4, 7}, {8}, {9, 10}}},
		{"symbols that are exchanged in length", [][]int{{3, 7}, {8}, {9}}},
		{"padding of 1", [][]int{{2, 7}, {8, 1}}},
		{"padding of 255", [][]int{{2, 7}, {8, 255}}},
		{"padding of 256", [][]int{{2, 7}, {8, 256}}},
		{"padding of -1", [][]int{{2, 7}, {8, -1}}},
		{"padding after no data", [][]int{{0, 0, 1}}},
		{"a symbol of padding", [][]int{{2, 7}, {8, 0}, {0, 0}}},
		{"a symbol of padding after full ones", [][]int{{3, 7}, {8, 9}, {0, 0}}},
		{"a symbol of padding after no data", [][]int{{0}, {0}}},
		{"a symbol of padding after one byte", [][]int{{1}, {7}, {0}}},
		{"many symbols of padding", append([][]int{{2, 7}, {8, 0}}, filledMatrix(500, 2, 0)...)},
		{"a component of -1", [][]int{{2, 7}, {-1, 0}}},
		{"a component of 256", [][]int{{2, 7}, {256, 0}}},
		{"a component of 264", [][]int{{2, 7}, {264, 0}}},
		{"a component of -248", [][]int{{2, 7}, {-248, 0}}},
		{"a component of 1018", [][]int{{2, 7}, {1018, 0}}},
		{"a component of 1019", [][]int{{2, 7}, {1019, 0}}},
		{"a component of 1<<32", [][]int{{2, 7}, {1<<32 + 8, 0}}},
		{"the least component", [][]int{{2, 7}, {math.MinInt, 0}}},
		{"the greatest component", [][]int{{2, 7}, {math.MaxInt, 0}}},
		{"a length of 258", [][]int{{258, 7}, {8, 0}}},
		{"a length of -254", [][]int{{-254, 7}, {8, 0}}},
		{"a length of 256 for no data", [][]int{{256}}},
		{"a length of 0 in two bytes", [][]int{{128, 0}}},
		{"a length of 2 in two bytes", [][]int{{130, 0}, {7, 8}}},
		{"a length of 2 in three bytes", [][]int{{130, 128}, {0, 7}, {8, 0}}},
		{"a length that ends too early", [][]int{{130}}},
		{"a length that never ends", filledMatrix(10, 2, 255)},
		{"one byte too few", [][]int{{3, 7, 8}}},
		{"two bytes too few", [][]int{{5, 7}, {8, 9}}},
		{"no byte but a length", [][]int{{1}}},
		{"too wide", [][]int{{2, 7, 8, 0, 0, 0, 0, 0, 0, 0, 0, 0, 0, 0, 0, 0, 0}}},
		{"too wide for no data", [][]int{filledVector(17, 0)}},
		{"wider than a vector", [][]int{filledVector(41, 0)}},
	}
	for _, c := range cases {
		rejectSymbols(t, c.name, c.symbols)
	}
}

// A byte too many is no padding, and zeros at the end count if the length says so.
func TestSymbolsToBytesTrustsTheLength(t *testing.T) {
	for width := 1; width <= 16; width++ {
		for length := range 3 * width {
			symbols := expectedSymbols(make([]byte, length), width)
			for other := range 3*width + 2 {
				changed := withRow(symbols, 0, withComponent(symbols[0], 0, other))
				checkSymbols(t, "another length", changed)
			}
		}
	}
}

// A message that is longer than MaxMessage has no symbols, even if they would be complete.
func TestSymbolsToBytesRejectsLongMessages(t *testing.T) {
	for width := 1; width <= 16; width++ {
		for _, length := range []int{401, 402, 415, 416, 512, 1000, 16383} {
			rejectSymbols(t, "too long", expectedSymbols(make([]byte, length), width))
			rejectSymbols(t, "too long", expectedSymbols(sampleMessage(length), width))
		}
		huge := [][]int{{255, 255, 255, 127, 9}, {128, 160, 148, 165, 141, 29}, {129, 160, 148, 165, 141, 29}, {255, 255, 255, 255, 255, 255, 255, 255, 255, 1}}
		for _, header := range huge {
			text := slices.Concat(header, filledVector(16*width, 0))
			rejectSymbols(t, "a huge length", slices.Collect(slices.Chunk(text[:16*width], width)))
		}
	}
}

func TestSymbolsToBytesOfWideSymbols(t *testing.T) {
	for _, width := range []int{17, 18, 32, 40, 41, 400, 402, 1000} {
		for _, length := range []int{0, 1, 15, 16, 127, 128, 400} {
			rejectSymbols(t, "too wide", expectedSymbols(sampleMessage(length), width))
		}
	}
}

// All small matrices are compared with the definition: what BytesToSymbols returns for no data is rejected.
func TestSymbolsToBytesOfSmallSymbols(t *testing.T) {
	accepted := 0
	check := func(m [][]int) {
		if _, ok := expectedData(m); ok {
			accepted++
		}
		checkSymbols(t, "small symbols", m)
	}
	for rows := range 4 {
		for columns := range 4 {
			components := []int{0, 1, 2, 3, 5, 128, 255, 256, -1}
			if rows*columns > 4 {
				components = components[:5]
			}
			if rows*columns > 6 {
				components = []int{0, 2, 6}
			}
			everyMatrix(rows, columns, components, check)
		}
	}
	if accepted < 100 {
		t.Errorf("only %d of the small matrices are symbols of a message", accepted)
	}
}

func TestSymbolsToBytesLooksAtEveryComponent(t *testing.T) {
	for _, data := range fewMessages() {
		for _, width := range []int{1, 2, 3, 7, 15, 16} {
			symbols := expectedSymbols(data, width)
			for _, i := range spots(len(symbols)) {
				for j := range width {
					x := symbols[i][j]
					for _, component := range []int{x + 1, x + 256, x - 256, x + 1<<32, x ^ 128, x ^ 1} {
						checkSymbols(t, "another component", withRow(symbols, i, withComponent(symbols[i], j, component)))
					}
					checkSymbols(t, "a component left out", withRow(symbols, i, slices.Delete(slices.Clone(symbols[i]), j, j+1)))
					rejectSymbols(t, "a component of 256", withRow(symbols, i, withComponent(symbols[i], j, 256)))
				}
				checkSymbols(t, "a component too many", withRow(symbols, i, append(slices.Clone(symbols[i]), 0)))
				checkSymbols(t, "a symbol left out", slices.Delete(slices.Clone(symbols), i, i+1))
				checkSymbols(t, "a symbol twice", slices.Insert(slices.Clone(symbols), i, symbols[i]))
			}
			rejectSymbols(t, "a symbol of padding", append(slices.Clone(symbols), filledVector(width, 0)))
			rejectSymbols(t, "an empty symbol", append(slices.Clone(symbols), nil))
			rejectSymbols(t, "no last symbol", symbols[:len(symbols)-1])
		}
	}
}

func TestSplitMessage(t *testing.T) {
	cases := []struct {
		data               []byte
		width, size, first int
		want               []impl.Generation
	}{
		{[]byte("hello"), 2, 2, 5, []impl.Generation{generation(5, []int{5, 104}, []int{101, 108}), generation(6, []int{108, 111})}},
		{[]byte("hello"), 2, 1, 0, []impl.Generation{generation(0, []int{5, 104}), generation(1, []int{101, 108}), generation(2, []int{108, 111})}},
		{[]byte("hello"), 2, 3, 7, []impl.Generation{generation(7, []int{5, 104}, []int{101, 108}, []int{108, 111})}},
		{[]byte("hello"), 2, 8, 7, []impl.Generation{generation(7, []int{5, 104}, []int{101, 108}, []int{108, 111})}},
		{[]byte("hello"), 16, 8, 7, []impl.Generation{generation(7, []int{5, 104, 101, 108, 108, 111, 0, 0, 0, 0, 0, 0, 0, 0, 0, 0})}},
		{[]byte{7, 8}, 1, 2, 999999999590, []impl.Generation{generation(999999999590, []int{2}, []int{7}), generation(999999999591, []int{8})}},
		{nil, 1, 1, 0, []impl.Generation{generation(0, []int{0})}},
		{[]byte{}, 2, 8, 3, []impl.Generation{generation(3, []int{0, 0})}},
	}
	for _, c := range cases {
		expectList(t, "SplitMessage", impl.SplitMessage(c.data, c.width, c.size, c.first), c.want)
	}
}

func TestSplitMessageOfAllSizes(t *testing.T) {
	for _, data := range fewMessages() {
		for width := 1; width <= 16; width++ {
			for size := 1; size <= 8; size++ {
				for _, first := range []int{0, 1, 5, 999999999589, 999999999590} {
					want := divided(expectedSymbols(data, width), first, size)
					expectList(t, "SplitMessage", impl.SplitMessage(data, width, size, first), want)
				}
			}
		}
	}
}

func TestSplitMessageReturnsValidGenerations(t *testing.T) {
	for _, data := range fewMessages() {
		for _, first := range []int{0, 999999999590} {
			for width := 1; width <= 16; width++ {
				for size := 1; size <= 8; size++ {
					list := impl.SplitMessage(data, width, size, first)
					for i, g := range list {
						full := impl.GenerationSize(g) == size || i == len(list)-1
						if !impl.IsValidGeneration(g) || impl.SymbolWidth(g) != width || !full || g.Id != first+i {
							t.Errorf("SplitMessage(%v, %d, %d, %d) has %v at %d", data, width, size, first, g, i)
						}
					}
				}
			}
		}
	}
}

func TestSplitMessageRejects(t *testing.T) {
	reject := func(data []byte, width int, size int, first int) {
		t.Helper()
		if got := impl.SplitMessage(data, width, size, first); len(got) != 0 {
			t.Errorf("SplitMessage of %d bytes with %d, %d, %d = %v", len(data), width, size, first, got)
		}
	}
	for _, data := range [][]byte{nil, {}, {7, 8}, sampleMessage(128), sampleMessage(400)} {
		for _, width := range badSymbolWidths {
			reject(data, width, 2, 0)
			reject(data, width, 1, 999999999590)
			reject(data, width, 0, -1)
		}
		for _, width := range []int{1, 2, 16} {
			for _, size := range badSizes {
				reject(data, width, size, 0)
				reject(data, width, size, 5)
			}
			for _, first := range badFirsts {
				reject(data, width, 1, first)
				reject(data, width, 8, first)
			}
		}
	}
	for _, length := range []int{401, 402, 1000, 1 << 16} {
		reject(make([]byte, length), 1, 1, 0)
		reject(sampleMessage(length), 16, 8, 5)
	}
}

func TestMessagesAreRestored(t *testing.T) {
	for _, data := range sampleMessages() {
		for width := 1; width <= 16; width++ {
			size := 1 + (len(data)+width)%8
			got, ok := impl.JoinGenerations(impl.SplitMessage(data, width, size, len(data)))
			expectData(t, "after SplitMessage", got, ok, data)
		}
	}
}

func TestMessagesAreRestoredFromAllSizes(t *testing.T) {
	for _, data := range fewMessages() {
		for width := 1; width <= 16; width++ {
			for size := 1; size <= 8; size++ {
				for _, first := range []int{0, 5, 999999999590} {
					got, ok := impl.JoinGenerations(impl.SplitMessage(data, width, size, first))
					expectData(t, "after SplitMessage", got, ok, data)
				}
			}
		}
	}
}

// JoinGenerations asks for no common size, and takes Ids that SplitMessage never gives.
func TestJoinGenerationsOfOtherSizes(t *testing.T) {
	for _, data := range fewMessages() {
		for _, width := range []int{1, 2, 5, 16} {
			symbols := expectedSymbols(data, width)
			for _, sizes := range [][]int{{1, 8}, {8, 1}, {3, 1, 2}, {1, 1, 1, 7}, {2, 5, 8, 3}} {
				last := 1000000000000 - len(divided(symbols, 0, sizes...)) + 1
				for _, first := range []int{0, 7, last - 1, last} {
					got, ok := impl.JoinGenerations(divided(symbols, first, sizes...))
					expectData(t, "other sizes", got, ok, data)
				}
				for _, first := range []int{last + 1, 1000000000001, -1, math.MaxInt, math.MinInt} {
					rejectList(t, "an Id out of range", divided(symbols, first, sizes...))
				}
			}
		}
	}
}

func TestJoinGenerationsKnown(t *testing.T) {
	first := impl.Generation{Id: 5, Symbols: [][]int{{5, 104}, {101, 108}}}
	second := impl.Generation{Id: 6, Symbols: [][]int{{108, 111}}}
	got, ok := impl.JoinGenerations([]impl.Generation{first, second})
	expectData(t, "two generations", got, ok, []byte("hello"))
	got, ok = impl.JoinGenerations([]impl.Generation{{Id: 9, Symbols: [][]int{{0}}}})
	expectData(t, "no data", got, ok, nil)
	rejectList(t, "nil", nil)
	rejectList(t, "empty", []impl.Generation{})
	rejectList(t, "only the first", []impl.Generation{first})
	rejectList(t, "only the second", []impl.Generation{second})
	rejectList(t, "exchanged", []impl.Generation{second, first})
	rejectList(t, "the second twice", []impl.Generation{first, second, second})
	rejectList(t, "the first twice", []impl.Generation{first, first, second})
	rejectList(t, "the zero generation", []impl.Generation{{}})
	rejectList(t, "the zero generation behind", []impl.Generation{first, second, {}})
	rejectList(t, "the zero generation with the next Id", []impl.Generation{first, second, {Id: 7}})
	rejectList(t, "padding", []impl.Generation{first, second, {Id: 7, Symbols: [][]int{{0, 0}}}})
}

// The symbols, one after the other, are those of a message; only the Ids are wrong.
func TestJoinGenerationsLooksAtEveryId(t *testing.T) {
	for _, length := range []int{20, 128, 400} {
		list := divided(expectedSymbols(sampleMessage(length), 3), 50, 3)
		for i := range list {
			for _, id := range append([]int{49, 50, 51, 50 + len(list), list[i].Id - 1, list[i].Id + 1, list[i].Id + 1<<32, -list[i].Id, 0, 1000000000000}, badIds...) {
				changed := copyList(list)
				changed[i].Id = id
				if id != list[i].Id {
					rejectList(t, "another Id", changed)
				}
			}
		}
		for step := range 4 {
			changed := copyList(list)
			for i := range changed {
				changed[i].Id = 50 + i*step
			}
			if step != 1 {
				rejectList(t, "Ids with another step", changed)
			}
			slices.Reverse(changed)
			for i := range changed {
				changed[i].Symbols = list[i].Symbols
			}
			rejectList(t, "falling Ids", changed)
		}
	}
}

func TestJoinGenerationsNoticesMissingAndExchanged(t *testing.T) {
	for _, length := range []int{20, 127, 128, 400} {
		for _, width := range []int{1, 2, 3, 7} {
			list := divided(expectedSymbols(sampleMessage(length), width), 0, 2)
			for i := range list {
				rejectList(t, "one missing", slices.Delete(slices.Clone(list), i, i+1))
				rejectList(t, "one twice", slices.Insert(slices.Clone(list), i, list[i]))
				for _, j := range []int{0, i / 2, len(list) - 1} {
					exchanged := slices.Clone(list)
					exchanged[i], exchanged[j] = list[j], list[i]
					if i != j {
						rejectList(t, "exchanged", exchanged)
					}
				}
				if i > 0 {
					rejectList(t, "only the first ones", list[:i])
				}
			}
			got, ok := impl.JoinGenerations(list)
			expectData(t, "all generations", got, ok, sampleMessage(length))
		}
	}
}

// A list may begin anywhere: what follows decides whether it is a message.
func TestJoinGenerationsOfARest(t *testing.T) {
	data := []byte{1, 2, 0, 3, 1, 2, 0}
	list := divided(expectedSymbols(data, 1), 10, 1)
	for start := range list {
		for end := start + 1; end <= len(list); end++ {
			part := list[start:end]
			symbols := [][]int{}
			for _, g := range part {
				symbols = append(symbols, g.Symbols...)
			}
			want, ok := expectedData(symbols)
			if !ok {
				rejectList(t, "a part", part)
				continue
			}
			got, ok := impl.JoinGenerations(part)
			expectData(t, "a part", got, ok, want)
		}
	}
}

// The symbols of these generations, one after the other, are those of a message; only the generation is not valid.
func TestJoinGenerationsRejectsInvalidGenerations(t *testing.T) {
	symbols := expectedSymbols(sampleMessage(60), 3)
	for _, sizes := range [][]int{{9}, {8, 9}, {9, 8}, {21}, {10, 10}, {100}} {
		rejectList(t, "too many symbols", divided(symbols, 4, sizes...))
	}
	list := divided(symbols, 4, 4)
	for i := range len(list) + 1 {
		empty := slices.Insert(copyList(list), i, impl.Generation{})
		for j := range empty {
			empty[j].Id = 4 + j
		}
		rejectList(t, "no symbols", empty)
		empty[i].Symbols = [][]int{{}, nil}
		rejectList(t, "empty symbols", empty)
	}
	for _, width := range []int{17, 18, 40, 41} {
		rejectList(t, "too wide", divided(expectedSymbols(sampleMessage(60), width), 4, 4))
	}
	for i := range list {
		for _, component := range []int{-1, 256, 264, 1018, 1019, 1 << 32, math.MinInt, math.MaxInt} {
			changed := copyList(list)
			changed[i].Symbols[0][1] = component
			rejectList(t, "a component that is no byte", changed)
		}
	}
}

// Components move between symbols that follow each other, so that their order stays the same.
func TestJoinGenerationsRejectsOtherWidths(t *testing.T) {
	for _, list := range [][]impl.Generation{
		{generation(1, []int{5, 104}, []int{101, 108, 108}), generation(2, []int{111})},
		{generation(1, []int{5, 104}, []int{101, 108}), generation(2, []int{108}, []int{111})},
		{generation(1, []int{5, 104}, []int{101, 108}), generation(2, []int{108, 111, 0})},
		{generation(1, []int{5, 104, 101}), generation(2, []int{108, 108}), generation(3, []int{111, 0, 0})},
		{generation(1, []int{5}), generation(2, []int{104, 101}, []int{108, 108}), generation(3, []int{111})},
		{generation(1, []int{5, 104}, []int{101}), generation(2, []int{108, 108}, []int{111})},
		{generation(1, []int{5, 104}, []int{}, []int{101, 108}), generation(2, []int{108, 111})},
		{generation(1, []int{}, []int{5, 104}, []int{101, 108}), generation(2, []int{108, 111})},
	} {
		rejectList(t, "different widths", list)
	}
}

func TestIsValidGenerationOfAllSizes(t *testing.T) {
	for size := range 12 {
		for width := range 43 {
			for _, component := range []int{0, 1, 255, 256, 1018} {
				want := size >= 1 && size <= 8 && width >= 1 && width <= 16
				for _, id := range goodIds {
					g := impl.Generation{Id: id, Symbols: filledMatrix(size, width, component)}
					if impl.IsValidGeneration(g) != want {
						t.Errorf("IsValidGeneration of Id %d with %d symbols of width %d is not %v", id, size, width, want)
					}
				}
				for _, id := range badIds {
					g := impl.Generation{Id: id, Symbols: filledMatrix(size, width, component)}
					if impl.IsValidGeneration(g) {
						t.Errorf("a generation with the Id %d is valid", id)
					}
				}
			}
		}
	}
}

func TestIsValidGenerationRejects(t *testing.T) {
	for size := 1; size <= 8; size++ {
		for _, width := range []int{1, 2, 7, 15, 16} {
			symbols := sampleMatrix(size, width, size)
			if !impl.IsValidGeneration(impl.Generation{Id: 3, Symbols: symbols}) {
				t.Errorf("a generation of %v is not valid", symbols)
			}
			for i := range size {
				wrong := [][]int{nil, filledVector(17, 1), filledVector(40, 1), filledVector(41, 1)}
				// A symbol that stands alone may have any of the lengths.
				if size > 1 {
					wrong = append(wrong, symbols[i][1:], append(slices.Clone(symbols[i]), 0))
				}
				for j := range width {
					for _, x := range nonElements {
						wrong = append(wrong, withComponent(symbols[i], j, x))
					}
				}
				for _, symbol := range wrong {
					if g := (impl.Generation{Id: 3, Symbols: withRow(symbols, i, symbol)}); impl.IsValidGeneration(g) {
						t.Errorf("%v is valid", g)
					}
				}
			}
		}
	}
	for _, g := range []impl.Generation{{}, {Id: 1}, {Symbols: [][]int{}}, {Symbols: [][]int{nil}}, {Symbols: [][]int{{}, {}}}, {Symbols: filledMatrix(9, 1, 0)}, {Symbols: filledMatrix(41, 1, 0)}, {Symbols: filledMatrix(1, 17, 0)}} {
		if impl.IsValidGeneration(g) {
			t.Errorf("%v is valid", g)
		}
	}
}

// Both also answer for generations that are not valid.
func TestGenerationSizeAndSymbolWidth(t *testing.T) {
	expect := func(g impl.Generation, size int, width int) {
		t.Helper()
		if impl.GenerationSize(g) != size || impl.SymbolWidth(g) != width {
			t.Errorf("%v has the size %d and the width %d, want %d and %d", g, impl.GenerationSize(g), impl.SymbolWidth(g), size, width)
		}
	}
	for size := range 50 {
		for width := range 50 {
			for _, id := range []int{0, 5, -1, math.MaxInt} {
				want := width
				if size == 0 {
					want = 0
				}
				expect(impl.Generation{Id: id, Symbols: filledMatrix(size, width, size-2)}, size, want)
			}
		}
	}
	expect(impl.Generation{}, 0, 0)
	expect(impl.Generation{Id: 3, Symbols: [][]int{}}, 0, 0)
	expect(impl.Generation{Symbols: [][]int{nil}}, 1, 0)
	expect(impl.Generation{Symbols: [][]int{{}, {1, 2}}}, 2, 0)
	expect(impl.Generation{Symbols: [][]int{{1, 2, 3}, {1}}}, 2, 3)
	expect(impl.Generation{Symbols: [][]int{{1}, {1, 2, 3}, nil}}, 3, 1)
	expect(impl.Generation{Symbols: [][]int{{-1, 1019}}}, 1, 2)
	expect(impl.Generation{Symbols: filledMatrix(1000, 2000, 0)}, 1000, 2000)
}

func TestEqualGenerations(t *testing.T) {
	cases := []struct {
		a, b impl.Generation
		want bool
	}{
		{impl.Generation{}, impl.Generation{}, true},
		{impl.Generation{}, impl.Generation{Symbols: [][]int{}}, true},
		{impl.Generation{Symbols: [][]int{nil}}, impl.Generation{Symbols: [][]int{{}}}, true},
		{impl.Generation{}, impl.Generation{Symbols: [][]int{nil}}, false},
		{impl.Generation{}, impl.Generation{Id: 1}, false},
		{impl.Generation{Id: -1}, impl.Generation{Id: -1}, true},
		{impl.Generation{Id: -1}, impl.Generation{Id: 1}, false},
		{impl.Generation{Id: 1 << 32}, impl.Generation{}, false},
		{impl.Generation{Id: math.MinInt}, impl.Generation{Id: math.MaxInt}, false},
		{generation(1, []int{1, 2}, []int{3, 4}), generation(1, []int{1, 2}, []int{3, 4}), true},
		{generation(1, []int{1, 2}, []int{3, 4}), generation(2, []int{1, 2}, []int{3, 4}), false},
		{generation(1, []int{1, 2}, []int{3, 4}), generation(1, []int{3, 4}, []int{1, 2}), false},
		{generation(1, []int{1, 2}, []int{3, 4}), generation(1, []int{1, 2}, []int{3, 5}), false},
		{generation(1, []int{1, 2}, []int{3, 4}), generation(1, []int{0, 2}, []int{3, 4}), false},
		{generation(1, []int{1, 2}, []int{3, 4}), generation(1, []int{1, 2}), false},
		{generation(1, []int{1, 2}, []int{3, 4}), generation(1, []int{1, 2}, []int{3, 4}, []int{}), false},
		{generation(1, []int{1, 2}, []int{3, 4}), generation(1, []int{1, 2, 3, 4}), false},
		{generation(1, []int{1, 2}, []int{3}), generation(1, []int{1, 2}, []int{3}), true},
		{generation(1, []int{1, 2}, []int{3}), generation(1, []int{1}, []int{2, 3}), false},
		{generation(1, []int{1019, -1}), generation(1, []int{1019, -1}), true},
		{generation(1, []int{1019, -1}), generation(1, []int{0, 1018}), false},
		{generation(1, filledMatrix(50, 50, 7)...), generation(1, filledMatrix(50, 50, 7)...), true},
		{generation(1, filledMatrix(50, 50, 7)...), generation(1, withRow(filledMatrix(50, 50, 7), 49, withComponent(filledVector(50, 7), 49, 8))...), false},
	}
	for _, c := range cases {
		if impl.EqualGenerations(c.a, c.b) != c.want || impl.EqualGenerations(c.b, c.a) != c.want {
			t.Errorf("EqualGenerations(%v, %v), or of the two in the other order, is not %v", c.a, c.b, c.want)
		}
		if !impl.EqualGenerations(c.a, c.a) || !impl.EqualGenerations(c.b, c.b) {
			t.Errorf("%v or %v does not equal itself", c.a, c.b)
		}
	}
}

func TestSymbolsAreNewMemory(t *testing.T) {
	for _, message := range append(fewMessages(), sampleMessage(401)) {
		for width := 0; width <= 17; width++ {
			data, changed := withSpare(message)
			first, second := impl.BytesToSymbols(data, width), impl.BytesToSymbols(data, width)
			want := copyRows(second)
			if spoil(first) {
				t.Errorf("BytesToSymbols(%v, %d) has symbols that share memory", message, width)
			}
			if changed() {
				t.Errorf("BytesToSymbols(%v, %d) changes its argument", message, width)
			}
			if !sameMatrix(second, want) || !sameMatrix(impl.BytesToSymbols(data, width), want) {
				t.Errorf("BytesToSymbols(%v, %d) returns the same memory twice", message, width)
			}
		}
	}
}

// All memory of the generations is overwritten, spare capacity included: none of it may be met twice.
func TestGenerationsAreNewMemory(t *testing.T) {
	for _, message := range append(fewMessages(), sampleMessage(401)) {
		for _, width := range []int{0, 1, 2, 5, 16} {
			for size := 0; size <= 9; size++ {
				data, changed := withSpare(message)
				first, second := impl.SplitMessage(data, width, size, 3), impl.SplitMessage(data, width, size, 3)
				want := copyList(second)
				for i, g := range first {
					if !sameGeneration(g, want[i]) || spoil(g.Symbols) {
						t.Errorf("SplitMessage(%v, %d, %d, 3): generation %d shares memory", message, width, size, i)
					}
				}
				if changed() {
					t.Errorf("SplitMessage(%v, %d, %d, 3) changes its argument", message, width, size)
				}
				expectList(t, "another result", second, want)
				expectList(t, "a later result", impl.SplitMessage(data, width, size, 3), want)
			}
		}
	}
}

// Adding a symbol to one generation leaves the next one as it is.
func TestGenerationsCanGrow(t *testing.T) {
	list := impl.SplitMessage(sampleMessage(100), 3, 4, 0)
	want := copyList(list)
	for i, g := range list {
		grown := append(g.Symbols, []int{901, 902, 903})
		grown[len(grown)-1][0] = 904
		for _, symbol := range g.Symbols {
			_ = append(symbol, 905)
		}
		if !sameGeneration(list[i], want[i]) {
			t.Errorf("generation %d has changed", i)
		}
	}
	expectList(t, "after growth", list, want)
}

func TestRestoredMessagesAreNewMemory(t *testing.T) {
	for _, message := range fewMessages() {
		for _, width := range []int{1, 2, 16} {
			symbols, changed := matrixWithSpare(expectedSymbols(message, width))
			first, _ := impl.SymbolsToBytes(symbols)
			second, _ := impl.SymbolsToBytes(symbols)
			flip(first)
			list := divided(symbols, 0, 3)
			third, _ := impl.JoinGenerations(list)
			fourth, _ := impl.JoinGenerations(list)
			flip(third)
			again, ok := impl.SymbolsToBytes(symbols)
			if changed() || !ok || !bytes.Equal(again, message) || !bytes.Equal(second, message) || !bytes.Equal(fourth, message) {
				t.Errorf("the results for %v with width %d share memory", message, width)
			}
		}
	}
}

// listWithSpare returns generations with spare capacity behind the list, behind the symbols of each and behind each symbol, and a function that tells whether anything of it has changed.
func listWithSpare(symbols [][]int, first int, size int) ([]impl.Generation, func() bool) {
	checks := []func() bool{}
	list := append(divided(symbols, first, size), impl.Generation{Id: 77, Symbols: [][]int{{78}}})
	for i := range list {
		own, changed := matrixWithSpare(list[i].Symbols)
		list[i].Symbols, checks = own, append(checks, changed)
	}
	before := copyList(list)
	return list[:len(list)-1], func() bool {
		return !slices.EqualFunc(list, before, sameGeneration) || slices.ContainsFunc(checks, func(changed func() bool) bool { return changed() })
	}
}

func TestGenerationFunctionsChangeNoArgument(t *testing.T) {
	for _, symbols := range append([][][]int{
		{{2, 7}, {8, 0}},
		{{2, 7}, {8, 1}},
		{{2, 7}, {8}},
		{{2, 7}, {8, 264}},
		{{2, 7}, {8, 0}, {0, 0}},
		{{}, {1}},
		{},
		filledMatrix(9, 17, 1),
		expectedSymbols(sampleMessage(400), 1),
		expectedSymbols(sampleMessage(300), 16),
	}, raggedMatrices()...) {
		for size := 1; size <= 9; size++ {
			for _, first := range []int{0, 1000000000000, -1} {
				list, changed := listWithSpare(symbols, first, size)
				impl.JoinGenerations(list)
				for i, g := range list {
					impl.SymbolsToBytes(g.Symbols)
					impl.IsValidGeneration(g)
					impl.GenerationSize(g)
					impl.SymbolWidth(g)
					impl.EqualGenerations(g, g)
					impl.EqualGenerations(g, list[0])
					impl.JoinGenerations(list[i:])
					impl.JoinGenerations(list[:i])
				}
				if changed() {
					t.Errorf("a call changes the generations of %v, %d each", symbols, size)
				}
			}
		}
	}
}
