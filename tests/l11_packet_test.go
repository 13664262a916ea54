package tests

import (
	"bytes"
	"math"
	"slices"
	"strconv"
	"testing"

	"loop.example/g00513/impl"
)

func packet(id int, coefficients []int, payload []int) impl.CodedPacket {
	return impl.CodedPacket{Generation: id, Coefficients: coefficients, Payload: payload}
}

// twoSymbols is the generation of the document's example.
func twoSymbols(id int) impl.Generation {
	return generation(id, []int{7, 8}, []int{1, 255})
}

// samePacket compares without the package, so that EqualPackets need not be right for the other tests.
func samePacket(a impl.CodedPacket, b impl.CodedPacket) bool {
	return a.Generation == b.Generation && slices.Equal(a.Coefficients, b.Coefficients) && slices.Equal(a.Payload, b.Payload)
}

func copyPacket(p impl.CodedPacket) impl.CodedPacket {
	return packet(p.Generation, slices.Clone(p.Coefficients), slices.Clone(p.Payload))
}

func copyPackets(packets []impl.CodedPacket) []impl.CodedPacket {
	copied := []impl.CodedPacket{}
	for _, p := range packets {
		copied = append(copied, copyPacket(p))
	}
	return copied
}

func expectPacket(t *testing.T, what string, got impl.CodedPacket, ok bool, want impl.CodedPacket) {
	t.Helper()
	if !ok || !samePacket(got, want) {
		t.Errorf("%s: got %v, %v, want %v, true", what, got, ok, want)
	}
}

func expectNoPacket(t *testing.T, what string, got impl.CodedPacket, ok bool) {
	t.Helper()
	if ok || !samePacket(got, impl.CodedPacket{}) {
		t.Errorf("%s: got %v, %v, want the zero packet, false", what, got, ok)
	}
}

func rejectCode(t *testing.T, g impl.Generation, coefficients []int) {
	t.Helper()
	if got, ok := impl.CodePacket(g, coefficients); ok || !samePacket(got, impl.CodedPacket{}) {
		t.Errorf("CodePacket(%v, %v) = %v, %v", g, coefficients, got, ok)
	}
	if p := packet(g.Id, coefficients, filledVector(impl.SymbolWidth(g), 0)); impl.IsConsistent(g, p) {
		t.Errorf("IsConsistent(%v, %v) = true", g, p)
	}
}

func rejectPackets(t *testing.T, what string, packets []impl.CodedPacket, coefficients []int) {
	t.Helper()
	if got, ok := impl.CombinePackets(packets, coefficients); ok || !samePacket(got, impl.CodedPacket{}) {
		t.Errorf("%s: CombinePackets(%v, %v) = %v, %v", what, packets, coefficients, got, ok)
	}
}

// everyGeneration visits valid ones of all sizes and widths; the components are bytes or any elements.
func everyGeneration(visit func(g impl.Generation)) {
	for size := 1; size <= 8; size++ {
		for width := 1; width <= 16; width++ {
			id := goodIds[(size*3+width)%len(goodIds)]
			visit(generation(id, sampleMatrix(size, width, size+width)...))
			if size%3 == width%3 {
				visit(generation(id, filledMatrix(size, width, 0)...))
				visit(generation(id, filledMatrix(size, width, 1018)...))
				visit(generation(id, filledMatrix(size, width, 255)...))
			}
		}
	}
}

// badGenerations are not valid in one way each; the size and the width are those that the callers code for.
func badGenerations(size int, width int) []impl.Generation {
	symbols := sampleMatrix(size, width, 5)
	bad := []impl.Generation{}
	for _, id := range badIds {
		bad = append(bad, generation(id, symbols...))
	}
	for _, i := range spots(size) {
		for _, j := range spots(width) {
			for _, x := range nonElements {
				bad = append(bad, generation(3, withRow(symbols, i, withComponent(symbols[i], j, x))...))
			}
		}
		if size > 1 {
			bad = append(bad,
				generation(3, withRow(symbols, i, symbols[i][1:])...),
				generation(3, withRow(symbols, i, append(slices.Clone(symbols[i]), 0))...),
				generation(3, withRow(symbols, i, nil)...))
		}
	}
	return append(bad,
		generation(3, sampleMatrix(size, 17, 1)...),
		generation(3, sampleMatrix(size, 40, 1)...),
		generation(3, sampleMatrix(size, 41, 1)...),
		generation(3, filledMatrix(size, 0, 1)...))
}

func TestCodePacket(t *testing.T) {
	cases := []struct {
		coefficients []int
		payload      []int
	}{
		{[]int{2, 1}, []int{15, 271}},
		{[]int{0, 0}, []int{0, 0}},
		{[]int{1, 0}, []int{7, 8}},
		{[]int{0, 1}, []int{1, 255}},
		{[]int{1018, 0}, []int{1012, 1011}},
		{[]int{1, 1018}, []int{6, 772}},
		{[]int{0, 4}, []int{4, 1}},
		{[]int{1018, 1018}, []int{1011, 756}},
	}
	for _, id := range goodIds {
		for _, c := range cases {
			got, ok := impl.CodePacket(twoSymbols(id), c.coefficients)
			expectPacket(t, "CodePacket", got, ok, packet(id, c.coefficients, c.payload))
		}
	}
	got, ok := impl.CodePacket(generation(0, []int{3}), []int{5})
	expectPacket(t, "one symbol", got, ok, packet(0, []int{5}, []int{15}))
	got, ok = impl.CodePacket(generation(9, []int{1018, 0, 1}), []int{1018})
	expectPacket(t, "one symbol", got, ok, packet(9, []int{1018}, []int{1, 0, 1018}))
}

func TestCodePacketOfAllGenerations(t *testing.T) {
	everyGeneration(func(g impl.Generation) {
		for _, coefficients := range coefficientLists(len(g.Symbols), g.Id%100) {
			got, ok := impl.CodePacket(g, coefficients)
			expectPacket(t, "CodePacket", got, ok, packet(g.Id, coefficients, expectedCombination(g.Symbols, coefficients)))
		}
	})
}

func TestCodePacketRejectsCoefficients(t *testing.T) {
	everyGeneration(func(g impl.Generation) {
		size := len(g.Symbols)
		for count := range 43 {
			if count != size {
				rejectCode(t, g, filledVector(count, 0))
				rejectCode(t, g, filledVector(count, 1))
			}
		}
		rejectCode(t, g, nil)
		rejectCode(t, g, filledVector(impl.SymbolWidth(g)+size, 2))
		for _, x := range nonElements {
			for i := range size {
				rejectCode(t, g, withComponent(filledVector(size, 0), i, x))
				rejectCode(t, g, withComponent(sampleVector(size, 3), i, x))
			}
		}
	})
}

// No coefficients help a generation that is not valid, not even 0 where it is wrong.
func TestCodePacketRejectsGenerations(t *testing.T) {
	for _, size := range []int{1, 2, 3, 8} {
		for _, width := range []int{1, 2, 16} {
			for _, g := range badGenerations(size, width) {
				for _, coefficients := range coefficientLists(size, 2) {
					rejectCode(t, g, coefficients)
				}
			}
		}
	}
	for _, size := range []int{9, 10, 16, 40, 41} {
		for _, count := range []int{0, 1, 8, size} {
			rejectCode(t, generation(3, sampleMatrix(size, 2, 1)...), filledVector(count, 0))
			rejectCode(t, generation(3, sampleMatrix(size, 2, 1)...), filledVector(count, 1))
		}
	}
	for _, g := range []impl.Generation{{}, {Id: 3}, {Symbols: [][]int{}}, {Symbols: [][]int{nil}}, {Symbols: [][]int{{}, {}}}} {
		for count := range 4 {
			rejectCode(t, g, filledVector(count, 0))
			rejectCode(t, g, filledVector(count, 1))
		}
		rejectCode(t, g, nil)
	}
}

func TestSourcePacket(t *testing.T) {
	got, ok := impl.SourcePacket(twoSymbols(4), 0)
	expectPacket(t, "the first symbol", got, ok, packet(4, []int{1, 0}, []int{7, 8}))
	got, ok = impl.SourcePacket(twoSymbols(4), 1)
	expectPacket(t, "the last symbol", got, ok, packet(4, []int{0, 1}, []int{1, 255}))
	everyGeneration(func(g impl.Generation) {
		size := len(g.Symbols)
		for i, symbol := range g.Symbols {
			got, ok := impl.SourcePacket(g, i)
			expectPacket(t, "SourcePacket", got, ok, packet(g.Id, withComponent(filledVector(size, 0), i, 1), symbol))
			if !impl.IsConsistent(g, got) {
				t.Errorf("symbol %d of %v is not consistent", i, g)
			}
		}
	})
}

func TestSourcePacketRejects(t *testing.T) {
	everyGeneration(func(g impl.Generation) {
		size := len(g.Symbols)
		for _, index := range []int{-1, -2, -size, -size - 1, size, size + 1, 2 * size, 8, 9, 16, 39, 40, 41, 1 << 32, -1 << 32, math.MinInt, math.MinInt + 1, math.MaxInt - 1, math.MaxInt} {
			if index < 0 || index >= size {
				got, ok := impl.SourcePacket(g, index)
				expectNoPacket(t, "there is no such symbol", got, ok)
			}
		}
	})
	for _, size := range []int{1, 2, 8} {
		for _, width := range []int{1, 2, 16} {
			for _, g := range badGenerations(size, width) {
				for index := -1; index <= size; index++ {
					got, ok := impl.SourcePacket(g, index)
					expectNoPacket(t, "the generation is not valid", got, ok)
				}
			}
		}
	}
	for _, size := range []int{0, 9, 10, 40, 41, 100} {
		for _, width := range []int{0, 1, 2, 17} {
			for index := -1; index <= size; index++ {
				got, ok := impl.SourcePacket(generation(3, filledMatrix(size, width, 1)...), index)
				expectNoPacket(t, "too few or too many symbols", got, ok)
			}
		}
	}
}

func TestIsValidPacketOfAllSizes(t *testing.T) {
	for count := range 11 {
		for components := range 19 {
			for _, x := range []int{0, 1, 1018} {
				p := packet(5, filledVector(count, x), filledVector(components, 1018-x))
				for size := -1; size <= 10; size++ {
					for width := -1; width <= 18; width++ {
						want := size == count && width == components && size >= 1 && size <= 8 && width >= 1 && width <= 16
						if impl.IsValidPacket(p, size, width) != want {
							t.Errorf("IsValidPacket(%v, %d, %d) is not %v", p, size, width, want)
						}
					}
				}
			}
		}
	}
}

func TestIsValidPacketRejects(t *testing.T) {
	reject := func(p impl.CodedPacket, size int, width int) {
		t.Helper()
		if impl.IsValidPacket(p, size, width) {
			t.Errorf("IsValidPacket(%v, %d, %d) = true", p, size, width)
		}
	}
	for size := 1; size <= 8; size++ {
		for width := 1; width <= 16; width++ {
			p := packet(0, sampleVector(size, 1), sampleVector(width, 2))
			for _, id := range goodIds {
				if other := packet(id, p.Coefficients, p.Payload); !impl.IsValidPacket(other, size, width) {
					t.Errorf("IsValidPacket(%v, %d, %d) = false", other, size, width)
				}
			}
			for _, id := range badIds {
				reject(packet(id, p.Coefficients, p.Payload), size, width)
			}
			for _, other := range badSizes {
				reject(p, other, width)
			}
			for _, other := range badSymbolWidths {
				reject(p, size, other)
			}
			for _, x := range nonElements {
				for i := range size {
					reject(packet(0, withComponent(p.Coefficients, i, x), p.Payload), size, width)
				}
				for i := range width {
					reject(packet(0, p.Coefficients, withComponent(p.Payload, i, x)), size, width)
				}
			}
			reject(packet(0, nil, p.Payload), size, width)
			reject(packet(0, p.Coefficients, nil), size, width)
			reject(packet(0, nil, nil), size, width)
		}
	}
	reject(impl.CodedPacket{}, 0, 0)
	for _, length := range []int{0, 9, 17, 40, 41, 1000} {
		reject(packet(0, filledVector(length, 1), []int{1}), length, 1)
		reject(packet(0, []int{1}, filledVector(length, 1)), 1, max(17, length))
		reject(packet(0, filledVector(length, 1), filledVector(length, 1)), length, length)
	}
	reject(packet(0, []int{1}, nil), 1, 0)
	reject(packet(0, nil, []int{1}), 0, 1)
	reject(packet(0, []int{1, 2}, []int{1, 2, 3}), 3, 2)
}

func TestIsConsistent(t *testing.T) {
	g := twoSymbols(6)
	cases := []struct {
		p    impl.CodedPacket
		want bool
	}{
		{packet(6, []int{2, 1}, []int{15, 271}), true},
		{packet(6, []int{0, 0}, []int{0, 0}), true},
		{packet(6, []int{0, 4}, []int{4, 1}), true},
		{packet(6, []int{2, 1}, []int{16, 271}), false},
		{packet(6, []int{2, 1}, []int{15, 270}), false},
		{packet(6, []int{1, 2}, []int{15, 271}), false},
		{packet(6, []int{2, 0}, []int{15, 271}), false},
		{packet(5, []int{2, 1}, []int{15, 271}), false},
		{packet(7, []int{2, 1}, []int{15, 271}), false},
		{packet(0, []int{2, 1}, []int{15, 271}), false},
		{packet(-6, []int{2, 1}, []int{15, 271}), false},
		{packet(6, []int{2, 1}, []int{15}), false},
		{packet(6, []int{2, 1}, []int{15, 271, 0}), false},
		{packet(6, []int{2, 1}, []int{15, 271 + 1019}), false},
		{packet(6, []int{2, 1}, []int{15 - 1019, 271}), false},
		{packet(6, []int{2, 1}, nil), false},
		{packet(6, []int{2, 1, 0}, []int{15, 271}), false},
		{packet(6, []int{2}, []int{14, 16}), false},
		{packet(6, []int{2 + 1019, 1}, []int{15, 271}), false},
		{packet(6, []int{2, 1 - 1019}, []int{15, 271}), false},
		{packet(6, nil, nil), false},
		{packet(6, nil, []int{0, 0}), false},
		{packet(6, []int{0, 0}, nil), false},
		{packet(6, []int{0, 0}, []int{0, 1}), false},
		{impl.CodedPacket{}, false},
	}
	for _, c := range cases {
		if impl.IsConsistent(g, c.p) != c.want {
			t.Errorf("IsConsistent(%v, %v) is not %v", g, c.p, c.want)
		}
	}
	for _, g := range []impl.Generation{{}, {Id: 6}, generation(6, nil), generation(6, []int{}, []int{})} {
		for _, c := range cases {
			if impl.IsConsistent(g, c.p) {
				t.Errorf("IsConsistent(%v, %v) = true", g, c.p)
			}
		}
	}
}

// changedPackets differ from a packet in one thing each.
func changedPackets(p impl.CodedPacket) []impl.CodedPacket {
	changed := []impl.CodedPacket{}
	for _, id := range []int{p.Generation + 1, p.Generation - 1, -p.Generation - 1, p.Generation + 1<<32, math.MinInt, math.MaxInt} {
		changed = append(changed, packet(id, p.Coefficients, p.Payload))
	}
	for i, x := range p.Payload {
		for _, other := range []int{(x + 1) % 1019, (x + 1018) % 1019, (x + 510) % 1019, x + 1019, x - 1019, x ^ 1024, x + 1<<32, math.MinInt} {
			changed = append(changed, packet(p.Generation, p.Coefficients, withComponent(p.Payload, i, other)))
		}
		changed = append(changed, packet(p.Generation, p.Coefficients, slices.Delete(slices.Clone(p.Payload), i, i+1)))
	}
	for i, x := range p.Coefficients {
		for _, other := range []int{x + 1019, x - 1019, x ^ 1024, x + 1<<32, math.MaxInt} {
			changed = append(changed, packet(p.Generation, withComponent(p.Coefficients, i, other), p.Payload))
		}
		changed = append(changed, packet(p.Generation, slices.Delete(slices.Clone(p.Coefficients), i, i+1), p.Payload))
	}
	for _, x := range []int{0, 1} {
		changed = append(changed,
			packet(p.Generation, append(slices.Clone(p.Coefficients), x), p.Payload),
			packet(p.Generation, p.Coefficients, append(slices.Clone(p.Payload), x)),
			packet(p.Generation, append([]int{x}, p.Coefficients...), p.Payload),
			packet(p.Generation, p.Coefficients, append([]int{x}, p.Payload...)))
	}
	return changed
}

func TestChangedPacketsAreNotConsistent(t *testing.T) {
	everyGeneration(func(g impl.Generation) {
		for _, coefficients := range coefficientLists(len(g.Symbols), 4) {
			p := packet(g.Id, coefficients, expectedCombination(g.Symbols, coefficients))
			if !impl.IsConsistent(g, p) {
				t.Errorf("IsConsistent(%v, %v) = false", g, p)
			}
			for _, other := range changedPackets(p) {
				if impl.IsConsistent(g, other) {
					t.Errorf("IsConsistent(%v, %v) = true", g, other)
				}
			}
		}
	})
}

// Another coefficient is consistent only if its symbol is 0.
func TestAChangedCoefficientIsNotConsistent(t *testing.T) {
	everyGeneration(func(g impl.Generation) {
		coefficients := sampleVector(len(g.Symbols), 8)
		payload := expectedCombination(g.Symbols, coefficients)
		for i, x := range coefficients {
			isZero := !slices.ContainsFunc(g.Symbols[i], func(y int) bool { return y != 0 })
			for _, other := range []int{(x + 1) % 1019, (x + 1018) % 1019, (x + 300) % 1019} {
				p := packet(g.Id, withComponent(coefficients, i, other), payload)
				if impl.IsConsistent(g, p) != isZero {
					t.Errorf("IsConsistent(%v, %v) is not %v", g, p, isZero)
				}
			}
		}
	})
}

func TestIsConsistentOfInvalidGenerations(t *testing.T) {
	for _, size := range []int{1, 2, 8} {
		for _, width := range []int{1, 2, 16} {
			p, _ := impl.CodePacket(generation(3, sampleMatrix(size, width, 5)...), filledVector(size, 0))
			for _, g := range badGenerations(size, width) {
				for _, other := range []impl.CodedPacket{{}, {Generation: g.Id}, p, packet(g.Id, p.Coefficients, p.Payload), packet(g.Id, p.Coefficients, nil), packet(g.Id, p.Coefficients, filledVector(impl.SymbolWidth(g), 0))} {
					if impl.IsConsistent(g, other) {
						t.Errorf("IsConsistent(%v, %v) = true", g, other)
					}
				}
			}
		}
	}
}

// An invalid generation makes CodePacket return the zero packet, which is no reason to call that packet consistent.
func TestTheZeroPacketIsNeverConsistent(t *testing.T) {
	everyGeneration(func(g impl.Generation) {
		if impl.IsConsistent(g, impl.CodedPacket{}) || impl.IsConsistent(g, packet(g.Id, nil, nil)) || impl.IsConsistent(g, packet(g.Id, []int{}, []int{})) {
			t.Errorf("the zero packet is consistent with %v", g)
		}
	})
	for _, g := range []impl.Generation{{}, {Id: -1}, {Symbols: [][]int{{}}}, {Symbols: [][]int{{-1}}}} {
		if impl.IsConsistent(g, impl.CodedPacket{}) || impl.IsConsistent(g, packet(g.Id, nil, nil)) {
			t.Errorf("the zero packet is consistent with %v", g)
		}
	}
}

// samplePackets are combinations of the symbols of g.
func samplePackets(g impl.Generation, count int, seed int) []impl.CodedPacket {
	packets := []impl.CodedPacket{}
	for i := range count {
		coefficients := sampleVector(len(g.Symbols), seed*13+i)
		packets = append(packets, packet(g.Id, coefficients, expectedCombination(g.Symbols, coefficients)))
	}
	return packets
}

// expectedPacket combines all components of the packets at once.
func expectedPacket(packets []impl.CodedPacket, coefficients []int) impl.CodedPacket {
	size := len(packets[0].Coefficients)
	joined := [][]int{}
	for _, p := range packets {
		joined = append(joined, slices.Concat(p.Coefficients, p.Payload))
	}
	sum := expectedCombination(joined, coefficients)
	return packet(packets[0].Generation, sum[:size], sum[size:])
}

func TestCombinePackets(t *testing.T) {
	first := packet(4, []int{2, 1}, []int{15, 271})
	second := packet(4, []int{0, 1}, []int{1, 255})
	cases := []struct {
		packets      []impl.CodedPacket
		coefficients []int
		want         impl.CodedPacket
	}{
		{[]impl.CodedPacket{first, second}, []int{1, 1018}, packet(4, []int{2, 0}, []int{14, 16})},
		{[]impl.CodedPacket{first, second}, []int{1, 1}, packet(4, []int{2, 2}, []int{16, 526})},
		{[]impl.CodedPacket{second, first}, []int{0, 3}, packet(4, []int{6, 3}, []int{45, 813})},
		{[]impl.CodedPacket{first, second}, []int{0, 0}, packet(4, []int{0, 0}, []int{0, 0})},
		{[]impl.CodedPacket{first}, []int{1}, first},
		{[]impl.CodedPacket{first}, []int{0}, packet(4, []int{0, 0}, []int{0, 0})},
		{[]impl.CodedPacket{first}, []int{510}, packet(4, []int{1, 510}, []int{517, 645})},
		{[]impl.CodedPacket{first, first}, []int{1, 1018}, packet(4, []int{0, 0}, []int{0, 0})},
		{[]impl.CodedPacket{first, first, first}, []int{1, 1, 1}, packet(4, []int{6, 3}, []int{45, 813})},
		{[]impl.CodedPacket{packet(0, []int{1018}, []int{1018, 1, 0})}, []int{1018}, packet(0, []int{1}, []int{1, 1018, 0})},
	}
	for _, c := range cases {
		got, ok := impl.CombinePackets(c.packets, c.coefficients)
		expectPacket(t, "CombinePackets", got, ok, c.want)
	}
}

// Promise 11: combinations of consistent packets are consistent.
func TestCombinationsOfConsistentPacketsAreConsistent(t *testing.T) {
	everyGeneration(func(g impl.Generation) {
		for _, count := range []int{1, 2, 3, 8, 9, 40} {
			packets := samplePackets(g, count, 3)
			for _, coefficients := range coefficientLists(count, count) {
				got, ok := impl.CombinePackets(packets, coefficients)
				expectPacket(t, "CombinePackets", got, ok, expectedPacket(packets, coefficients))
				if !impl.IsConsistent(g, got) || !impl.IsValidPacket(got, len(g.Symbols), len(g.Symbols[0])) {
					t.Errorf("the combination %v of packets of %v is not consistent", got, g)
				}
			}
		}
	})
}

func TestCombinationsOfCombinationsAreConsistent(t *testing.T) {
	everyGeneration(func(g impl.Generation) {
		packets := []impl.CodedPacket{}
		for i := range g.Symbols {
			p, ok := impl.SourcePacket(g, i)
			if !ok {
				t.Errorf("SourcePacket(%v, %d) is rejected", g, i)
			}
			packets = append(packets, p)
		}
		for hop := range 6 {
			sent := []impl.CodedPacket{}
			for i := range len(packets) + 1 {
				p, ok := impl.CombinePackets(packets, sampleVector(len(packets), hop*7+i))
				if !ok || !impl.IsConsistent(g, p) {
					t.Errorf("after %d hops, %v, %v is not consistent with %v", hop, p, ok, g)
				}
				sent = append(sent, p)
			}
			packets = sent
		}
	})
}

func TestAllCombinationsOfTwoPackets(t *testing.T) {
	g := twoSymbols(8)
	packets := []impl.CodedPacket{packet(8, []int{2, 1}, []int{15, 271}), packet(8, []int{5, 1018}, []int{34, 804})}
	for x := range 1019 {
		for _, y := range []int{0, 1, 2, 400, 509, 510, 1017, 1018} {
			for _, coefficients := range [][]int{{x, y}, {y, x}} {
				got, ok := impl.CombinePackets(packets, coefficients)
				if !ok || !impl.IsConsistent(g, got) || !samePacket(got, expectedPacket(packets, coefficients)) {
					t.Errorf("CombinePackets of two packets with %v = %v, %v", coefficients, got, ok)
				}
			}
		}
	}
}

// One wrong packet spoils every combination in which its coefficient is not 0.
func TestCombinationsOfWrongPacketsAreNotConsistent(t *testing.T) {
	everyGeneration(func(g impl.Generation) {
		for _, i := range spots(3) {
			packets := samplePackets(g, 3, 5)
			for j, x := range packets[i].Payload {
				packets[i].Payload = withComponent(packets[i].Payload, j, (x+1)%1019)
				for _, coefficients := range [][]int{{1, 1, 1}, {0, 0, 0}, {1018, 3, 0}, {0, 1, 1018}, {500, 0, 600}} {
					got, ok := impl.CombinePackets(packets, coefficients)
					if !ok || impl.IsConsistent(g, got) != (coefficients[i] == 0) {
						t.Errorf("packet %d of %v is wrong, but CombinePackets with %v returns %v, %v for %v", i, packets, coefficients, got, ok, g)
					}
				}
				packets[i].Payload = withComponent(packets[i].Payload, j, x)
			}
		}
	})
}

func TestCombinePacketsOfDifferentGenerations(t *testing.T) {
	g := generation(7, sampleMatrix(3, 4, 1)...)
	for _, count := range []int{2, 3, 5, 40} {
		for i := range count {
			for _, id := range append([]int{6, 8, 0, -7, 7 + 1<<32, 1000000000000}, badIds...) {
				packets := samplePackets(g, count, 2)
				packets[i].Generation = id
				for _, coefficients := range coefficientLists(count, 3) {
					rejectPackets(t, "another generation", packets, coefficients)
				}
				rejectPackets(t, "another generation without weight", packets, withComponent(filledVector(count, 1), i, 0))
			}
		}
	}
	packets := samplePackets(g, 4, 2)
	for step := 1; step < 4; step++ {
		for i := range packets {
			packets[i].Generation = i / step
		}
		rejectPackets(t, "several generations", packets, []int{1, 2, 3, 4})
		slices.Reverse(packets)
		rejectPackets(t, "several generations", packets, []int{1, 2, 3, 4})
	}
}

// The packets need not be valid, as long as Combine has an answer: any Generation, and lengths up to that of a vector.
func TestCombinePacketsThatAreNotValid(t *testing.T) {
	for _, id := range append(slices.Clone(goodIds), badIds...) {
		packets := []impl.CodedPacket{packet(id, []int{1, 2}, []int{3, 4}), packet(id, []int{5, 6}, []int{7, 8})}
		got, ok := impl.CombinePackets(packets, []int{1, 2})
		expectPacket(t, "any Id", got, ok, packet(id, []int{11, 14}, []int{17, 20}))
		got, ok = impl.CombinePackets(packets[:1], []int{0})
		expectPacket(t, "any Id", got, ok, packet(id, []int{0, 0}, []int{0, 0}))
	}
	for _, size := range []int{1, 8, 9, 16, 17, 39, 40} {
		for _, width := range []int{1, 8, 16, 17, 39, 40} {
			for _, count := range []int{1, 2, 40} {
				g := generation(-3, sampleMatrix(size, width, 2)...)
				packets := samplePackets(g, count, 1)
				coefficients := sampleVector(count, 9)
				got, ok := impl.CombinePackets(packets, coefficients)
				expectPacket(t, "any length of a vector", got, ok, expectedPacket(packets, coefficients))
			}
		}
	}
}

func TestCombinePacketsRejectsCoefficients(t *testing.T) {
	g := generation(7, sampleMatrix(3, 4, 1)...)
	for count := range 42 {
		for others := range 42 {
			if count != others || count == 0 || count == 41 {
				rejectPackets(t, "another number of coefficients", samplePackets(g, count, 1), filledVector(others, 1))
			}
		}
	}
	for _, count := range []int{1, 2, 3, 40} {
		for i := range count {
			for _, x := range nonElements {
				rejectPackets(t, "no element", samplePackets(g, count, 1), withComponent(filledVector(count, 1), i, x))
				rejectPackets(t, "no element", samplePackets(g, count, 1), withComponent(filledVector(count, 0), i, x))
			}
		}
	}
	rejectPackets(t, "no packets", nil, nil)
	rejectPackets(t, "no packets", nil, []int{})
	rejectPackets(t, "no packets", []impl.CodedPacket{}, nil)
	rejectPackets(t, "no packets", nil, []int{1})
	rejectPackets(t, "no coefficients", samplePackets(g, 1, 1), nil)
	for _, count := range []int{42, 100} {
		rejectPackets(t, "too many packets", samplePackets(g, count, 1), filledVector(count, 1))
	}
}

// oddPackets do not fit to packets with 3 coefficients and 4 components.
func oddPackets(id int) []impl.CodedPacket {
	coefficients, payload := []int{1, 2, 3}, []int{4, 5, 6, 7}
	odd := []impl.CodedPacket{{Generation: id}, packet(id, payload, coefficients), packet(id, nil, payload), packet(id, []int{}, payload), packet(id, coefficients, nil), packet(id, coefficients, []int{})}
	for _, length := range []int{1, 2, 5, 8, 16, 40, 41, 100} {
		odd = append(odd, packet(id, filledVector(length, 1), payload), packet(id, coefficients, filledVector(length, 1)))
	}
	for _, x := range nonElements {
		for i := range coefficients {
			odd = append(odd, packet(id, withComponent(coefficients, i, x), payload))
		}
		for i := range payload {
			odd = append(odd, packet(id, coefficients, withComponent(payload, i, x)))
		}
	}
	return odd
}

func TestCombinePacketsThatDoNotFit(t *testing.T) {
	g := generation(7, sampleMatrix(3, 4, 1)...)
	for _, count := range []int{2, 3, 5} {
		for i := range count {
			for _, odd := range oddPackets(7) {
				packets := samplePackets(g, count, 4)
				packets[i] = odd
				rejectPackets(t, "a packet that does not fit", packets, filledVector(count, 1))
				rejectPackets(t, "a packet that does not fit without weight", packets, withComponent(filledVector(count, 1), i, 0))
				rejectPackets(t, "a packet that does not fit in a sum of 0", packets, filledVector(count, 0))
			}
		}
	}
}

// Equal packets fit to each other, but there is nothing to combine, or no vector.
func TestCombinePacketsWithoutCombination(t *testing.T) {
	for count := 1; count <= 4; count++ {
		for _, p := range []impl.CodedPacket{
			{}, {Generation: 3}, packet(3, []int{}, []int{}),
			packet(3, nil, []int{1, 2}), packet(3, []int{1, 2}, nil), packet(3, []int{}, []int{0}), packet(3, []int{0}, []int{}),
			packet(3, filledVector(41, 1), []int{1}), packet(3, []int{1}, filledVector(41, 1)), packet(3, filledVector(1000, 0), filledVector(1000, 0)),
			packet(3, []int{-1}, []int{1}), packet(3, []int{1}, []int{1019}), packet(3, []int{math.MinInt}, []int{math.MaxInt}),
		} {
			for _, x := range []int{0, 1, 1018} {
				rejectPackets(t, "no combination", slices.Repeat([]impl.CodedPacket{p}, count), filledVector(count, x))
			}
		}
	}
}

// varint encodes without the package.
func varint(n int) []byte {
	encoded := []byte{}
	for ; n >= 128; n /= 128 {
		encoded = append(encoded, byte(128+n%128))
	}
	return append(encoded, byte(n))
}

func varints(values ...int) []byte {
	encoded := []byte{}
	for _, n := range values {
		encoded = append(encoded, varint(n)...)
	}
	return encoded
}

func packetNumbers(p impl.CodedPacket) []int {
	return slices.Concat([]int{p.Generation, len(p.Coefficients), len(p.Payload)}, p.Coefficients, p.Payload)
}

func expectedPacketEncoding(p impl.CodedPacket) []byte {
	return varints(packetNumbers(p)...)
}

// validPackets are of all sizes and widths.
func validPackets() []impl.CodedPacket {
	packets := []impl.CodedPacket{}
	for size := 1; size <= 8; size++ {
		for width := 1; width <= 16; width++ {
			id := goodIds[(size+width*3)%len(goodIds)]
			packets = append(packets,
				packet(id, sampleVector(size, 2), sampleVector(width, 3)),
				packet(id, filledVector(size, 0), filledVector(width, 0)),
				packet(id, filledVector(size, 1018), filledVector(width, 1018)),
				packet(id, filledVector(size, 127), filledVector(width, 128)),
				packet(id, sampleVector(size, width), filledVector(width, 0)),
				packet(id, filledVector(size, 0), sampleVector(width, size)))
		}
	}
	return packets
}

func rejectBytes(t *testing.T, what string, b []byte) {
	t.Helper()
	if got, ok := impl.DecodePacket(b); ok || !samePacket(got, impl.CodedPacket{}) {
		t.Errorf("%s: DecodePacket(%v) = %v, %v", what, b, got, ok)
	}
}

func TestEncodePacket(t *testing.T) {
	cases := []struct {
		p    impl.CodedPacket
		want []byte
	}{
		{packet(0, []int{2, 1}, []int{15, 271}), []byte{0, 2, 2, 2, 1, 15, 143, 2}},
		{packet(300, []int{2, 1}, []int{15, 271}), []byte{172, 2, 2, 2, 2, 1, 15, 143, 2}},
		{packet(0, []int{0}, []int{0}), []byte{0, 1, 1, 0, 0}},
		{packet(1, []int{127}, []int{128}), []byte{1, 1, 1, 127, 128, 1}},
		{packet(127, []int{1018}, []int{1018, 0, 1}), []byte{127, 1, 3, 250, 7, 250, 7, 0, 1}},
		{packet(5, []int{1, 2, 3}, []int{4}), []byte{5, 3, 1, 1, 2, 3, 4}},
		{packet(5, []int{1}, []int{2, 3, 4}), []byte{5, 1, 3, 1, 2, 3, 4}},
		{packet(1000000000000, []int{9}, []int{8}), []byte{128, 160, 148, 165, 141, 29, 1, 1, 9, 8}},
		{packet(0, filledVector(8, 1), filledVector(16, 3)), slices.Concat([]byte{0, 8, 16}, bytes.Repeat([]byte{1}, 8), bytes.Repeat([]byte{3}, 16))},
	}
	for _, c := range cases {
		if got := impl.EncodePacket(c.p); !bytes.Equal(got, c.want) {
			t.Errorf("EncodePacket(%v) = %v, want %v", c.p, got, c.want)
		}
		got, ok := impl.DecodePacket(c.want)
		expectPacket(t, "DecodePacket", got, ok, c.p)
	}
}

func TestDecodingInvertsEncoding(t *testing.T) {
	for _, p := range validPackets() {
		b := impl.EncodePacket(p)
		if !bytes.Equal(b, expectedPacketEncoding(p)) {
			t.Errorf("EncodePacket(%v) = %v", p, b)
		}
		got, ok := impl.DecodePacket(b)
		expectPacket(t, "DecodePacket", got, ok, p)
	}
	for _, id := range goodIds {
		for x := range 1019 {
			p := packet(id, []int{x, 1018 - x}, []int{(x + 500) % 1019})
			got, ok := impl.DecodePacket(impl.EncodePacket(p))
			expectPacket(t, "DecodePacket", got, ok, p)
		}
	}
}

func TestEncodePacketRejects(t *testing.T) {
	reject := func(p impl.CodedPacket) {
		t.Helper()
		if got := impl.EncodePacket(p); len(got) != 0 {
			t.Errorf("EncodePacket(%v) = %v", p, got)
		}
	}
	for _, p := range validPackets() {
		for _, id := range badIds {
			reject(packet(id, p.Coefficients, p.Payload))
		}
		for _, x := range nonElements {
			for _, i := range spots(len(p.Coefficients)) {
				reject(packet(p.Generation, withComponent(p.Coefficients, i, x), p.Payload))
			}
			for _, i := range spots(len(p.Payload)) {
				reject(packet(p.Generation, p.Coefficients, withComponent(p.Payload, i, x)))
			}
		}
		for _, length := range []int{0, 17, 40, 41, 100} {
			reject(packet(p.Generation, filledVector(length, 1), p.Payload))
			reject(packet(p.Generation, p.Coefficients, filledVector(length, 1)))
		}
		reject(packet(p.Generation, filledVector(9, 1), p.Payload))
		reject(packet(p.Generation, nil, p.Payload))
		reject(packet(p.Generation, p.Coefficients, nil))
	}
	reject(impl.CodedPacket{})
	reject(packet(3, []int{}, []int{}))
}

func TestDecodePacketNeedsTheWholeEncoding(t *testing.T) {
	for _, p := range validPackets() {
		b := expectedPacketEncoding(p)
		for end := range b {
			rejectBytes(t, "cut off", b[:end])
		}
		for start := 1; start < len(b); start++ {
			// The rest of an encoding may be one by chance.
			if want, ok := expectedDecoding(b[start:]); ok {
				got, ok := impl.DecodePacket(b[start:])
				expectPacket(t, "the rest of an encoding", got, ok, want)
			} else {
				rejectBytes(t, "the rest of an encoding", b[start:])
			}
		}
		for _, more := range [][]byte{{0}, {1}, {128}, {255}, {0, 0}, {128, 1}, b} {
			rejectBytes(t, "longer", slices.Concat(b, more))
		}
	}
	rejectBytes(t, "empty", nil)
	rejectBytes(t, "empty", []byte{})
	rejectBytes(t, "nothing but zeros", make([]byte, 3))
	rejectBytes(t, "nothing but zeros", make([]byte, 5))
	rejectBytes(t, "nothing but zeros", make([]byte, 1000))
}

// Every number in turn takes one byte more than it needs, or is none.
func TestDecodePacketRejectsVarints(t *testing.T) {
	for _, p := range validPackets() {
		numbers := packetNumbers(p)
		for i, n := range numbers {
			before, after := varints(numbers[:i]...), varints(numbers[i+1:]...)
			longer := varint(n)
			longer[len(longer)-1] |= 128
			rejectBytes(t, "not minimal", slices.Concat(before, longer, []byte{0}, after))
			rejectBytes(t, "not minimal", slices.Concat(before, longer, []byte{128, 0}, after))
			for _, bad := range badVarints {
				b := slices.Concat(before, bad.bytes, after)
				// Bytes that are cut off may continue with those of the next number.
				if _, ok := expectedDecoding(b); !ok {
					rejectBytes(t, bad.name, b)
				}
			}
		}
	}
}

func TestDecodePacketRejectsCounts(t *testing.T) {
	counts := []int{0, 1, 2, 3, 4, 5, 6, 7, 8, 9, 10, 15, 16, 17, 18, 24, 25, 39, 40, 41, 99, 100, 101, 127, 128, 255, 256, 1 << 16, 1 << 32, 1<<32 + 2, 999999999999, 1000000000000}
	for _, p := range validPackets() {
		size, width := len(p.Coefficients), len(p.Payload)
		rest := varints(slices.Concat(p.Coefficients, p.Payload)...)
		for _, count := range counts {
			if count != size {
				rejectBytes(t, "another number of coefficients", slices.Concat(varints(p.Generation, count, width), rest))
			}
			if count != width {
				rejectBytes(t, "another number of components", slices.Concat(varints(p.Generation, size, count), rest))
			}
			// One more here and one less there is another packet, unless it is beyond a limit.
			moved := slices.Concat(varints(p.Generation, count, size+width-count), rest)
			if count >= 1 && count <= 8 && count < size+width && size+width-count <= 16 {
				numbers := slices.Concat(p.Coefficients, p.Payload)
				got, ok := impl.DecodePacket(moved)
				expectPacket(t, "other numbers", got, ok, packet(p.Generation, numbers[:count], numbers[count:]))
			} else if count <= size+width {
				rejectBytes(t, "beyond a limit", moved)
			}
		}
	}
	for _, count := range []int{0, 9, 17, 40, 41, 99, 100, 101} {
		for _, other := range []int{0, 1, 8, 9, 16, 17, 40, 41, 100} {
			if count == 0 || count > 8 {
				rejectBytes(t, "complete, but the coefficients are too many or too few", slices.Concat(varints(3, count, other), make([]byte, count+other)))
			}
			if count == 0 || count > 16 {
				rejectBytes(t, "complete, but the components are too many or too few", slices.Concat(varints(3, other, count), make([]byte, count+other)))
			}
		}
	}
}

func TestDecodePacketRejectsNumbers(t *testing.T) {
	for _, p := range validPackets() {
		numbers := packetNumbers(p)
		for i := 3; i < len(numbers); i++ {
			for _, x := range []int{1019, 1020, 2037, 2038, 2039, 1 << 14, 1 << 32, 1<<32 + 1, 999999999999, 1000000000000} {
				rejectBytes(t, "no element", varints(withComponent(numbers, i, x)...))
			}
		}
		for _, id := range []int{1000000000001, 1 << 40, 1 << 41, 1<<42 - 1, 1 << 42, 1 << 62} {
			rejectBytes(t, "an Id beyond its limit", varints(withComponent(numbers, 0, id)...))
		}
	}
}

// readVarint reads without the package: the shortest encoding of a number up to the limit.
func readVarint(b []byte) (int, []byte, bool) {
	n, factor := 0, 1
	for i, c := range b[:min(len(b), 6)] {
		n += int(c%128) * factor
		factor *= 128
		if c < 128 {
			return n, b[i+1:], n <= 1000000000000 && len(varint(n)) == i+1
		}
	}
	return 0, nil, false
}

// expectedDecoding follows the document's words, without the package.
func expectedDecoding(b []byte) (impl.CodedPacket, bool) {
	numbers := []int{}
	for len(b) > 0 {
		n, rest, ok := readVarint(b)
		if !ok {
			return impl.CodedPacket{}, false
		}
		numbers, b = append(numbers, n), rest
	}
	if len(numbers) < 3 || numbers[1] < 1 || numbers[1] > 8 || numbers[2] < 1 || numbers[2] > 16 || len(numbers) != 3+numbers[1]+numbers[2] {
		return impl.CodedPacket{}, false
	}
	if slices.Max(numbers[3:]) > 1018 {
		return impl.CodedPacket{}, false
	}
	return packet(numbers[0], numbers[3:3+numbers[1]], numbers[3+numbers[1]:]), true
}

func checkDecoding(t *testing.T, b []byte) bool {
	t.Helper()
	want, ok := expectedDecoding(b)
	if !ok {
		rejectBytes(t, "no encoding", b)
		return false
	}
	got, ok := impl.DecodePacket(b)
	expectPacket(t, "an encoding", got, ok, want)
	if again := impl.EncodePacket(got); !bytes.Equal(again, b) {
		t.Errorf("EncodePacket(DecodePacket(%v)) = %v", b, again)
	}
	return true
}

// All short byte strings are compared with the definition.
func TestDecodePacketOfShortBytes(t *testing.T) {
	accepted := 0
	for length := range 8 {
		components := []int{0, 1, 2, 3, 7, 128, 250, 255}
		if length > 5 {
			components = []int{0, 1, 2, 129}
		}
		everyMatrix(1, length, components, func(m [][]int) {
			b := []byte{}
			for _, x := range m[0] {
				b = append(b, byte(x))
			}
			if checkDecoding(t, b) {
				accepted++
			}
		})
	}
	if accepted < 500 {
		t.Errorf("only %d of the short byte strings are encodings", accepted)
	}
}

func TestDecodePacketOfChangedBytes(t *testing.T) {
	for k, p := range validPackets() {
		b := expectedPacketEncoding(p)
		checkDecoding(t, b)
		for i := range b {
			for _, c := range []byte{0, 1, 2, 7, 8, 127, 128, 129, 255, b[i] ^ 128, b[i] + 1, byte(k)} {
				changed := slices.Clone(b)
				changed[i] = c
				checkDecoding(t, changed)
				checkDecoding(t, slices.Insert(slices.Clone(b), i, c))
			}
			checkDecoding(t, slices.Delete(slices.Clone(b), i, i+1))
		}
	}
}

func TestIsZeroPacket(t *testing.T) {
	expect := func(p impl.CodedPacket, want bool) {
		t.Helper()
		if impl.IsZeroPacket(p) != want {
			t.Errorf("IsZeroPacket(%v) is not %v", p, want)
		}
	}
	for size := range 43 {
		for width := range 43 {
			for _, id := range []int{0, 1, -1, math.MaxInt} {
				expect(packet(id, filledVector(size, 0), filledVector(width, 0)), true)
			}
			for _, x := range []int{1, 1018, 1019, -1, 1 << 32, math.MinInt, math.MaxInt} {
				for i := range size {
					expect(packet(0, withComponent(filledVector(size, 0), i, x), filledVector(width, 0)), false)
				}
				for i := range width {
					expect(packet(0, filledVector(size, 0), withComponent(filledVector(width, 0), i, x)), false)
				}
				if size+width > 0 {
					expect(packet(0, filledVector(size, x), filledVector(width, x)), false)
				}
			}
		}
	}
	expect(impl.CodedPacket{}, true)
	expect(packet(5, nil, []int{0}), true)
	expect(packet(5, []int{0}, nil), true)
	expect(packet(5, nil, []int{3}), false)
	expect(packet(5, []int{3}, nil), false)
	expect(packet(5, []int{1, -1}, []int{1, -1}), false)
}

func TestEqualPackets(t *testing.T) {
	cases := []struct {
		a, b impl.CodedPacket
		want bool
	}{
		{impl.CodedPacket{}, packet(0, []int{}, []int{}), true},
		{impl.CodedPacket{}, packet(1, nil, nil), false},
		{impl.CodedPacket{}, packet(0, []int{0}, nil), false},
		{impl.CodedPacket{}, packet(0, nil, []int{0}), false},
		{packet(3, nil, []int{1}), packet(3, []int{}, []int{1}), true},
		{packet(3, []int{1}, nil), packet(3, []int{1}, []int{}), true},
		{packet(3, []int{1}, nil), packet(3, nil, []int{1}), false},
		{packet(3, []int{1, 2}, []int{3}), packet(3, []int{1}, []int{2, 3}), false},
		{packet(3, []int{1, 2}, []int{3}), packet(3, []int{3}, []int{1, 2}), false},
		{packet(3, []int{1, 2}, []int{3}), packet(3, []int{2, 1}, []int{3}), false},
		{packet(3, []int{12}, []int{3}), packet(3, []int{1, 2}, []int{3}), false},
		{packet(3, []int{1, 23}, []int{3}), packet(3, []int{12, 3}, []int{3}), false},
		{packet(3, []int{1}, []int{12}), packet(3, []int{1}, []int{1, 2}), false},
		{packet(3, []int{1}, []int{0, 0}), packet(3, []int{1}, []int{0}), false},
		{packet(3, []int{0, 1}, []int{1}), packet(3, []int{1}, []int{1}), false},
		{packet(31, []int{2}, []int{1}), packet(3, []int{12}, []int{1}), false},
		{packet(3, []int{1}, []int{1}), packet(1, []int{3}, []int{1}), false},
		{packet(3, []int{-1}, []int{1}), packet(3, []int{1}, []int{1}), false},
		{packet(3, []int{-1}, []int{1}), packet(3, []int{1018}, []int{1}), false},
		{packet(3, []int{1}, []int{1019}), packet(3, []int{1}, []int{0}), false},
		{packet(3, []int{1, -2}, []int{1}), packet(3, []int{1, 2}, []int{1}), false},
		{packet(3, []int{1}, []int{1 << 32}), packet(3, []int{1}, []int{0}), false},
		{packet(3, []int{44}, []int{1}), packet(3, []int{300}, []int{1}), false},
		{packet(3, []int{0x110000}, []int{1}), packet(3, []int{0x110001}, []int{1}), false},
		{packet(3, []int{0xD800}, []int{1}), packet(3, []int{0xFFFD}, []int{1}), false},
		{packet(3, []int{-1}, []int{1}), packet(3, []int{-2}, []int{1}), false},
		{packet(3, []int{math.MinInt}, []int{1}), packet(3, []int{math.MaxInt}, []int{1}), false},
		{packet(math.MinInt, []int{math.MinInt}, []int{math.MaxInt}), packet(math.MinInt, []int{math.MinInt}, []int{math.MaxInt}), true},
		{packet(0, []int{1}, []int{1}), packet(1<<32, []int{1}, []int{1}), false},
		{packet(-1, []int{1}, []int{1}), packet(1, []int{1}, []int{1}), false},
		{packet(3, filledVector(5000, 7), filledVector(5000, 8)), packet(3, filledVector(5000, 7), filledVector(5000, 8)), true},
		{packet(3, filledVector(5000, 7), filledVector(5000, 8)), packet(3, filledVector(5000, 7), withComponent(filledVector(5000, 8), 4999, 9)), false},
		{packet(3, filledVector(5000, 7), filledVector(5000, 8)), packet(3, filledVector(4999, 7), filledVector(5001, 8)), false},
	}
	for _, c := range cases {
		if impl.EqualPackets(c.a, c.b) != c.want || impl.EqualPackets(c.b, c.a) != c.want {
			t.Errorf("EqualPackets(%v, %v), or of the two in the other order, is not %v", c.a, c.b, c.want)
		}
		if !impl.EqualPackets(c.a, c.a) || !impl.EqualPackets(c.b, copyPacket(c.b)) {
			t.Errorf("%v or %v does not equal itself", c.a, c.b)
		}
	}
}

func TestEqualPacketsLooksAtEverything(t *testing.T) {
	for _, p := range validPackets() {
		if !impl.EqualPackets(p, copyPacket(p)) {
			t.Errorf("%v does not equal its copy", p)
		}
		for _, other := range changedPackets(p) {
			if impl.EqualPackets(p, other) || impl.EqualPackets(other, p) || !impl.EqualPackets(other, copyPacket(other)) {
				t.Errorf("EqualPackets does not tell %v from %v", p, other)
			}
		}
	}
}

// All small packets are compared with each other.
func TestEqualPacketsOfSmallPackets(t *testing.T) {
	packets := []impl.CodedPacket{}
	for _, id := range []int{0, 1, 11} {
		for size := range 3 {
			for width := range 3 {
				everyMatrix(1, size+width, []int{0, 1, 11, -1}, func(m [][]int) {
					packets = append(packets, packet(id, slices.Clone(m[0][:size]), slices.Clone(m[0][size:])))
				})
			}
		}
	}
	for i, a := range packets {
		for j, b := range packets {
			if impl.EqualPackets(a, b) != (i == j) {
				t.Errorf("EqualPackets(%v, %v) is not %v", a, b, i == j)
			}
		}
	}
}

// packetResults are calls that return a packet, rejected ones among them; some results are equal to an argument, or their two vectors are equal, but are memory of their own.
func packetResults(g impl.Generation, packets []impl.CodedPacket, coefficients []int, b []byte) map[string]func() (impl.CodedPacket, bool) {
	results := map[string]func() (impl.CodedPacket, bool){
		"CodePacket":                   func() (impl.CodedPacket, bool) { return impl.CodePacket(g, coefficients) },
		"CodePacket, too few":          func() (impl.CodedPacket, bool) { return impl.CodePacket(g, coefficients[1:]) },
		"CodePacket, none":             func() (impl.CodedPacket, bool) { return impl.CodePacket(g, coefficients[:0]) },
		"DecodePacket":                 func() (impl.CodedPacket, bool) { return impl.DecodePacket(b) },
		"DecodePacket, cut off":        func() (impl.CodedPacket, bool) { return impl.DecodePacket(b[:len(b)-1]) },
		"DecodePacket, empty":          func() (impl.CodedPacket, bool) { return impl.DecodePacket(b[:0]) },
		"DecodePacket, longer":         func() (impl.CodedPacket, bool) { return impl.DecodePacket(b[:len(b)+1]) },
		"CombinePackets":               func() (impl.CodedPacket, bool) { return impl.CombinePackets(packets, coefficients) },
		"CombinePackets of one":        func() (impl.CodedPacket, bool) { return impl.CombinePackets(packets[:1], []int{1}) },
		"CombinePackets of none":       func() (impl.CodedPacket, bool) { return impl.CombinePackets(packets[:0], coefficients[:0]) },
		"CombinePackets, too few":      func() (impl.CodedPacket, bool) { return impl.CombinePackets(packets, coefficients[:1]) },
		"CombinePackets, one too many": func() (impl.CodedPacket, bool) { return impl.CombinePackets(packets[:len(packets)+1], coefficients) },
	}
	for i := -1; i <= len(g.Symbols); i++ {
		results["SourcePacket "+strconv.Itoa(i)] = func() (impl.CodedPacket, bool) { return impl.SourcePacket(g, i) }
	}
	return results
}

// packetsWithSpare returns the packets with spare capacity behind the list and behind each vector, and a function that tells whether anything of it has changed.
func packetsWithSpare(packets []impl.CodedPacket) ([]impl.CodedPacket, func() bool) {
	whole := append(copyPackets(packets), packet(77, []int{78}, []int{79}), packet(80, []int{81}, []int{82}))
	checks := []func() bool{}
	for i := range whole {
		coefficients, changed := intsWithSpare(whole[i].Coefficients)
		payload, alsoChanged := intsWithSpare(whole[i].Payload)
		whole[i].Coefficients, whole[i].Payload, checks = coefficients, payload, append(checks, changed, alsoChanged)
	}
	before := copyPackets(whole)
	return whole[:len(packets)], func() bool {
		return !slices.EqualFunc(whole, before, samePacket) || slices.ContainsFunc(checks, func(changed func() bool) bool { return changed() })
	}
}

func TestPacketsAreNewMemory(t *testing.T) {
	for _, symbols := range [][][]int{{{7, 8}, {1, 255}}, {{1, 0, 0}, {0, 1, 0}, {0, 0, 1}}, {{1}}, sampleMatrix(8, 16, 1), sampleMatrix(8, 8, 1), filledMatrix(9, 2, 1), {{1, 2}, {3}}} {
		size := len(symbols)
		own, symbolsChanged := matrixWithSpare(symbols)
		g := generation(4, own...)
		for _, list := range coefficientLists(size, 1) {
			coefficients, coefficientsChanged := intsWithSpare(list)
			b, bytesChanged := withSpare(expectedPacketEncoding(packet(4, list, list)))
			packets, packetsChanged := packetsWithSpare(samplePackets(generation(4, copyRows(sampleMatrix(size, 3, 2))...), size, 1))
			for name, call := range packetResults(g, packets, coefficients, b) {
				first, firstOk := call()
				second, secondOk := call()
				want := copyPacket(second)
				if !samePacket(first, want) || firstOk != secondOk {
					t.Errorf("%s of %v: the results differ", name, g)
				}
				if spoil([][]int{first.Coefficients, first.Payload}) {
					t.Errorf("%s of %v: the vectors share memory", name, g)
				}
				if symbolsChanged() || coefficientsChanged() || bytesChanged() || packetsChanged() {
					t.Fatalf("%s of %v changes an argument, or its result shares memory with one", name, g)
				}
				third, _ := call()
				if !samePacket(second, want) || !samePacket(third, want) {
					t.Errorf("%s of %v returns the same memory twice", name, g)
				}
			}
		}
	}
}

func TestEncodedPacketsAreNewMemory(t *testing.T) {
	for _, p := range append(validPackets(), impl.CodedPacket{}, packet(-1, []int{1}, []int{2})) {
		packets, changed := packetsWithSpare([]impl.CodedPacket{p})
		first, second := impl.EncodePacket(packets[0]), impl.EncodePacket(packets[0])
		want := slices.Clone(second)
		flip(first)
		if changed() || !bytes.Equal(second, want) || !bytes.Equal(impl.EncodePacket(packets[0]), want) {
			t.Errorf("EncodePacket(%v) changes its argument or returns the same memory twice", p)
		}
	}
}

func TestPacketFunctionsChangeNoArgument(t *testing.T) {
	samples := append(append(validPackets(), oddPackets(4)...), packet(-1, nil, nil), packet(4, filledVector(41, 1), filledVector(41, 2)))
	for i, p := range samples {
		packets, changed := packetsWithSpare([]impl.CodedPacket{p, samples[(i+1)%len(samples)], p})
		own, symbolsChanged := matrixWithSpare(sampleMatrix(3, 4, i))
		g := generation(4, own...)
		coefficients, coefficientsChanged := intsWithSpare([]int{1, 1018, 0})
		for _, q := range packets {
			impl.IsValidPacket(q, len(q.Coefficients), len(q.Payload))
			impl.IsConsistent(g, q)
			impl.EncodePacket(q)
			impl.IsZeroPacket(q)
			impl.EqualPackets(q, packets[0])
			impl.CodePacket(g, q.Coefficients)
			impl.CombinePackets([]impl.CodedPacket{q, q, packets[1]}, coefficients)
		}
		impl.CombinePackets(packets, coefficients)
		impl.CombinePackets(packets[:1], coefficients[:1])
		impl.CombinePackets(packets[:2], packets[1].Coefficients)
		if changed() || symbolsChanged() || coefficientsChanged() {
			t.Errorf("a call changes the packets %v, the generation or the coefficients", packets)
		}
	}
}
