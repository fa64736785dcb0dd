package glue_test

import (
	"bytes"
	"maps"
	"math"
	"slices"
	"testing"

	"wellspring/api"
	"wellspring/cut"
	"wellspring/glue"
	"wellspring/mix"
	"wellspring/plan"
)

// is fails the test where something isn't what was wanted.
func is[T comparable](t *testing.T, what string, got, wanted T) {
	t.Helper()
	if got != wanted {
		t.Errorf("%s: %v, wanted %v", what, got, wanted)
	}
}

// some is n bytes, of another run for another start, without noughts, so that they are told from the padding.
func some(start, n int) []byte {
	var l []byte
	for len(l) < n {
		more, _ := mix.Row(uint64(1000*start+len(l)), min(n-len(l), api.MaxCells))
		l = append(l, more...)
	}
	for i := range l {
		l[i] = max(1, l[i])
	}
	return l
}

// of is a plan that may be.
func of(t *testing.T, length, size int) plan.Plan {
	t.Helper()
	p, e := plan.Of(length, size, 7)
	is(t, "the plan's error", e, api.OK)
	return p
}

// somes are all symbols of a plan, of bytes that aren't 0 behind the length either.
func somes(start int, p plan.Plan) [][]byte {
	symbols := make([][]byte, p.Symbols)
	for i := range symbols {
		symbols[i] = some(5000*start+i, p.Size)
	}
	return symbols
}

// lengths are how long objects are, and their symbols: all short ones, and the edges.
func lengths() [][2]int {
	l := [][2]int{
		{0, 65535}, {1, 65535}, {65534, 65535}, {65535, 65535}, {65536, 65535}, {131070, 65535}, {131071, 65535},
		{4095, 1}, {4096, 1}, {8190, 2}, {8191, 2}, {8192, 2}, {4096*17 - 16, 17}, {4096 * 17, 17}, {65535, 65534},
	}
	for length := range 31 {
		for size := 1; size < 34; size++ {
			l = append(l, [2]int{length, size})
		}
	}
	return l
}

// bad is a plan that may not be, and why.
type bad struct {
	plan.Plan
	why api.Errno
}

func bads() []bad {
	return []bad{
		{plan.Plan{}, api.ErrSize},
		{plan.Plan{Length: -1, Size: 2, Symbols: 1}, api.ErrRange},
		{plan.Plan{Length: math.MinInt, Size: 0, Symbols: 1}, api.ErrRange},
		{plan.Plan{Length: 5, Size: 0, Symbols: 3}, api.ErrSize},
		{plan.Plan{Length: 5, Size: -2, Symbols: 3}, api.ErrSize},
		{plan.Plan{Length: 5, Size: 65536, Symbols: 1}, api.ErrSize},
		{plan.Plan{Length: 4097, Size: 1, Symbols: 4097}, api.ErrMany},
		{plan.Plan{Length: math.MaxInt, Size: 2, Symbols: 3}, api.ErrMany},
		{plan.Plan{Length: 5, Size: 2, Symbols: 2}, api.ErrForm},
		{plan.Plan{Length: 5, Size: 2, Symbols: 4}, api.ErrForm},
		{plan.Plan{Length: 5, Size: 2, Symbols: -1}, api.ErrForm},
		{plan.Plan{Length: 0, Size: 2, Symbols: 0}, api.ErrForm},
	}
}

// refuses fails the test where symbols are joined, are clean, or aren't refused with this error.
func refuses(t *testing.T, p plan.Plan, wanted api.Errno, symbols ...[]byte) {
	t.Helper()
	if object, e := glue.Join(p, symbols...); len(object) != 0 || e != wanted {
		t.Errorf("Join(%+v, %d symbols): %v, error %d; wanted none, error %d", p, len(symbols), object, e, wanted)
	}
	if glue.Clean(p, symbols...) {
		t.Errorf("Clean(%+v, %d symbols), but Join has an error", p, len(symbols))
	}
}

// refusesKnown fails the test where Fill answers anything but this error.
func refusesKnown(t *testing.T, p plan.Plan, known map[int][]byte, wanted api.Errno) {
	t.Helper()
	if object, told, e := glue.Fill(p, known); len(object) != 0 || len(told) != 0 || e != wanted {
		t.Errorf("Fill(%+v, %.100v): %v, %v, error %d; wanted none, none, error %d", p, known, object, told, e, wanted)
	}
}

// fills fails the test where an object isn't filled as the document's words have it, byte by byte.
func fills(t *testing.T, p plan.Plan, known map[int][]byte) {
	t.Helper()
	object, told, e := glue.Fill(p, known)
	if e != api.OK || len(object) != p.Length || len(told) != p.Length {
		t.Fatalf("Fill(%+v): %d bytes, %d told, error %d", p, len(object), len(told), e)
	}
	for at := range p.Length {
		wanted, ok := byte(0), false
		if symbol := known[at/p.Size]; symbol != nil {
			wanted, ok = symbol[at%p.Size], true
		}
		if object[at] != wanted || told[at] != ok {
			t.Fatalf("Fill(%+v): byte %d is %d, %v; wanted %d, %v", p, at, object[at], told[at], wanted, ok)
		}
	}
}

// P12.1

func TestExample(t *testing.T) {
	p := of(t, 5, 2)
	object, e := glue.Join(p, []byte{1, 2}, []byte{3, 4}, []byte{5, 9})
	is(t, "error", e, api.OK)
	is(t, "joined", string(object), "\x01\x02\x03\x04\x05")
	is(t, "clean", glue.Clean(p, []byte{1, 2}, []byte{3, 4}, []byte{5, 9}), false)
	is(t, "clean with a nought", glue.Clean(p, []byte{1, 2}, []byte{3, 4}, []byte{5, 0}), true)
}

func TestJoin(t *testing.T) {
	for n, l := range lengths() {
		p := of(t, l[0], l[1])
		symbols := somes(n, p)
		object, e := glue.Join(p, symbols...)
		is(t, "error", e, api.OK)
		is(t, "joined", string(object), string(bytes.Join(symbols, nil)[:l[0]]))
	}
}

func TestJoinOfNoBytes(t *testing.T) {
	for _, size := range []int{1, 2, 65535} {
		p := of(t, 0, size)
		object, e := glue.Join(p, some(1, size))
		is(t, "error", e, api.OK)
		is(t, "joined", string(object), "")
		is(t, "clean", glue.Clean(p, some(1, size)), false)
		is(t, "clean with noughts", glue.Clean(p, make([]byte, size)), true)
	}
}

// TestClean: with one byte behind the length, all bits but one 0, it isn't; what is within the length isn't asked.
func TestClean(t *testing.T) {
	for n, l := range lengths() {
		p := of(t, l[0], l[1])
		symbols := somes(n, p)
		is(t, "with bytes behind", glue.Clean(p, symbols...), p.Pad() == 0)
		last := symbols[p.Symbols-1]
		clear(last[l[1]-p.Pad():])
		is(t, "with noughts behind", glue.Clean(p, symbols...), true)
		for back := 1; back <= p.Pad(); back += max(1, p.Pad()/40) {
			last[l[1]-back] = 1 << (back % 8)
			is(t, "with a byte behind", glue.Clean(p, symbols...), false)
			last[l[1]-back] = 0
		}
		for _, s := range symbols {
			clear(s)
		}
		is(t, "with noughts throughout", glue.Clean(p, symbols...), true)
	}
}

func TestJoinOfOtherPlans(t *testing.T) {
	for _, b := range bads() {
		refuses(t, b.Plan, b.why)
		refuses(t, b.Plan, b.why, nil)
		refuses(t, b.Plan, b.why, []byte{1, 0}, []byte{0, 0}, []byte{0, 0})
		refuses(t, b.Plan, b.why, []byte{0, 0}, []byte{0})
		refusesKnown(t, b.Plan, nil, b.why)
		refusesKnown(t, b.Plan, map[int][]byte{0: {1, 2}}, b.why)
		refusesKnown(t, b.Plan, map[int][]byte{-1: {1, 2}, 1: {1}}, b.why)
	}
}

// TestOtherSymbols: how many there are is asked ahead of how long they are.
func TestOtherSymbols(t *testing.T) {
	for _, l := range [][2]int{{5, 2}, {6, 2}, {0, 2}, {1, 1}, {3, 7}, {4096, 1}} {
		p := of(t, l[0], l[1])
		for _, n := range []int{0, 1, 2, 3, p.Symbols - 1, p.Symbols + 1, 2 * p.Symbols, 5000} {
			if n == p.Symbols {
				continue
			}
			for _, size := range []int{p.Size, 0, p.Size - 1, p.Size + 1} {
				symbols := make([][]byte, n)
				for i := range symbols {
					symbols[i] = make([]byte, size)
				}
				refuses(t, p, api.ErrMany, symbols...)
			}
			refuses(t, p, api.ErrMany, make([][]byte, n)...)
		}
		refuses(t, p, api.ErrSize, make([][]byte, p.Symbols)...)
		for _, i := range []int{0, p.Symbols / 2, p.Symbols - 1} {
			for _, size := range []int{0, p.Size - 1, p.Size + 1, 2 * p.Size, 70000} {
				symbols := make([][]byte, p.Symbols)
				for j := range symbols {
					symbols[j] = make([]byte, p.Size)
				}
				symbols[i] = make([]byte, size)
				refuses(t, p, api.ErrSize, symbols...)
			}
		}
	}
	refuses(t, of(t, 5, 2), api.ErrSize, []byte{1, 2}, []byte{3, 4}, []byte{5}) // cut to the length, it is no symbol
	refuses(t, of(t, 5, 2), api.ErrMany, []byte{1, 2, 3, 4, 5, 0})
	refuses(t, of(t, 5, 2), api.ErrSize, []byte{1, 2, 3}, []byte{4}, []byte{5, 0}) // as many bytes, otherwise cut
}

// P12.2

func TestFill(t *testing.T) {
	p := of(t, 5, 2)
	object, told, e := glue.Fill(p, map[int][]byte{2: {5, 9}, 0: {1, 2}})
	is(t, "error", e, api.OK)
	is(t, "filled", string(object), "\x01\x02\x00\x00\x05")
	is(t, "told", slices.Equal(told, []bool{true, true, false, false, true}), true)
	fills(t, p, nil)
	fills(t, p, map[int][]byte{})
	fills(t, p, map[int][]byte{1: {0, 0}}) // a nought that is known is told as such
	fills(t, of(t, 0, 2), nil)
	fills(t, of(t, 0, 2), map[int][]byte{0: {1, 2}})
}

// TestFillOfSome: of each plan all symbols, none, one, and some; of few symbols each choice of them.
func TestFillOfSome(t *testing.T) {
	for n, l := range lengths() {
		p := of(t, l[0], l[1])
		symbols := somes(n, p)
		choices := [][]byte{make([]byte, p.Symbols), bytes.Repeat([]byte{1}, p.Symbols), some(n, p.Symbols), some(n+1, p.Symbols)}
		for _, choice := range choices {
			known := map[int][]byte{}
			for i, c := range choice {
				if c%2 == 1 {
					known[i] = symbols[i]
				}
			}
			fills(t, p, known)
		}
		for choice := range 1 << min(5, p.Symbols) {
			known := map[int][]byte{}
			for i := range min(5, p.Symbols) {
				if choice>>i&1 == 1 {
					known[p.Symbols-1-i] = symbols[p.Symbols-1-i]
				}
			}
			fills(t, p, known)
		}
	}
}

// TestFillOfOthers: the lowest number that has an error says which, whatever is known beside.
func TestFillOfOthers(t *testing.T) {
	p := of(t, 5, 2)
	good := map[int][]byte{0: {1, 2}, 1: {3, 4}, 2: {5, 0}}
	for _, i := range []int{-1, -2, math.MinInt, 3, 4, 4096, math.MaxInt} {
		for _, symbol := range [][]byte{{1, 2}, {}, nil, {1}, {1, 2, 3}} {
			refusesKnown(t, p, map[int][]byte{i: symbol}, api.ErrRange)
			known := maps.Clone(good)
			known[i] = symbol
			refusesKnown(t, p, known, api.ErrRange)
			known[1] = []byte{1}
			wanted := api.ErrSize // of 1, ahead of what follows it
			if i < 0 {
				wanted = api.ErrRange
			}
			refusesKnown(t, p, known, wanted)
		}
	}
	for i := range 3 {
		for _, symbol := range [][]byte{{}, nil, {1}, {1, 2, 3}, make([]byte, 70000)} {
			refusesKnown(t, p, map[int][]byte{i: symbol}, api.ErrSize)
			known := maps.Clone(good)
			known[i] = symbol
			refusesKnown(t, p, known, api.ErrSize)
		}
	}
	refusesKnown(t, of(t, 0, 2), map[int][]byte{0: {}}, api.ErrSize)
	refusesKnown(t, of(t, 0, 2), map[int][]byte{1: {0, 0}}, api.ErrRange)
}

// TestFillOfManyOthers: whatever the order is in which the map is gone through.
func TestFillOfManyOthers(t *testing.T) {
	p := of(t, 3000, 3)
	known := map[int][]byte{}
	for i := 10; i < 4000; i++ {
		known[i] = make([]byte, 3)
	}
	for range 50 {
		refusesKnown(t, p, known, api.ErrRange)
	}
	known[999] = []byte{1, 2}
	for range 50 {
		refusesKnown(t, p, known, api.ErrSize)
	}
	known[-1] = []byte{1, 2, 3}
	for range 50 {
		refusesKnown(t, p, known, api.ErrRange)
	}
}

// P12.3

func TestWhatIsCutIsJoined(t *testing.T) {
	for n, l := range lengths() {
		p, object := of(t, l[0], l[1]), some(n, l[0])
		symbols, e := cut.Cut(p, object)
		is(t, "cut: error", e, api.OK)
		joined, e := glue.Join(p, symbols...)
		is(t, "joined: error", e, api.OK)
		is(t, "joined", string(joined), string(object))
		is(t, "clean", glue.Clean(p, symbols...), true)
		known := map[int][]byte{}
		for i, s := range symbols {
			known[i] = s
		}
		filled, told, e := glue.Fill(p, known)
		is(t, "filled: error", e, api.OK)
		is(t, "filled", string(filled), string(object))
		is(t, "all told", slices.Contains(told, false), false)
	}
}

// Memory.

// pieces are the symbols of a plan of 5 bytes as pieces of one memory, so that each has the next one as its spare room.
func pieces() ([]byte, [][]byte) {
	memory := some(9, 12)
	return memory, [][]byte{memory[1:3], memory[5:7], memory[8:10]}
}

func TestHandedInStays(t *testing.T) {
	memory, symbols := pieces()
	kept := bytes.Clone(memory)
	p := of(t, 5, 2)
	known := map[int][]byte{0: symbols[0], 2: symbols[2]}
	glue.Join(p, symbols...)
	glue.Clean(p, symbols...)
	glue.Fill(p, known)
	glue.Fill(p, map[int][]byte{0: symbols[0], 3: symbols[1]})
	is(t, "memory", string(memory), string(kept))
	is(t, "how many are known", len(known), 2)
	is(t, "what is known", string(known[0])+string(known[2]), string(kept[1:3])+string(kept[8:10]))
}

// TestAnswersShareNothing: what is done with an answer, its spare room included, is seen in nothing else.
func TestAnswersShareNothing(t *testing.T) {
	for _, l := range [][2]int{{5, 2}, {6, 2}, {4, 4}, {3, 4}} {
		p := of(t, l[0], l[1])
		object := some(2, l[0])
		symbols, _ := cut.Cut(p, object)
		kept := string(bytes.Join(symbols, nil))
		known := map[int][]byte{}
		for i, s := range symbols {
			known[i] = s
		}
		first, _ := glue.Join(p, symbols...)
		second, told, _ := glue.Fill(p, known)
		for _, answer := range [][]byte{first, second} {
			answer = answer[:cap(answer)]
			for i := range answer {
				answer[i] = 222
			}
			is(t, "the symbols", string(bytes.Join(symbols, nil)), kept)
		}
		clear(told[:cap(told)])
		first, _ = glue.Join(p, symbols...)
		second, told, _ = glue.Fill(p, known)
		for _, s := range symbols {
			clear(s)
		}
		is(t, "joined, behind a change of the symbols", string(first), string(object))
		is(t, "filled, behind a change of the symbols", string(second), string(object))
		is(t, "told", slices.Contains(told, false), false)
	}
}
