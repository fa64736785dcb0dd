package cut_test

import (
	"bytes"
	"math"
	"testing"

	"wellspring/api"
	"wellspring/cut"
	"wellspring/mix"
	"wellspring/plan"
)

// is fails the test where something isn't what was wanted.
func is[T comparable](t *testing.T, what string, got, wanted T) {
	t.Helper()
	if got != wanted {
		t.Errorf("%s: %v, wanted %v", what, got, wanted)
	}
}

// some is n bytes, of another run for another start, without noughts, so that they are told from the padding.
func some(start, n int) []byte {
	var l []byte
	for len(l) < n {
		more, _ := mix.Row(uint64(1000*start+len(l)), min(n-len(l), api.MaxCells))
		l = append(l, more...)
	}
	for i := range l {
		l[i] = max(1, l[i])
	}
	return l
}

// of is a plan that may be.
func of(t *testing.T, length, size int) plan.Plan {
	t.Helper()
	p, e := plan.Of(length, size, 7)
	is(t, "the plan's error", e, api.OK)
	return p
}

// byWords is an object's symbols by the document's words: its bytes, and noughts behind them, cut byte by byte.
func byWords(p plan.Plan, object []byte) [][]byte {
	symbols := make([][]byte, p.Symbols)
	for i := range symbols {
		for j := range p.Size {
			b := byte(0)
			if at := i*p.Size + j; at < len(object) {
				b = object[at]
			}
			symbols[i] = append(symbols[i], b)
		}
	}
	return symbols
}

// lengths are how long objects are, and their symbols: all short ones, and the edges.
func lengths() [][2]int {
	l := [][2]int{
		{0, 65535}, {1, 65535}, {65534, 65535}, {65535, 65535}, {65536, 65535}, {131070, 65535}, {131071, 65535},
		{4095, 1}, {4096, 1}, {8190, 2}, {8191, 2}, {8192, 2}, {4096*17 - 16, 17}, {4096 * 17, 17}, {100000, 70}, {65535, 65534},
	}
	for length := range 41 {
		for size := 1; size < 44; size++ {
			l = append(l, [2]int{length, size})
		}
	}
	return l
}

// bad is a plan that may not be, and why.
type bad struct {
	plan.Plan
	why api.Errno
}

func bads() []bad {
	return []bad{
		{plan.Plan{}, api.ErrSize},
		{plan.Plan{Length: -1, Size: 2, Symbols: 1}, api.ErrRange},
		{plan.Plan{Length: math.MinInt, Size: 0, Symbols: 1}, api.ErrRange},
		{plan.Plan{Length: 5, Size: 0, Symbols: 3}, api.ErrSize},
		{plan.Plan{Length: 5, Size: -2, Symbols: 3}, api.ErrSize},
		{plan.Plan{Length: 5, Size: 65536, Symbols: 1}, api.ErrSize},
		{plan.Plan{Length: 4097, Size: 1, Symbols: 4097}, api.ErrMany},
		{plan.Plan{Length: math.MaxInt, Size: 2, Symbols: 3}, api.ErrMany},
		{plan.Plan{Length: 5, Size: 2, Symbols: 2}, api.ErrForm},
		{plan.Plan{Length: 5, Size: 2, Symbols: 4}, api.ErrForm},
		{plan.Plan{Length: 5, Size: 2, Symbols: -1}, api.ErrForm},
		{plan.Plan{Length: 0, Size: 2, Symbols: 0}, api.ErrForm},
	}
}

// refuses fails the test where Cut answers anything but this error.
func refuses(t *testing.T, p plan.Plan, object []byte, wanted api.Errno) {
	t.Helper()
	if symbols, e := cut.Cut(p, object); len(symbols) != 0 || e != wanted {
		t.Errorf("Cut(%+v, %d bytes): %d symbols, error %d; wanted none, error %d", p, len(object), len(symbols), e, wanted)
	}
}

// refusesOne fails the test where Symbol answers anything but this error.
func refusesOne(t *testing.T, p plan.Plan, object []byte, i int, wanted api.Errno) {
	t.Helper()
	if symbol, e := cut.Symbol(p, object, i); len(symbol) != 0 || e != wanted {
		t.Errorf("Symbol(%+v, %d bytes, %d): %v, error %d; wanted none, error %d", p, len(object), i, symbol, e, wanted)
	}
}

// refusesPlace fails the test where Spread answers anything but this error.
func refusesPlace(t *testing.T, p plan.Plan, at int, wanted api.Errno) {
	t.Helper()
	if i, j, e := cut.Spread(p, at); i != 0 || j != 0 || e != wanted {
		t.Errorf("Spread(%+v, %d): %d, %d, error %d; wanted 0, 0, error %d", p, at, i, j, e, wanted)
	}
}

// P11.1

func TestExamples(t *testing.T) {
	symbols, e := cut.Cut(of(t, 5, 2), []byte{1, 2, 3, 4, 5})
	is(t, "error", e, api.OK)
	is(t, "how many", len(symbols), 3)
	is(t, "all", string(bytes.Join(symbols, []byte{255})), "\x01\x02\xff\x03\x04\xff\x05\x00")
	symbols, e = cut.Cut(of(t, 0, 2), nil)
	is(t, "of no bytes: error", e, api.OK)
	is(t, "of no bytes: how many", len(symbols), 1)
	is(t, "of no bytes", string(symbols[0]), "\x00\x00")
	i, j, e := cut.Spread(of(t, 5, 2), 3)
	is(t, "the byte 3: error", e, api.OK)
	is(t, "the byte 3", [2]int{i, j}, [2]int{1, 1})
}

func TestCutAndSymbol(t *testing.T) {
	for n, l := range lengths() {
		p, object := of(t, l[0], l[1]), some(n, l[0])
		symbols, e := cut.Cut(p, object)
		is(t, "error", e, api.OK)
		wanted := byWords(p, object)
		is(t, "how many", len(symbols), len(wanted))
		for i, s := range wanted {
			is(t, "a symbol", string(symbols[i]), string(s))
			one, e := cut.Symbol(p, object, i)
			is(t, "one: error", e, api.OK)
			is(t, "one", string(one), string(s))
		}
		for _, i := range []int{-1, math.MinInt, p.Symbols, p.Symbols + 1, math.MaxInt, math.MaxInt / p.Size} {
			refusesOne(t, p, object, i, api.ErrRange)
		}
	}
}

func TestSpread(t *testing.T) {
	for _, l := range lengths() {
		p := of(t, l[0], l[1])
		i, j := 0, 0 // counted on, byte by byte
		for at := range l[0] {
			symbol, place, e := cut.Spread(p, at)
			is(t, "error", e, api.OK)
			is(t, "where", [2]int{symbol, place}, [2]int{i, j})
			if j++; j == l[1] {
				i, j = i+1, 0
			}
		}
		for _, at := range []int{-1, math.MinInt, l[0], l[0] + 1, l[0] + l[1], math.MaxInt} {
			refusesPlace(t, p, at, api.ErrRange)
		}
	}
	p := of(t, 4096*65535, 65535)
	i, j, e := cut.Spread(p, 4096*65535-1)
	is(t, "the last byte of all: error", e, api.OK)
	is(t, "the last byte of all", [2]int{i, j}, [2]int{4095, 65534})
	refusesPlace(t, p, 4096*65535, api.ErrRange)
}

// TestOtherPlans: a plan that may not be is told first, whatever the object and the number are.
func TestOtherPlans(t *testing.T) {
	for _, b := range bads() {
		for _, object := range [][]byte{nil, {}, {1, 2, 3, 4, 5}, {1, 2, 3, 4}, make([]byte, 4097)} {
			refuses(t, b.Plan, object, b.why)
			for _, i := range []int{0, 2, -1, 3, math.MaxInt, math.MinInt} {
				refusesOne(t, b.Plan, object, i, b.why)
				refusesPlace(t, b.Plan, i, b.why)
			}
		}
	}
}

// TestOtherObjects: one of another length is told ahead of the number, also where its symbols were as many.
func TestOtherObjects(t *testing.T) {
	for _, l := range [][2]int{{5, 2}, {6, 2}, {0, 2}, {1, 1}, {4096, 1}, {65535, 65535}} {
		p := of(t, l[0], l[1])
		for _, n := range []int{0, 1, l[0] - 1, l[0] + 1, l[0] + l[1], p.Room() + 1, 2 * l[0], 5000} {
			if n < 0 || n == l[0] {
				continue
			}
			object := some(n, n)
			refuses(t, p, object, api.ErrSize)
			for _, i := range []int{0, p.Symbols - 1, p.Symbols, -1, math.MaxInt, math.MinInt} {
				refusesOne(t, p, object, i, api.ErrSize)
			}
		}
	}
	refuses(t, of(t, 5, 2), []byte{1, 2, 3, 4, 5, 0}, api.ErrSize) // with its padding, it is another object
	refuses(t, of(t, 0, 2), []byte{0, 0}, api.ErrSize)
}

// P11.2

func TestAllOneBehindTheOther(t *testing.T) {
	for n, l := range lengths() {
		p, object := of(t, l[0], l[1]), some(n, l[0])
		symbols, _ := cut.Cut(p, object)
		all := bytes.Join(symbols, nil)
		is(t, "how long", len(all), p.Room())
		is(t, "how they begin", string(all[:l[0]]), string(object))
		is(t, "what is behind", string(all[l[0]:]), string(make([]byte, p.Pad())))
		for at, b := range object {
			i, j, e := cut.Spread(p, at)
			if e != api.OK || symbols[i][j] != b {
				t.Fatalf("%+v: byte %d stands at %d, %d, error %d, but not there", p, at, i, j, e)
			}
		}
	}
}

// Memory.

// TestHandedInStays: an object stays as it was, what lies behind it too.
func TestHandedInStays(t *testing.T) {
	memory := some(3, 40)
	kept := bytes.Clone(memory)
	object := memory[8:13]
	p := of(t, 5, 2)
	symbols, _ := cut.Cut(p, object)
	one, _ := cut.Symbol(p, object, 2)
	is(t, "the padding isn't what lay behind", string(symbols[2])+string(one), string([]byte{object[4], 0, object[4], 0}))
	cut.Cut(p, memory[8:14])
	cut.Symbol(p, object, 3)
	is(t, "memory", string(memory), string(kept))
}

// TestAnswersShareNothing: what is done with one answer, its spare room included, is seen in nothing else.
func TestAnswersShareNothing(t *testing.T) {
	for _, l := range [][2]int{{5, 2}, {6, 2}, {6, 6}, {0, 3}, {7, 1}} {
		p, object := of(t, l[0], l[1]), some(4, l[0])
		kept := bytes.Clone(object)
		wanted := byWords(p, object)
		for i := range wanted {
			symbols, _ := cut.Cut(p, object)
			one, _ := cut.Symbol(p, object, i)
			fill(symbols[i])
			is(t, "one", string(one), string(wanted[i]))
			for j := range wanted {
				is(t, "all others", i == j || string(symbols[j]) == string(wanted[j]), true)
			}
			fill(one)
			is(t, "the object", string(object), string(kept))
		}
		symbols, _ := cut.Cut(p, object)
		one, _ := cut.Symbol(p, object, 0)
		clear(object)
		is(t, "behind a change of the object", string(bytes.Join(symbols, nil)), string(bytes.Join(wanted, nil)))
		is(t, "one behind a change of the object", string(one), string(wanted[0]))
	}
}

// fill overwrites a list, and its spare room.
func fill(l []byte) {
	l = l[:cap(l)]
	for i := range l {
		l[i] = 222
	}
}
