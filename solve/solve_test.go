package solve_test

import (
	"bytes"
	"math"
	"slices"
	"testing"

	"wellspring/api"
	"wellspring/elim"
	"wellspring/field"
	"wellspring/grid"
	"wellspring/mix"
	"wellspring/nat"
	"wellspring/solve"
	"wellspring/vec"
)

// some is n bytes, of another run for another start.
func some(start, n int) []byte {
	l, _ := mix.Row(uint64(start), n)
	return l
}

// few is some bytes, all below most, so that equations depend on each other, and clash, now and then.
func few(start, n, most int) []byte {
	l := some(start, n)
	for i := range l {
		l[i] %= byte(most)
	}
	return l
}

// somes is k symbols of t bytes.
func somes(start, k, t int) [][]byte {
	symbols := make([][]byte, k)
	for i := range symbols {
		symbols[i] = some(1000*start+i, t)
	}
	return symbols
}

// fews is so many equations of k symbols of t bytes, of bytes below most.
func fews(start, n, k, t, most int) []vec.Row {
	rows := make([]vec.Row, n)
	for i := range rows {
		rows[i] = vec.Of(few(5000*start+2*i, k, most), few(5000*start+2*i+1, t, most))
	}
	return rows
}

// says is the equation that a vector makes of symbols of t bytes, byte by byte.
func says(v []byte, t int, symbols [][]byte) vec.Row {
	data := make([]byte, t)
	for i, c := range v {
		for j := range data {
			data[j] ^= field.Mul(c, symbols[i][j])
		}
	}
	return vec.Of(v, data)
}

// alike is n times the same row.
func alike(n int, row vec.Row) []vec.Row {
	rows := make([]vec.Row, n)
	for i := range rows {
		rows[i] = row
	}
	return rows
}

// solved tells, of all lists of k symbols of t bytes, how many hold for the first rows: for none of them, for one, and so on.
func solved(k, t int, rows []vec.Row) []int {
	counts := make([]int, len(rows)+1)
	for number := range 1 << (8 * k * t) {
		symbols := make([][]byte, k)
		for i := range symbols {
			symbols[i] = make([]byte, t)
			for j := range t {
				symbols[i][j] = byte(number >> (8 * (i*t + j)))
			}
		}
		counts[0]++
		for i, row := range rows {
			if !bytes.Equal(says(row.Vec, t, symbols).Data, row.Data) {
				break
			}
			counts[i+1]++
		}
	}
	return counts
}

// rank is that of the grid of rows of that width.
func rank(t *testing.T, width int, rows [][]byte) int {
	t.Helper()
	g, e := grid.Of(width, rows...)
	if e != api.OK {
		t.Fatalf("%d rows of %d bytes: error %d", len(rows), width, e)
	}
	return g.Rank()
}

// judged is the verdict by the ranks of grids: there is no solution where the data add to the rank of the vectors.
func judged(t *testing.T, k, size int, rows []vec.Row) solve.Verdict {
	t.Helper()
	vectors, wholes, clash := [][]byte{}, [][]byte{}, -1
	for i, row := range rows {
		vectors = append(vectors, row.Vec)
		wholes = append(wholes, slices.Concat(row.Vec, row.Data))
		if clash < 0 && rank(t, k+size, wholes) > rank(t, k, vectors) {
			clash = i
		}
	}
	return solve.Verdict{Rank: rank(t, k, vectors), Clash: clash}
}

// is fails the test where something isn't what was wanted.
func is[T comparable](t *testing.T, what string, got, wanted T) {
	t.Helper()
	if got != wanted {
		t.Errorf("%s: %v, wanted %v", what, got, wanted)
	}
}

// judges fails the test where another verdict is told than this one.
func judges(t *testing.T, what string, k, size int, wanted solve.Verdict, rows ...vec.Row) {
	t.Helper()
	if v, e := solve.Judge(k, size, rows...); v != wanted || e != api.OK {
		t.Errorf("%s: %v, error %d; wanted %v", what, v, e, wanted)
	}
}

// counts fails the test where another number, as its text, is told than this one.
func counts(t *testing.T, what string, k, size int, wanted string, rows ...vec.Row) {
	t.Helper()
	if n, e := solve.Count(k, size, rows...); n.Text() != wanted || e != api.OK {
		t.Errorf("%s: %.50s, error %d; wanted %.50s", what, n.Text(), e, wanted)
	}
}

// refuses fails the test where Judge and Count don't answer this error, and nothing beside it.
func refuses(t *testing.T, what string, k, size int, wanted api.Errno, rows ...vec.Row) {
	t.Helper()
	if v, e := solve.Judge(k, size, rows...); v != (solve.Verdict{}) || e != wanted {
		t.Errorf("%s: Judge: %v, error %d; wanted the zero one, error %d", what, v, e, wanted)
	}
	if n, e := solve.Count(k, size, rows...); n.Text() != "0" || e != wanted {
		t.Errorf("%s: Count: %.50s, error %d; wanted 0, error %d", what, n.Text(), e, wanted)
	}
}

// power is 256 to the n, as its text.
func power(n int) string {
	text := bytes.Repeat([]byte("00"), n)
	return "1" + string(text)
}

// P9.1: Judge

func TestJudge(t *testing.T) {
	a, b := vec.Of(vec.Vec{1, 1}, []byte{3}), vec.Of(vec.Vec{0, 1}, []byte{2})
	twice := vec.Of(vec.Vec{2, 2}, []byte{6})
	other := vec.Of(vec.Vec{1, 1}, []byte{4})
	nothing, wrong := vec.Of(vec.Vec{0, 0}, []byte{0}), vec.Of(vec.Vec{0, 0}, []byte{1})
	for _, c := range []struct {
		what   string
		wanted solve.Verdict
		rows   []vec.Row
	}{
		{"no rows", solve.Verdict{Rank: 0, Clash: -1}, nil},
		{"no rows, of a list", solve.Verdict{Rank: 0, Clash: -1}, []vec.Row{}},
		{"one", solve.Verdict{Rank: 1, Clash: -1}, []vec.Row{a}},
		{"two", solve.Verdict{Rank: 2, Clash: -1}, []vec.Row{a, b}},
		{"one, and twice it", solve.Verdict{Rank: 1, Clash: -1}, []vec.Row{a, twice, a}},
		{"another one of that vector", solve.Verdict{Rank: 1, Clash: 1}, []vec.Row{a, other}},
		{"the other way about", solve.Verdict{Rank: 1, Clash: 1}, []vec.Row{other, a}},
		{"a clash, not at once", solve.Verdict{Rank: 1, Clash: 2}, []vec.Row{a, twice, other}},
		{"two clashes", solve.Verdict{Rank: 1, Clash: 1}, []vec.Row{a, other, other}},
		{"what stands behind a clash is in the rank", solve.Verdict{Rank: 2, Clash: 1}, []vec.Row{a, other, b}},
		{"a clash of what all say", solve.Verdict{Rank: 2, Clash: 2}, []vec.Row{a, b, vec.Of(vec.Vec{1, 0}, []byte{2})}},
		{"none of what all say", solve.Verdict{Rank: 2, Clash: -1}, []vec.Row{a, b, vec.Of(vec.Vec{1, 0}, []byte{1})}},
		{"noughts", solve.Verdict{Rank: 0, Clash: -1}, []vec.Row{nothing, nothing}},
		{"noughts that are something", solve.Verdict{Rank: 0, Clash: 0}, []vec.Row{wrong}},
		{"these behind others", solve.Verdict{Rank: 1, Clash: 2}, []vec.Row{a, nothing, wrong, twice}},
		{"these ahead of others", solve.Verdict{Rank: 2, Clash: 0}, []vec.Row{wrong, a, b}},
	} {
		judges(t, c.what, 2, 1, c.wanted, c.rows...)
	}
}

// TestJudgeAsListsSay: there is no solution where none of all lists of symbols holds.
func TestJudgeAsListsSay(t *testing.T) {
	clashes := 0
	for start := range 30 {
		for _, size := range [][2]int{{2, 1}, {1, 2}, {1, 1}, {3, 0}} {
			k, bytes := size[0], size[1]
			rows := fews(start, 4, k, bytes, start%3+2)
			wanted := solve.Verdict{Clash: slices.Index(solved(k, bytes, rows), 0) - 1}
			if wanted.Clash < 0 {
				wanted.Clash = -1
			} else {
				clashes++
			}
			wanted.Rank = judged(t, k, bytes, rows).Rank
			judges(t, "as lists say", k, bytes, wanted, rows...)
		}
	}
	if clashes < 20 {
		t.Errorf("%d clashes: too few", clashes)
	}
}

// TestJudgeAsGridsSay: by the ranks of vectors, without data and with them.
func TestJudgeAsGridsSay(t *testing.T) {
	places := map[int]bool{}
	for start := range 40 {
		for _, size := range [][2]int{{1, 0}, {3, 1}, {5, 2}, {8, 4}} {
			k, bytes := size[0], size[1]
			symbols := somes(start, k, bytes)
			rows := []vec.Row{}
			for i := range 2*k + 2 {
				rows = append(rows, says(few(500*start+i, k, start%4+2), bytes, symbols))
			}
			if bytes > 0 && start%3 > 0 { // one is harmed, and may clash where it stands, later, or not
				rows[start%len(rows)].Data[start%bytes] ^= byte(start)
			}
			wanted := judged(t, k, bytes, rows)
			places[wanted.Clash] = true
			judges(t, "as grids say", k, bytes, wanted, rows...)
		}
	}
	if len(places) < 8 || !places[-1] {
		t.Errorf("clashes are too much alike: %v", places)
	}
}

func TestJudgeOfSymbolsWithoutBytes(t *testing.T) {
	judges(t, "nothing clashes", 2, 0, solve.Verdict{Rank: 2, Clash: -1},
		vec.Of(vec.Vec{1, 1}, nil), vec.Of(vec.Vec{1, 1}, []byte{}), vec.Of(vec.Vec{0, 0}, nil), vec.Of(vec.Vec{0, 7}, nil))
	judges(t, "no rows", 4096, 0, solve.Verdict{Rank: 0, Clash: -1})
}

// TestJudgeOfMoreThanAGrid: of rows of which layer 7 makes none.
func TestJudgeOfMoreThanAGrid(t *testing.T) {
	rows := alike(65537, vec.Of(vec.Vec{2}, []byte{4}))
	judges(t, "more rows than a grid", 1, 1, solve.Verdict{Rank: 1, Clash: -1}, rows...)
	rows[65536] = vec.Of(vec.Vec{2}, []byte{5})
	judges(t, "the last of which clashes", 1, 1, solve.Verdict{Rank: 1, Clash: 65536}, rows...)
	units := make([]vec.Row, 257)
	for i := range units {
		unit, _ := vec.Unit(257, i)
		units[i] = vec.Of(unit, nil)
	}
	judges(t, "more bytes than a grid", 257, 0, solve.Verdict{Rank: 257, Clash: -1}, units...)
	wide := make([]vec.Row, 17)
	for i := range wide {
		v := make(vec.Vec, 4096)
		v[i*256%4096] = byte(i + 1)
		wide[i] = vec.Of(v, []byte{0})
	}
	judges(t, "as wide as may be", 4096, 1, solve.Verdict{Rank: 16, Clash: -1}, wide...)
}

func TestJudgeOfTheLongest(t *testing.T) {
	data := some(1, 65535)
	other := slices.Clone(data)
	other[65534] ^= 1
	v := vec.Vec{1}
	judges(t, "the same", 1, 65535, solve.Verdict{Rank: 1, Clash: -1}, vec.Of(v, data), vec.Of(v, data))
	judges(t, "but for the last byte", 1, 65535, solve.Verdict{Rank: 1, Clash: 1}, vec.Of(v, data), vec.Of(v, other))
}

func TestJudgeAndCountOutOfRange(t *testing.T) {
	for _, l := range [][2]int{
		{0, 0}, {0, 1}, {-1, 1}, {math.MinInt, 1}, {4097, 1}, {65536, 1}, {math.MaxInt, 1},
		{1, -1}, {1, math.MinInt}, {1, 65536}, {1, math.MaxInt}, {4096, -1}, {4096, 65536}, {0, -1}, {4097, 65536},
	} {
		refuses(t, "out of range", l[0], l[1], api.ErrRange)
		refuses(t, "out of range, ahead of a row's size", l[0], l[1], api.ErrRange, vec.Of(vec.Vec{1, 2, 3}, []byte{4, 5, 6, 7}))
	}
	refuses(t, "no symbols, by rows that fit", 0, 0, api.ErrRange, vec.Row{})
}

func TestJudgeAndCountOfAnotherSize(t *testing.T) {
	fits, clash := vec.Of(vec.Vec{1, 1}, []byte{1, 2, 3}), vec.Of(vec.Vec{1, 1}, []byte{1, 2, 4})
	for _, r := range []vec.Row{
		{},
		vec.Of(vec.Vec{0, 1}, nil),
		vec.Of(nil, []byte{1, 2, 3}),
		vec.Of(vec.Vec{1}, []byte{1, 2, 3}),
		vec.Of(vec.Vec{0, 1, 0}, []byte{1, 2, 3}),
		vec.Of(vec.Vec{0, 1}, []byte{1, 2}),
		vec.Of(vec.Vec{0, 1}, []byte{1, 2, 3, 0}),
		vec.Of(vec.Vec{1, 2, 3}, []byte{4, 5}),
		vec.Of(vec.Vec{1}, []byte{2, 3, 4, 5}),
		vec.Of(vec.Vec{0, 0}, []byte{0}),
	} {
		refuses(t, "alone", 2, 3, api.ErrSize, r)
		refuses(t, "the first", 2, 3, api.ErrSize, r, fits)
		refuses(t, "the last", 2, 3, api.ErrSize, fits, fits, r)
		refuses(t, "behind a clash", 2, 3, api.ErrSize, fits, clash, r)
		refuses(t, "between", 2, 3, api.ErrSize, fits, r, clash)
	}
	refuses(t, "where a power would be too long", 4096, 65535, api.ErrSize, fits)
}

// P9.1: Holds

func TestHolds(t *testing.T) {
	a, b := vec.Of(vec.Vec{1, 1}, []byte{3}), vec.Of(vec.Vec{0, 1}, []byte{2})
	symbols := [][]byte{{1}, {2}}
	is(t, "one", solve.Holds(symbols, a), true)
	is(t, "both", solve.Holds(symbols, a, b), true)
	is(t, "not the first", solve.Holds([][]byte{{2}, {2}}, a, b), false)
	is(t, "not the last", solve.Holds([][]byte{{0}, {3}}, a, b), false)
	is(t, "not the one between", solve.Holds(symbols, a, vec.Of(vec.Vec{1, 0}, []byte{2}), b), false)
	is(t, "neither", solve.Holds([][]byte{{9}, {9}}, a, b), false)
	is(t, "noughts", solve.Holds(symbols, vec.Of(vec.Vec{0, 0}, []byte{0})), true)
	is(t, "noughts that are something", solve.Holds(symbols, vec.Of(vec.Vec{0, 0}, []byte{1})), false)
	long := [][]byte{{1, 2, 3}, {4, 5, 6}}
	is(t, "in all bytes", solve.Holds(long, vec.Of(vec.Vec{1, 1}, []byte{5, 7, 5})), true)
	is(t, "not in the first byte", solve.Holds(long, vec.Of(vec.Vec{1, 1}, []byte{4, 7, 5})), false)
	is(t, "not in the last byte", solve.Holds(long, vec.Of(vec.Vec{1, 1}, []byte{5, 7, 4})), false)
	is(t, "twice, in the field", solve.Holds([][]byte{{128}}, vec.Of(vec.Vec{2}, []byte{29})), true)
}

func TestHoldsOfNone(t *testing.T) {
	is(t, "none", solve.Holds([][]byte{{1}, {2}}), true)
	is(t, "none, of unlike symbols", solve.Holds([][]byte{{1}, {2, 3}, nil}), true)
	is(t, "none of none", solve.Holds(nil), true)
	is(t, "none of an empty list", solve.Holds([][]byte{}, []vec.Row{}...), true)
}

func TestHoldsOfNoSymbols(t *testing.T) {
	for _, symbols := range [][][]byte{nil, {}} {
		is(t, "the empty combination", solve.Holds(symbols, vec.Row{}), true)
		is(t, "the empty combination of empty lists", solve.Holds(symbols, vec.Of(vec.Vec{}, []byte{})), true)
		is(t, "no combination", solve.Holds(symbols, vec.Of(vec.Vec{0}, nil)), false)
		is(t, "not empty", solve.Holds(symbols, vec.Of(nil, []byte{0})), false)
	}
}

func TestHoldsOfAnotherSize(t *testing.T) {
	symbols := [][]byte{{1, 5}, {2, 6}}
	is(t, "as it should be", solve.Holds(symbols, vec.Of(vec.Vec{1, 0}, []byte{1, 5})), true)
	for _, r := range []vec.Row{
		{},
		vec.Of(vec.Vec{1}, []byte{1, 5}),
		vec.Of(vec.Vec{1, 0, 0}, []byte{1, 5}),
		vec.Of(vec.Vec{1, 0}, []byte{1}),
		vec.Of(vec.Vec{1, 0}, []byte{1, 5, 0}),
		vec.Of(vec.Vec{1, 0}, nil),
		vec.Of(vec.Vec{0, 0}, nil),
		vec.Of(nil, []byte{1, 5}),
	} {
		is(t, "an equation of another size", solve.Holds(symbols, r), false)
	}
	is(t, "a longer symbol times 0", solve.Holds([][]byte{{1}, {2, 3}}, vec.Of(vec.Vec{1, 0}, []byte{1})), false)
	is(t, "a shorter symbol times 0", solve.Holds([][]byte{{1}, {}}, vec.Of(vec.Vec{1, 0}, []byte{1})), false)
	is(t, "a longer first one times 0", solve.Holds([][]byte{{2, 3}, {1}}, vec.Of(vec.Vec{0, 1}, []byte{1})), false)
	is(t, "both longer", solve.Holds([][]byte{{1, 0}, {2, 0}}, vec.Of(vec.Vec{1, 0}, []byte{1})), false)
	is(t, "one symbol too few", solve.Holds([][]byte{{1}}, vec.Of(vec.Vec{1, 0}, []byte{1})), false)
	is(t, "one symbol too many", solve.Holds([][]byte{{1}, {2}, {0}}, vec.Of(vec.Vec{1, 0}, []byte{1})), false)
	is(t, "symbols without bytes", solve.Holds([][]byte{{}, nil}, vec.Of(vec.Vec{7, 8}, nil)), true)
	is(t, "symbols without bytes, and data", solve.Holds([][]byte{{}, nil}, vec.Of(vec.Vec{7, 8}, []byte{0})), false)
	is(t, "equations of unlike sizes", solve.Holds(symbols, vec.Of(vec.Vec{1, 0}, []byte{1, 5}), vec.Of(vec.Vec{1}, []byte{1, 5})), false)
	is(t, "equations of unlike sizes, the other way about", solve.Holds([][]byte{{1, 5}}, vec.Of(vec.Vec{1, 0}, []byte{1, 5}), vec.Of(vec.Vec{1}, []byte{1, 5})), false)
}

// TestHoldsAsSaid: just of the data that symbols make. There is no bound to symbols and bytes here.
func TestHoldsAsSaid(t *testing.T) {
	for _, size := range [][2]int{{1, 1}, {3, 2}, {20, 30}, {5000, 1}, {1, 65536}} {
		k, bytes := size[0], size[1]
		symbols := somes(k, k, bytes)
		rows := []vec.Row{}
		for i := range 4 {
			rows = append(rows, says(some(60+i, k), bytes, symbols))
		}
		is(t, "what symbols say", solve.Holds(symbols, rows...), true)
		for i := range rows {
			rows[i].Data[(i*7)%bytes] ^= 1
			is(t, "but for a bit", solve.Holds(symbols, rows...), false)
			rows[i].Data[(i*7)%bytes] ^= 1
		}
	}
}

// P9.1: Span

func TestSpan(t *testing.T) {
	a, b := vec.Of(vec.Vec{1, 1, 0}, []byte{3}), vec.Of(vec.Vec{0, 1, 5}, nil)
	is(t, "one", solve.Span(vec.Vec{1, 1, 0}, a, b), true)
	is(t, "the other one", solve.Span(vec.Vec{0, 1, 5}, a, b), true)
	is(t, "so much of one", solve.Span(vec.Vec{7, 7, 0}, a, b), true)
	is(t, "a sum", solve.Span(vec.Vec{1, 0, 5}, a, b), true)
	is(t, "0", solve.Span(vec.Vec{0, 0, 0}, a, b), true)
	is(t, "another one", solve.Span(vec.Vec{0, 0, 1}, a, b), false)
	is(t, "nearly a sum", solve.Span(vec.Vec{1, 0, 4}, a, b), false)
	is(t, "without the other one", solve.Span(vec.Vec{0, 1, 5}, a), false)
	is(t, "of the same twice", solve.Span(vec.Vec{1, 0, 5}, a, a, a), false)
	is(t, "of 0", solve.Span(vec.Vec{0, 1}, vec.Of(vec.Vec{0, 0}, []byte{1})), false)
	is(t, "of all", solve.Span(vec.Vec{9, 8}, vec.Of(vec.Vec{1, 0}, nil), vec.Of(vec.Vec{5, 6}, nil)), true)
}

// TestSpanAsCombinationsSay: all combinations of two rows are in their span, and nothing else.
func TestSpanAsCombinationsSay(t *testing.T) {
	for start, most := range []int{2, 3, 7, 255} {
		rows := fews(start, 2, 3, 1, most)
		for i := range 500 {
			c := some(10*i+start, 2)
			v := vec.Vec{0, 0, 0}
			for place := range v {
				v[place] = field.Mul(c[0], rows[0].Vec[place]) ^ field.Mul(c[1], rows[1].Vec[place])
			}
			is(t, "a combination", solve.Span(v, rows...), true)
		}
		combined := map[[3]byte]bool{}
		for n := range 65536 {
			v := [3]byte{}
			for place := range v {
				v[place] = field.Mul(byte(n), rows[0].Vec[place]) ^ field.Mul(byte(n>>8), rows[1].Vec[place])
			}
			combined[v] = true
		}
		for i := range 3000 {
			v := few(77*i+start, 3, 7)
			is(t, "as all combinations say", solve.Span(v, rows...), combined[[3]byte(v)])
		}
	}
}

// TestSpanAsASystemSays: just of what nothing is left behind the rows.
func TestSpanAsASystemSays(t *testing.T) {
	in := 0
	for start := range 60 {
		k := start%9 + 1
		rows := fews(start, k, k, start%3, start%4+2)
		system, _ := elim.New(k, 0)
		for _, row := range rows {
			system.Put(vec.Of(row.Vec, nil))
		}
		for i := range 10 {
			v := vec.Vec(few(300*start+i, k, start%4+2))
			left, _ := system.Rest(vec.Of(v, nil))
			if left.Zero() {
				in++
			}
			is(t, "as a system says", solve.Span(v, rows...), left.Zero())
		}
	}
	if in < 100 || in > 500 {
		t.Errorf("%d of 600 are in the span: too much alike", in)
	}
}

func TestSpanPassesOver(t *testing.T) {
	v := vec.Vec{0, 3}
	short, long, fits := vec.Of(vec.Vec{1}, nil), vec.Of(vec.Vec{0, 1, 0}, nil), vec.Of(vec.Vec{0, 1}, []byte{7, 8, 9})
	is(t, "none that fits", solve.Span(v, short, long, vec.Row{}), false)
	is(t, "none that fits, of 0", solve.Span(vec.Vec{0, 0}, short, long, vec.Row{}), true)
	is(t, "one between others", solve.Span(v, short, fits, long), true)
	is(t, "one ahead of others", solve.Span(v, fits, long, vec.Row{}), true)
	is(t, "one behind others", solve.Span(v, long, short, fits), true)
	is(t, "another one between others", solve.Span(vec.Vec{1, 0}, short, fits, long), false)
	is(t, "a longer one with noughts behind", solve.Span(vec.Vec{0, 1, 0}, fits), false)
	is(t, "a shorter one", solve.Span(vec.Vec{1}, vec.Of(vec.Vec{1, 0}, nil)), false)
	is(t, "data don't tell", solve.Span(vec.Vec{2, 2}, vec.Of(vec.Vec{1, 1}, []byte{1}), vec.Of(vec.Vec{1, 1}, []byte{2})), true)
	is(t, "data aren't added", solve.Span(vec.Vec{0, 0}, vec.Of(vec.Vec{1, 1}, []byte{1})), true)
}

func TestSpanOfNoRows(t *testing.T) {
	for _, n := range []int{1, 2, 100, 4097, 46342, 65536} {
		v := make(vec.Vec, n)
		is(t, "0", solve.Span(v), true)
		v[n-1] = 1
		is(t, "another one", solve.Span(v), false)
		is(t, "another one, of an empty list", solve.Span(v, []vec.Row{}...), false)
		is(t, "another one, of rows that are passed over", solve.Span(v, vec.Of(make(vec.Vec, n-1), nil)), false)
	}
}

func TestSpanOfTheEmptyVector(t *testing.T) {
	for _, v := range []vec.Vec{nil, {}} {
		is(t, "of none", solve.Span(v), true)
		is(t, "of empty ones", solve.Span(v, vec.Row{}, vec.Of(nil, []byte{1}), vec.Of(nil, []byte{2})), true)
		is(t, "of others", solve.Span(v, vec.Of(vec.Vec{1}, nil)), true)
		is(t, "of 65535 empty ones", solve.Span(v, alike(65535, vec.Row{})...), true)
		is(t, "of 65536 empty ones", solve.Span(v, alike(65536, vec.Row{})...), true)
	}
}

// TestSpanWhereThereIsNoGrid: with v, rows may be too many, or v too long.
func TestSpanWhereThereIsNoGrid(t *testing.T) {
	long := make(vec.Vec, 65537)
	long[0] = 1
	is(t, "too long", solve.Span(long), true)
	is(t, "too long, and not a row", solve.Span(long, vec.Of(vec.Vec{1}, nil)), true)

	one, nought := vec.Vec{1}, vec.Of(vec.Vec{0}, nil)
	is(t, "as many as a grid may have", solve.Span(one, alike(65535, nought)...), false)
	is(t, "one more", solve.Span(one, alike(65536, nought)...), true)

	half := make(vec.Vec, 32768)
	half[32767] = 1
	first := make(vec.Vec, 32768)
	first[0] = 1
	is(t, "two halves", solve.Span(half, vec.Of(first, nil)), false)
	is(t, "two halves of one span", solve.Span(half, vec.Of(half, nil)), true)
	is(t, "three halves", solve.Span(half, vec.Of(first, nil), vec.Of(first, nil)), true)
	is(t, "a byte more than a half, two times", solve.Span(append(vec.Vec{1}, half...), vec.Of(append(vec.Vec{0}, half...), nil)), true)

	unit, _ := vec.Unit(256, 9)
	other, _ := vec.Unit(256, 8)
	is(t, "256 of 256", solve.Span(unit, alike(255, vec.Of(other, nil))...), false)
	is(t, "257 of 256", solve.Span(unit, alike(256, vec.Of(other, nil))...), true)
	is(t, "those that are passed over aren't too many", solve.Span(unit, alike(70000, nought)...), false)
}

// P9.2

func TestCount(t *testing.T) {
	a := vec.Of(vec.Vec{1, 1}, []byte{3})
	counts(t, "the example", 2, 1, "100", a)
	counts(t, "no rows", 2, 1, "10000")
	counts(t, "the same twice", 2, 1, "100", a, a)
	counts(t, "all", 2, 1, "1", a, vec.Of(vec.Vec{0, 1}, []byte{2}))
	counts(t, "a clash", 2, 1, "0", a, vec.Of(vec.Vec{1, 1}, []byte{4}))
	counts(t, "a clash, and all", 2, 1, "0", a, vec.Of(vec.Vec{1, 1}, []byte{4}), vec.Of(vec.Vec{0, 1}, []byte{2}))
	counts(t, "noughts", 2, 1, "10000", vec.Of(vec.Vec{0, 0}, []byte{0}))
	counts(t, "noughts that are something", 2, 1, "0", vec.Of(vec.Vec{0, 0}, []byte{1}))
	counts(t, "longer symbols", 3, 4, power(8), vec.Of(vec.Vec{0, 7, 1}, []byte{1, 2, 3, 4}))
	counts(t, "symbols without bytes", 4096, 0, "1")
	counts(t, "symbols without bytes, and rows", 2, 0, "1", vec.Of(vec.Vec{0, 1}, nil), vec.Of(vec.Vec{0, 0}, nil))
}

// TestCountAsListsSay: all lists of symbols are gone through.
func TestCountAsListsSay(t *testing.T) {
	told := map[string]bool{}
	for start := range 25 {
		for _, size := range [][2]int{{2, 1}, {1, 2}, {1, 1}, {2, 0}} {
			k, bytes := size[0], size[1]
			rows := fews(100+start, 3, k, bytes, start%3+2)
			for i, n := range solved(k, bytes, rows) {
				wanted := nat.Of(uint64(n)).Text()
				told[wanted] = true
				counts(t, "as lists say", k, bytes, wanted, rows[:i]...)
			}
		}
	}
	for _, text := range []string{"0", "1", "100", "10000"} {
		is(t, text+" came", told[text], true)
	}
}

func TestCountOfTheMost(t *testing.T) {
	most := power(4095)
	counts(t, "one symbol of 4095 bytes", 1, 4095, most)
	counts(t, "4095 symbols of one byte", 4095, 1, most)
	counts(t, "4096 symbols, and a row", 4096, 1, most, vec.Of(bytes.Repeat([]byte{3}, 4096), []byte{9}))
	counts(t, "3 symbols of 4095 bytes, and two rows", 3, 4095, most, vec.Of(vec.Vec{1, 2, 3}, some(1, 4095)), vec.Of(vec.Vec{0, 2, 3}, some(2, 4095)))
	counts(t, "all of the longest", 1, 65535, "1", vec.Of(vec.Vec{1}, some(1, 65535)))
}

func TestCountOfTooMuch(t *testing.T) {
	for _, l := range [][2]int{
		{1, 4096}, {4096, 1}, {2, 2048}, {64, 64}, {1, 5000}, {1, 65535},
		{2, 32768}, {16, 4096}, {2, 32769}, {2, 65535}, {3, 65535}, {17, 4096}, {4096, 17}, {4096, 65535},
	} {
		if n, e := solve.Count(l[0], l[1]); n.Text() != "0" || e != api.ErrLong {
			t.Errorf("Count(%d, %d): %.50s, error %d; wanted 0, ErrLong", l[0], l[1], n.Text(), e)
		}
	}
	v, zero := vec.Vec{0, 0, 0}, vec.Of(vec.Vec{1, 0, 0}, make([]byte, 65535))
	if n, e := solve.Count(3, 65535, zero); n.Text() != "0" || e != api.ErrLong {
		t.Errorf("less one row: %.50s, error %d; wanted 0, ErrLong", n.Text(), e)
	}
	counts(t, "a clash isn't too long", 3, 65535, "0", vec.Of(v, some(1, 65535)))
	counts(t, "nor is a clash behind a row", 3, 65535, "0", zero, vec.Of(v, some(1, 65535)))
}

// Memory, for P9.1 and P9.2

// roomy is two equations of two symbols of two bytes, and these symbols, in one piece of memory: each list is the spare room of the one ahead.
func roomy() (rows []vec.Row, symbols [][]byte, memory []byte) {
	memory = []byte{0, 3, 9, 8, 2, 4, 6, 8, 1, 2, 3, 4, 77, 78, 79}
	rows = []vec.Row{{Vec: memory[0:2], Data: memory[2:4]}, {Vec: memory[4:6], Data: memory[6:8]}, {Vec: memory[12:]}}
	symbols = [][]byte{memory[8:10], memory[10:12], memory[12:]}
	return rows[:2], symbols[:2], memory
}

func TestWhatIsHandedInStays(t *testing.T) {
	wantedRows, wantedSymbols, wanted := roomy()
	rows, symbols, memory := roomy()
	solve.Judge(2, 2, rows...)
	solve.Judge(2, 3, rows...)
	solve.Holds(symbols, rows...)
	solve.Count(2, 2, rows...)
	solve.Span(vec.Vec(memory[8:10]), rows...)
	solve.Span(vec.Vec(memory[8:11]), rows...)
	if !bytes.Equal(memory, wanted) {
		t.Errorf("what was handed in was changed: %v", memory)
	}
	if !slices.EqualFunc(rows[:3], wantedRows[:3], vec.Same) || !slices.EqualFunc(symbols[:3], wantedSymbols[:3], bytes.Equal) {
		t.Errorf("a list that was handed in was changed: %v, %v", rows[:3], symbols[:3])
	}
}

// TestAnswersStay: they don't hang on what becomes of that which was handed in, nor on what was asked ahead.
func TestAnswersStay(t *testing.T) {
	rows, symbols, memory := roomy()
	v, e := solve.Judge(2, 2, rows...)
	n, f := solve.Count(2, 2, rows[:1]...)
	is(t, "errors", e == api.OK && f == api.OK, true)
	clear(memory)
	is(t, "the verdict", v, solve.Verdict{Rank: 2, Clash: -1})
	is(t, "the count", n.Text(), power(2))
	is(t, "noughts hold", solve.Holds(symbols, rows...), true)
	judges(t, "noughts", 2, 2, solve.Verdict{Rank: 0, Clash: -1}, rows...)
	counts(t, "noughts", 2, 2, power(4), rows...)
}

// P9.3

// TestCountOfWhatSymbolsSolve isn't 0, and is 1 just where the rank is full, or symbols have no bytes; no equation makes it more.
func TestCountOfWhatSymbolsSolve(t *testing.T) {
	for start := range 20 {
		for _, size := range [][2]int{{1, 1}, {3, 0}, {3, 1}, {6, 5}} {
			k, bytes := size[0], size[1]
			symbols := somes(start+50, k, bytes)
			rows, last := []vec.Row{}, power(k*bytes)
			for i := range 2 * k {
				rows = append(rows, says(few(900*start+i, k, start%5+2), bytes, symbols))
				is(t, "the symbols hold", solve.Holds(symbols, rows...), true)
				v, e := solve.Judge(k, bytes, rows...)
				is(t, "no clash", v.Clash, -1)
				is(t, "judge: error", e, api.OK)
				n, e := solve.Count(k, bytes, rows...)
				is(t, "count: error", e, api.OK)
				is(t, "0", n.Text() == "0", false)
				is(t, "1", n.Text() == "1", v.Rank == k || bytes == 0)
				ahead, _ := nat.Parse(last)
				is(t, "more than ahead", n.Cmp(ahead) > 0, false)
				last = n.Text()
			}
		}
	}
}

// TestCountNeverGrows, whatever equations say.
func TestCountNeverGrows(t *testing.T) {
	for start := range 40 {
		rows := fews(200+start, 10, 4, 2, start%3+2)
		last, _ := solve.Count(4, 2)
		for i := range rows {
			n, e := solve.Count(4, 2, rows[:i+1]...)
			is(t, "error", e, api.OK)
			is(t, "more than ahead", n.Cmp(last) > 0, false)
			v, _ := solve.Judge(4, 2, rows[:i+1]...)
			is(t, "0 just where they clash", n.Text() == "0", v.Clash >= 0)
			last = n
		}
	}
}

// TestSpanAndRank: one more row adds to the rank just where it isn't in the span.
func TestSpanAndRank(t *testing.T) {
	for start := range 40 {
		rows := fews(300+start, 10, 6, 1, start%4+2)
		for i := range rows {
			ahead, _ := solve.Judge(6, 1, rows[:i]...)
			with, _ := solve.Judge(6, 1, rows[:i+1]...)
			is(t, "in the span", solve.Span(rows[i].Vec, rows[:i]...), ahead.Rank == with.Rank)
		}
	}
}
