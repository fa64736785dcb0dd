package elim_test

import (
	"bytes"
	"math"
	"slices"
	"testing"

	"wellspring/api"
	"wellspring/elim"
	"wellspring/field"
	"wellspring/grid"
	"wellspring/mix"
	"wellspring/vec"
)

// some is n bytes, of another run for another start.
func some(start, n int) []byte {
	l, _ := mix.Row(uint64(start), n)
	return l
}

// few is some bytes, all below most, so that equations depend on each other now and then.
func few(start, n, most int) []byte {
	l := some(start, n)
	for i := range l {
		l[i] %= byte(most)
	}
	return l
}

// somes is k symbols of t bytes.
func somes(start, k, t int) [][]byte {
	symbols := make([][]byte, k)
	for i := range symbols {
		symbols[i] = some(1000*start+i, t)
	}
	return symbols
}

// says is the equation that a vector makes of symbols of t bytes, byte by byte.
func says(v []byte, t int, symbols [][]byte) vec.Row {
	data := make([]byte, t)
	for i, c := range v {
		for j := range data {
			data[j] ^= field.Mul(c, symbols[i][j])
		}
	}
	return vec.Of(v, data)
}

// model is a system by the words of the document: a table of rows by their places, reckoned byte by byte.
type model struct {
	rows []vec.Row
}

// taken is a row less so much of another one.
func taken(r vec.Row, c byte, o vec.Row) vec.Row {
	r = r.Clone()
	for i, b := range o.Vec {
		r.Vec[i] ^= field.Mul(c, b)
	}
	for i, b := range o.Data {
		r.Data[i] ^= field.Mul(c, b)
	}
	return r
}

// first is the first place whose byte isn't 0; -1 of none.
func first(v []byte) int {
	for i, b := range v {
		if b != 0 {
			return i
		}
	}
	return -1
}

// rest is what is left of an equation.
func (m *model) rest(r vec.Row) vec.Row {
	left := r.Clone()
	for _, row := range m.rows {
		left = taken(left, r.Vec[first(row.Vec)], row)
	}
	return left
}

// put is what comes of an equation.
func (m *model) put(r vec.Row) int {
	left := m.rest(r)
	lead := first(left.Vec)
	if lead < 0 {
		if first(left.Data) < 0 {
			return elim.Spare
		}
		return elim.Clash
	}
	inverse, _ := field.Inv(left.Vec[lead])
	left = taken(left, field.Add(inverse, 1), left)
	for i, row := range m.rows {
		m.rows[i] = taken(row, row.Vec[lead], left)
	}
	m.rows = append(m.rows, left)
	slices.SortFunc(m.rows, func(a, b vec.Row) int { return first(a.Vec) - first(b.Vec) })
	return elim.Grown
}

// of is a system that may be.
func of(t *testing.T, k, size int) *elim.Elim {
	t.Helper()
	s, e := elim.New(k, size)
	if e != api.OK || s == nil {
		t.Fatalf("New(%d, %d): error %d", k, size, e)
	}
	return s
}

// puts fails the test where something else came of an equation than was wanted.
func puts(t *testing.T, what string, s *elim.Elim, r vec.Row, wanted int) {
	t.Helper()
	if came, e := s.Put(r); came != wanted || e != api.OK {
		t.Errorf("%s: %d, error %d; wanted %d", what, came, e, wanted)
	}
}

// is fails the test where something isn't what was wanted.
func is[T comparable](t *testing.T, what string, got, wanted T) {
	t.Helper()
	if got != wanted {
		t.Errorf("%s: %v, wanted %v", what, got, wanted)
	}
}

// isRow fails the test where a row hasn't just this vector, and just these data.
func isRow(t *testing.T, what string, got vec.Row, v vec.Vec, data []byte) {
	t.Helper()
	if !bytes.Equal(got.Vec, v) || !bytes.Equal(got.Data, data) {
		t.Errorf("%s: %v and %v, wanted %v and %v", what, []byte(got.Vec), got.Data, []byte(v), data)
	}
}

// has fails the test where a system hasn't just these rows.
func has(t *testing.T, what string, s *elim.Elim, wanted ...vec.Row) {
	t.Helper()
	if rows := s.Rows(); s.Rank() != len(wanted) || !slices.EqualFunc(rows, wanted, vec.Same) {
		t.Errorf("%s: rank %d, rows %v; wanted %v", what, s.Rank(), rows, wanted)
	}
}

// knows fails the test where a symbol isn't known to be just these bytes.
func knows(t *testing.T, what string, s *elim.Elim, i int, wanted []byte) {
	t.Helper()
	if symbol, ok := s.Known(i); !ok || !bytes.Equal(symbol, wanted) {
		t.Errorf("%s: symbol %d: %v, %v; wanted %v", what, i, symbol, ok, wanted)
	}
}

// unknown fails the test where a symbol is known.
func unknown(t *testing.T, what string, s *elim.Elim, i int) {
	t.Helper()
	if symbol, ok := s.Known(i); ok || len(symbol) != 0 {
		t.Errorf("%s: symbol %d: %v, %v; wanted none", what, i, symbol, ok)
	}
}

// solves fails the test where these symbols aren't the solution.
func solves(t *testing.T, what string, s *elim.Elim, wanted [][]byte) {
	t.Helper()
	if symbols, e := s.Solve(); e != api.OK || !slices.EqualFunc(symbols, wanted, bytes.Equal) {
		t.Errorf("%s: %v, error %d; wanted %v", what, symbols, e, wanted)
	}
}

// pends fails the test where there is a solution.
func pends(t *testing.T, what string, s *elim.Elim, wanted api.Errno) {
	t.Helper()
	if symbols, e := s.Solve(); e != wanted || len(symbols) != 0 {
		t.Errorf("%s: %v, error %d; wanted none, error %d", what, symbols, e, wanted)
	}
}

// P8.1

func TestNumbersOfWhatComes(t *testing.T) {
	is(t, "Grown", elim.Grown, 0)
	is(t, "Spare", elim.Spare, 1)
	is(t, "Clash", elim.Clash, 2)
}

func TestNew(t *testing.T) {
	for _, k := range []int{1, 2, 100, 4095, 4096} {
		for _, size := range []int{0, 1, 100, 65534, 65535} {
			s := of(t, k, size)
			symbols, bytes := s.Size()
			is(t, "k", symbols, k)
			is(t, "t", bytes, size)
			has(t, "a new one", s)
			pends(t, "a new one", s, api.ErrPending)
			unknown(t, "a new one", s, 0)
			unknown(t, "a new one", s, k-1)
		}
	}
}

func TestNewOutOfRange(t *testing.T) {
	for _, l := range [][2]int{
		{0, 0}, {0, 1}, {-1, 1}, {math.MinInt, 1}, {4097, 1}, {65536, 1}, {math.MaxInt, 1},
		{1, -1}, {1, math.MinInt}, {1, 65536}, {1, 65537}, {1, math.MaxInt}, {4096, -1}, {4096, 65536},
		{0, -1}, {4097, 65536},
	} {
		if s, e := elim.New(l[0], l[1]); s != nil || e != api.ErrRange {
			t.Errorf("New(%d, %d): %v, error %d; wanted nil, ErrRange", l[0], l[1], s, e)
		}
	}
}

func TestTheExample(t *testing.T) {
	s := of(t, 2, 1)
	puts(t, "the first", s, vec.Of(vec.Vec{1, 1}, []byte{3}), elim.Grown)
	has(t, "behind the first", s, vec.Of(vec.Vec{1, 1}, []byte{3}))
	unknown(t, "behind the first", s, 0)
	unknown(t, "behind the first", s, 1)
	puts(t, "the second", s, vec.Of(vec.Vec{0, 1}, []byte{2}), elim.Grown)
	has(t, "behind the second", s, vec.Of(vec.Vec{1, 0}, []byte{1}), vec.Of(vec.Vec{0, 1}, []byte{2}))
	knows(t, "behind the second", s, 0, []byte{1})
	knows(t, "behind the second", s, 1, []byte{2})
	solves(t, "behind the second", s, [][]byte{{1}, {2}})
}

func TestPut(t *testing.T) {
	s := of(t, 3, 2)
	puts(t, "noughts", s, vec.Of(vec.Vec{0, 0, 0}, []byte{0, 0}), elim.Spare)
	puts(t, "noughts that are something", s, vec.Of(vec.Vec{0, 0, 0}, []byte{0, 1}), elim.Clash)
	has(t, "behind noughts", s)
	puts(t, "what leads in the middle", s, vec.Of(vec.Vec{0, 2, 4}, []byte{6, 0}), elim.Grown)
	has(t, "normed", s, vec.Of(vec.Vec{0, 1, 2}, []byte{3, 0}))
	puts(t, "the same", s, vec.Of(vec.Vec{0, 1, 2}, []byte{3, 0}), elim.Spare)
	puts(t, "three times it", s, vec.Of(vec.Vec{0, 3, 6}, []byte{5, 0}), elim.Spare)
	puts(t, "another one of that vector", s, vec.Of(vec.Vec{0, 3, 6}, []byte{5, 1}), elim.Clash)
	puts(t, "and one more", s, vec.Of(vec.Vec{0, 1, 2}, []byte{2, 0}), elim.Clash)
	has(t, "behind what clashed", s, vec.Of(vec.Vec{0, 1, 2}, []byte{3, 0}))
	puts(t, "what leads ahead", s, vec.Of(vec.Vec{2, 2, 4}, []byte{0, 8}), elim.Grown)
	has(t, "behind what leads ahead", s, vec.Of(vec.Vec{1, 0, 0}, []byte{3, 4}), vec.Of(vec.Vec{0, 1, 2}, []byte{3, 0}))
	knows(t, "behind what leads ahead", s, 0, []byte{3, 4})
	puts(t, "what leads last", s, vec.Of(vec.Vec{0, 0, 2}, []byte{2, 4}), elim.Grown)
	has(t, "behind all", s, vec.Of(vec.Vec{1, 0, 0}, []byte{3, 4}), vec.Of(vec.Vec{0, 1, 0}, []byte{1, 4}), vec.Of(vec.Vec{0, 0, 1}, []byte{1, 2}))
	solves(t, "behind all", s, [][]byte{{3, 4}, {1, 4}, {1, 2}})
	puts(t, "a sum, when all is known", s, vec.Of(vec.Vec{1, 1, 1}, []byte{3, 2}), elim.Spare)
	puts(t, "another sum, when all is known", s, vec.Of(vec.Vec{1, 1, 1}, []byte{3, 3}), elim.Clash)
	solves(t, "behind what clashed", s, [][]byte{{3, 4}, {1, 4}, {1, 2}})
}

// TestPutAsTheDocumentSays holds a system, equation by equation, against one that is made of the document's words.
func TestPutAsTheDocumentSays(t *testing.T) {
	came := map[int]int{}
	for _, size := range [][2]int{{1, 0}, {1, 1}, {2, 0}, {2, 1}, {3, 2}, {5, 1}, {8, 3}, {12, 7}} {
		for _, most := range []int{2, 3, 255} {
			k, bytes := size[0], size[1]
			s, m := of(t, k, bytes), &model{}
			for i := range 3 * k {
				r := vec.Of(few(100*most+i, k, most), few(7000+i, bytes, most))
				rest, e := s.Rest(r)
				wanted := m.rest(r)
				isRow(t, "what is left", rest, wanted.Vec, wanted.Data)
				is(t, "what is left: error", e, api.OK)
				what := m.put(r)
				came[what]++
				puts(t, "what came", s, r, what)
				has(t, "the rows", s, m.rows...)
			}
		}
	}
	for _, what := range []int{elim.Grown, elim.Spare, elim.Clash} {
		if came[what] < 10 {
			t.Errorf("%d came too seldom: %v", what, came)
		}
	}
}

// TestRowsStand: each leads with a 1 behind the one ahead, and where one leads all others have a 0.
func TestRowsStand(t *testing.T) {
	for start := range 10 {
		s := of(t, 10, 4)
		for i := range 12 {
			s.Put(vec.Of(few(30*start+i, 10, start+2), some(i, 4)))
			rows := s.Rows()
			is(t, "how many", len(rows), s.Rank())
			for j, row := range rows {
				lead := row.Lead()
				is(t, "with what a row leads", row.At(lead), 1)
				if j > 0 && rows[j-1].Lead() >= lead {
					t.Errorf("the row %d leads at %d, the one ahead at %d", j, lead, rows[j-1].Lead())
				}
				for o, other := range rows {
					if o != j {
						is(t, "what others have there", other.At(lead), 0)
					}
				}
			}
		}
	}
}

func TestRest(t *testing.T) {
	s := of(t, 3, 1)
	r, e := s.Rest(vec.Of(vec.Vec{2, 4, 6}, []byte{8}))
	isRow(t, "where there is no row", r, vec.Vec{2, 4, 6}, []byte{8})
	is(t, "where there is no row: error", e, api.OK)
	puts(t, "a row", s, vec.Of(vec.Vec{0, 1, 2}, []byte{3}), elim.Grown)
	r, e = s.Rest(vec.Of(vec.Vec{2, 4, 6}, []byte{8}))
	isRow(t, "not normed", r, vec.Vec{2, 0, 14}, []byte{4})
	is(t, "not normed: error", e, api.OK)
	r, e = s.Rest(vec.Of(vec.Vec{0, 2, 4}, []byte{6}))
	isRow(t, "of what is spare", r, vec.Vec{0, 0, 0}, []byte{0})
	is(t, "of what is spare: error", e, api.OK)
	r, e = s.Rest(vec.Of(vec.Vec{0, 2, 4}, []byte{7}))
	isRow(t, "of what clashes", r, vec.Vec{0, 0, 0}, []byte{1})
	is(t, "of what clashes: error", e, api.OK)
	r, e = s.Rest(vec.Of(vec.Vec{5, 0, 7}, []byte{9}))
	isRow(t, "of what has a 0 there", r, vec.Vec{5, 0, 7}, []byte{9})
	is(t, "of what has a 0 there: error", e, api.OK)
	has(t, "behind all that was asked", s, vec.Of(vec.Vec{0, 1, 2}, []byte{3}))
}

func TestPutAndRestOfAnotherSize(t *testing.T) {
	s := of(t, 2, 3)
	puts(t, "a row", s, vec.Of(vec.Vec{1, 1}, []byte{1, 2, 3}), elim.Grown)
	for _, r := range []vec.Row{
		{},
		vec.Of(vec.Vec{0, 1}, nil),
		vec.Of(nil, []byte{1, 2, 3}),
		vec.Of(vec.Vec{1}, []byte{1, 2, 3}),
		vec.Of(vec.Vec{0, 1, 0}, []byte{1, 2, 3}),
		vec.Of(vec.Vec{0, 1}, []byte{1, 2}),
		vec.Of(vec.Vec{0, 1}, []byte{1, 2, 3, 0}),
		vec.Of(vec.Vec{1, 2, 3}, []byte{4, 5}),
		vec.Of(vec.Vec{1}, []byte{2, 3, 4, 5}),
		vec.Of(vec.Vec{0, 0}, []byte{0}),
	} {
		came, e := s.Put(r)
		is(t, "what came", came, 0)
		is(t, "what came: error", e, api.ErrSize)
		left, e := s.Rest(r)
		isRow(t, "what is left", left, nil, nil)
		is(t, "what is left: error", e, api.ErrSize)
	}
	has(t, "behind what was refused", s, vec.Of(vec.Vec{1, 1}, []byte{1, 2, 3}))
}

func TestSymbolsWithoutBytes(t *testing.T) {
	s := of(t, 2, 0)
	puts(t, "the first", s, vec.Of(vec.Vec{0, 9}, nil), elim.Grown)
	puts(t, "so much of it", s, vec.Of(vec.Vec{0, 8}, []byte{}), elim.Spare)
	puts(t, "noughts", s, vec.Of(vec.Vec{0, 0}, nil), elim.Spare)
	has(t, "behind the first", s, vec.Of(vec.Vec{0, 1}, nil))
	knows(t, "behind the first", s, 1, nil)
	unknown(t, "behind the first", s, 0)
	pends(t, "behind the first", s, api.ErrPending)
	puts(t, "the second", s, vec.Of(vec.Vec{7, 1}, nil), elim.Grown)
	solves(t, "behind the second", s, [][]byte{{}, {}})
}

func TestTheGreatest(t *testing.T) {
	s := of(t, 4096, 1)
	for i := range 4096 {
		place := (i*7 + 3) % 4096
		v := make(vec.Vec, 4096)
		v[place] = 3
		if i%64 == 0 { // the symbol 0 is 0: the data are the same
			v[0] ^= 5
		}
		puts(t, "three times a symbol", s, vec.Of(v, []byte{field.Mul(3, byte(place))}), elim.Grown)
	}
	is(t, "rank", s.Rank(), 4096)
	symbols, e := s.Solve()
	is(t, "error", e, api.OK)
	is(t, "how many symbols", len(symbols), 4096)
	for i, symbol := range symbols {
		if len(symbol) != 1 || symbol[0] != byte(i) {
			t.Fatalf("symbol %d: %v", i, symbol)
		}
	}
	wide := of(t, 1, 65535)
	puts(t, "a long one", wide, vec.Of(vec.Vec{2}, some(1, 65535)), elim.Grown)
	data := some(1, 65535)
	half, _ := field.Inv(2)
	for i := range data {
		data[i] = field.Mul(half, data[i])
	}
	solves(t, "a long one", wide, [][]byte{data})
}

func TestClone(t *testing.T) {
	s := of(t, 3, 1)
	first, second, third := vec.Of(vec.Vec{1, 2, 3}, []byte{4}), vec.Of(vec.Vec{0, 1, 0}, []byte{5}), vec.Of(vec.Vec{0, 0, 1}, []byte{6})
	puts(t, "the first", s, first, elim.Grown)
	c := s.Clone()
	has(t, "a clone", c, first)
	k, size := c.Size()
	is(t, "its k", k, 3)
	is(t, "its t", size, 1)
	puts(t, "into the clone", c, second, elim.Grown)
	has(t, "behind what came to the clone", s, first)
	puts(t, "into the first one", s, third, elim.Grown)
	has(t, "of its own", c, vec.Of(vec.Vec{1, 0, 3}, []byte{14}), second)
	has(t, "the first one", s, vec.Of(vec.Vec{1, 2, 0}, []byte{14}), third)
	puts(t, "and the other way about", c, third, elim.Grown)
	puts(t, "and the other way about", s, second, elim.Grown)
	has(t, "at last alike", c, s.Rows()...)
	has(t, "of a new one", of(t, 2, 2).Clone())
}

// P8.2

func TestKnown(t *testing.T) {
	s := of(t, 4, 1)
	puts(t, "one alone", s, vec.Of(vec.Vec{0, 3, 0, 0}, []byte{5}), elim.Grown)
	knows(t, "one alone", s, 1, []byte{3})
	unknown(t, "that leads nowhere", s, 0)
	unknown(t, "that leads nowhere", s, 2)
	puts(t, "two together", s, vec.Of(vec.Vec{0, 0, 1, 9}, []byte{7}), elim.Grown)
	unknown(t, "that leads, not alone", s, 2)
	unknown(t, "that another one has, too", s, 3)
	puts(t, "one with what is known", s, vec.Of(vec.Vec{1, 1, 0, 0}, []byte{8}), elim.Grown)
	knows(t, "one less what is known", s, 0, []byte{11})
	unknown(t, "still", s, 2)
	puts(t, "the last", s, vec.Of(vec.Vec{0, 0, 0, 1}, []byte{1}), elim.Grown)
	knows(t, "what was together", s, 2, []byte{14})
	knows(t, "the last", s, 3, []byte{1})
	knows(t, "still", s, 1, []byte{3})
	for _, i := range []int{4, 5, 100, 4096, math.MaxInt, -1, -2, math.MinInt} {
		unknown(t, "no such one", s, i)
		unknown(t, "no such one of a new system", of(t, 4, 1), i)
	}
}

// TestKnownAsRowsSay: a symbol is known just where a row is the unit of it.
func TestKnownAsRowsSay(t *testing.T) {
	for start := range 20 {
		symbols := somes(start, 8, 3)
		s := of(t, 8, 3)
		for i := range 12 {
			s.Put(says(few(50*start+i, 8, start%4+2), 3, symbols))
			for place := range 8 {
				unit, _ := vec.Unit(8, place)
				if slices.ContainsFunc(s.Rows(), func(r vec.Row) bool { return bytes.Equal(r.Vec, unit) }) {
					knows(t, "where a row is the unit", s, place, symbols[place])
				} else {
					unknown(t, "where none is", s, place)
				}
			}
		}
	}
}

func TestSolve(t *testing.T) {
	for _, size := range [][2]int{{1, 0}, {1, 1}, {2, 3}, {5, 2}, {20, 30}, {60, 10}} {
		k, bytes := size[0], size[1]
		symbols := somes(k, k, bytes)
		s := of(t, k, bytes)
		for i := 0; s.Rank() < k; i++ {
			if i > 3*k+20 {
				t.Fatalf("%d equations of %d symbols: rank %d", i, k, s.Rank())
			}
			pends(t, "too few", s, api.ErrPending)
			s.Put(says(some(i+1, k), bytes, symbols))
		}
		solves(t, "enough", s, symbols)
		for i := range symbols {
			knows(t, "enough", s, i, symbols[i])
		}
	}
}

func TestNil(t *testing.T) {
	var s *elim.Elim
	for _, r := range []vec.Row{{}, vec.Of(vec.Vec{1}, []byte{1})} {
		came, e := s.Put(r)
		is(t, "Put", came, 0)
		is(t, "Put: error", e, api.ErrNil)
		left, e := s.Rest(r)
		isRow(t, "Rest", left, nil, nil)
		is(t, "Rest: error", e, api.ErrNil)
	}
	has(t, "rows", s)
	for _, i := range []int{0, -1, 1} {
		unknown(t, "of nil", s, i)
	}
	pends(t, "of nil", s, api.ErrNil)
	is(t, "Clone", s.Clone(), nil)
	k, size := s.Size()
	is(t, "k", k, 0)
	is(t, "t", size, 0)
}

// Memory, for P8.1 and P8.2

// roomy is two equations of two symbols of two bytes in one piece of memory: each list is the spare room of the one ahead.
func roomy() (r, o vec.Row, memory []byte) {
	memory = []byte{0, 1, 9, 8, 2, 4, 6, 8, 77, 78, 79}
	r = vec.Row{Vec: memory[0:2], Data: memory[2:4]}
	o = vec.Row{Vec: memory[4:6], Data: memory[6:8]}
	return r, o, memory
}

// fill writes all of a list's room.
func fill(l []byte, b byte) {
	l = l[:cap(l)]
	for i := range l {
		l[i] = b
	}
}

func TestWhatIsHandedInStays(t *testing.T) {
	_, _, wanted := roomy()
	r, o, memory := roomy()
	s := of(t, 2, 2)
	for range 2 {
		s.Rest(r)
		s.Put(r)
		s.Put(o)
		s.Put(vec.Row{Vec: r.Vec, Data: o.Data})
		s.Put(vec.Row{Vec: r.Vec, Data: o.Data[:1]})
		s.Rest(o)
	}
	if !bytes.Equal(memory, wanted) {
		t.Errorf("what was handed in was changed: %v", memory)
	}
	rows := s.Rows()
	fill(memory, 55)
	has(t, "behind what was handed in was changed", s, rows...)
}

func TestAnswersShareNoMemory(t *testing.T) {
	_, _, wanted := roomy()
	r, o, memory := roomy()
	s := of(t, 2, 2)
	rest, _ := s.Rest(o)
	puts(t, "the first", s, r, elim.Grown)
	puts(t, "the second", s, o, elim.Grown)
	kept := s.Rows()
	c := s.Clone()
	rows := s.Rows()
	symbols, _ := s.Solve()
	symbol, _ := s.Known(1)
	other, _ := s.Known(1)
	isRow(t, "what is left where there is no row", rest, o.Vec, o.Data)
	fill(rest.Vec, 44)
	fill(rest.Data, 45)
	fill(symbol, 46)
	for i := range rows {
		fill(rows[i].Vec, 47)
		fill(rows[i].Data, 48)
		fill(symbols[i], 49)
		rows[i] = vec.Row{}
		symbols[i] = nil
	}
	if !bytes.Equal(memory, wanted) {
		t.Errorf("answers share memory with what was handed in: %v", memory)
	}
	has(t, "behind answers were changed", s, kept...)
	has(t, "its clone behind answers were changed", c, kept...)
	solves(t, "behind answers were changed", s, [][]byte{kept[0].Data, kept[1].Data})
	if !bytes.Equal(other, kept[1].Data) {
		t.Errorf("two answers of Known share memory: %v", other)
	}
}

// TestAnswersStay: what was answered isn't changed by what comes later.
func TestAnswersStay(t *testing.T) {
	s := of(t, 3, 1)
	puts(t, "the first", s, vec.Of(vec.Vec{1, 2, 3}, []byte{4}), elim.Grown)
	rows := s.Rows()
	puts(t, "the second", s, vec.Of(vec.Vec{0, 1, 5}, []byte{5}), elim.Grown)
	puts(t, "the third", s, vec.Of(vec.Vec{0, 0, 1}, []byte{6}), elim.Grown)
	is(t, "how many", len(rows), 1)
	isRow(t, "the first, as it was", rows[0], vec.Vec{1, 2, 3}, []byte{4})
}

// P8.3

// TestRankIsThatOfTheGrid of all vectors that didn't clash.
func TestRankIsThatOfTheGrid(t *testing.T) {
	for start := range 12 {
		for _, size := range [][2]int{{1, 1}, {4, 0}, {4, 1}, {7, 2}} {
			s := of(t, size[0], size[1])
			vectors := [][]byte{}
			for i := range 12 {
				r := vec.Of(few(40*start+i, size[0], start+2), few(9000+40*start+i, size[1], 2))
				if came, _ := s.Put(r); came != elim.Clash {
					vectors = append(vectors, r.Vec)
				}
				g, e := grid.Of(size[0], vectors...)
				is(t, "the rank", s.Rank(), g.Rank())
				is(t, "the grid: error", e, api.OK)
			}
		}
	}
}

func TestInAnyOrder(t *testing.T) {
	for start := range 6 {
		symbols := somes(start, 5, 3)
		equations := []vec.Row{}
		for i := range 4 + start%3 {
			equations = append(equations, says(few(60*start+i, 5, start%3+2), 3, symbols))
		}
		wanted := of(t, 5, 3)
		for _, r := range equations {
			wanted.Put(r)
		}
		orders(equations, func(l []vec.Row) {
			s := of(t, 5, 3)
			for _, r := range l {
				s.Put(r)
			}
			has(t, "in another order", s, wanted.Rows()...)
		})
	}
}

// orders hands on a list in all its orders.
func orders(l []vec.Row, to func(l []vec.Row)) {
	turn(l, 0, to)
}

// turn hands on a list in all orders of what stands from that place on.
func turn(l []vec.Row, from int, to func(l []vec.Row)) {
	if from >= len(l) {
		to(l)
		return
	}
	for i := from; i < len(l); i++ {
		l[from], l[i] = l[i], l[from]
		turn(l, from+1, to)
		l[from], l[i] = l[i], l[from]
	}
}

func TestNothingClashesWhereThereIsASolution(t *testing.T) {
	for start := range 10 {
		symbols := somes(start+20, 9, 4)
		s := of(t, 9, 4)
		for i := range 40 {
			r := says(few(80*start+i, 9, start+2), 4, symbols)
			if came, e := s.Put(r); came == elim.Clash || e != api.OK {
				t.Errorf("what symbols hold for: %d, error %d", came, e)
			}
			for _, row := range s.Rows() {
				isRow(t, "a row holds for the symbols", row, row.Vec, says(row.Vec, 4, symbols).Data)
			}
			left, e := s.Rest(r)
			isRow(t, "what is left of what was put in", left, make(vec.Vec, 9), make([]byte, 4))
			is(t, "what is left of what was put in: error", e, api.OK)
		}
	}
}
