package vec_test

import (
	"bytes"
	"math"
	"slices"
	"testing"

	"wellspring/api"
	"wellspring/field"
	"wellspring/vec"
)

// some is n bytes, of another run for another start; noughts are among them where there are enough.
func some(start, n int) []byte {
	l := make([]byte, n)
	for i := range l {
		l[i] = byte((start+i)*(start+i)*37 + 11*i)
	}
	return l
}

// led is n bytes that lead with c at the place i.
func led(n, i int, c byte) vec.Vec {
	v := vec.Vec(some(i, n))
	clear(v[:i])
	v[i] = c
	return v
}

// slowScale is a row times c by the words of the document, byte by byte.
func slowScale(c byte, r vec.Row) vec.Row {
	s := vec.Row{Vec: make(vec.Vec, len(r.Vec)), Data: make([]byte, len(r.Data))}
	for i := range r.Vec {
		s.Vec[i] = field.Mul(c, r.Vec[i])
	}
	for i := range r.Data {
		s.Data[i] = field.Mul(c, r.Data[i])
	}
	return s
}

// slowLess is a row less c times another one, likewise.
func slowLess(r vec.Row, c byte, o vec.Row) vec.Row {
	s := slowScale(c, o)
	for i := range s.Vec {
		s.Vec[i] ^= r.Vec[i]
	}
	for i := range s.Data {
		s.Data[i] ^= r.Data[i]
	}
	return s
}

// is fails the test where something isn't what was wanted.
func is[T comparable](t *testing.T, what string, got, wanted T) {
	t.Helper()
	if got != wanted {
		t.Errorf("%s: %v, wanted %v", what, got, wanted)
	}
}

// isRow fails the test where a row hasn't just this vector, and just these data.
func isRow(t *testing.T, what string, got vec.Row, v vec.Vec, data []byte) {
	t.Helper()
	if !bytes.Equal(got.Vec, v) || !bytes.Equal(got.Data, data) {
		t.Errorf("%s: %v and %v, wanted %v and %v", what, []byte(got.Vec), got.Data, []byte(v), data)
	}
}

// P3.1

func TestUnit(t *testing.T) {
	for n := range 20 {
		for i := range n {
			u, e := vec.Unit(n, i)
			wanted := make([]byte, n)
			wanted[i] = 1
			if !bytes.Equal(u, wanted) || e != api.OK {
				t.Errorf("Unit(%d, %d): %v, error %d", n, i, []byte(u), e)
			}
		}
	}
}

func TestUnitOfTheMost(t *testing.T) {
	for _, n := range []int{4096, 4097, 65535, 65536} {
		for _, i := range []int{0, 1, n / 2, n - 1} {
			u, e := vec.Unit(n, i)
			if e != api.OK || len(u) != n || u[i] != 1 || bytes.Count(u, []byte{0}) != n-1 {
				t.Errorf("Unit(%d, %d): %d bytes, error %d", n, i, len(u), e)
			}
		}
	}
}

func TestUnitOutOfRange(t *testing.T) {
	for _, l := range [][2]int{
		{-1, 0}, {-1, -1}, {-1, -2}, {-5, 3}, {math.MinInt, 0}, {math.MinInt, math.MinInt},
		{65537, 0}, {65537, 65536}, {65537, -1}, {math.MaxInt, 0}, {math.MaxInt, math.MaxInt - 1},
		{0, 0}, {0, -1}, {0, 1},
		{1, 1}, {1, -1}, {3, 3}, {3, 4}, {3, -1}, {3, math.MaxInt}, {3, math.MinInt},
		{65536, 65536}, {65536, -1}, {65536, 65537},
	} {
		if u, e := vec.Unit(l[0], l[1]); len(u) != 0 || e != api.ErrRange {
			t.Errorf("Unit(%d, %d): %d bytes, error %d; wanted none, ErrRange", l[0], l[1], len(u), e)
		}
	}
}

func TestLead(t *testing.T) {
	is(t, "of nil", vec.Vec(nil).Lead(), -1)
	is(t, "of no bytes", vec.Vec{}.Lead(), -1)
	for n := 1; n < 20; n++ {
		is(t, "of noughts", make(vec.Vec, n).Lead(), -1)
		for i := range n {
			for _, c := range []byte{1, 2, 127, 128, 255} {
				is(t, "of what leads", led(n, i, c).Lead(), i)
				u := make(vec.Vec, n)
				u[i] = c
				is(t, "of a byte between noughts", u.Lead(), i)
			}
		}
	}
	is(t, "with spare room", vec.Vec{0, 0, 7}[:2].Lead(), -1)
	is(t, "of a row without a vector", vec.Row{Data: []byte{1}}.Lead(), -1)
	is(t, "of a row", vec.Row{Vec: vec.Vec{0, 4}, Data: []byte{1}}.Lead(), 1)
}

func TestAt(t *testing.T) {
	v := vec.Vec(some(2, 300))
	for i, b := range v {
		is(t, "at a place", v.At(i), b)
	}
	roomy := vec.Vec{7, 8, 9}[:2]
	is(t, "at the last place", roomy.At(1), 8)
	for _, i := range []int{2, 3, 100, math.MaxInt, -1, -2, -100, math.MinInt} {
		is(t, "at no place", roomy.At(i), 0)
		is(t, "at no place of nil", vec.Vec(nil).At(i), 0)
	}
	is(t, "at the first place of nil", vec.Vec(nil).At(0), 0)
	is(t, "at the first place of no bytes", vec.Vec{}.At(0), 0)
	is(t, "of a row", vec.Row{Vec: vec.Vec{3, 4}, Data: []byte{5, 6, 7}}.At(1), 4)
	is(t, "where the data alone have a byte", vec.Row{Vec: vec.Vec{3, 4}, Data: []byte{5, 6, 7}}.At(2), 0)
}

func TestZero(t *testing.T) {
	is(t, "nil", vec.Vec(nil).Zero(), true)
	is(t, "no bytes", vec.Vec{}.Zero(), true)
	for n := 1; n < 20; n++ {
		v := make(vec.Vec, n)
		is(t, "noughts", v.Zero(), true)
		for i := range n {
			for _, c := range []byte{1, 128, 255} {
				v[i] = c
				is(t, "a byte that isn't 0", v.Zero(), false)
			}
			v[i] = 0
		}
	}
	is(t, "with spare room", vec.Vec{0, 0, 7}[:2].Zero(), true)
	is(t, "a row with data alone", vec.Row{Vec: vec.Vec{0, 0}, Data: []byte{1}}.Zero(), true)
	is(t, "a row", vec.Row{Vec: vec.Vec{0, 1}, Data: []byte{0}}.Zero(), false)
}

func TestOf(t *testing.T) {
	for _, n := range []int{0, 1, 2, 50} {
		for _, m := range []int{0, 1, 2, 50} {
			v, data := vec.Vec(some(1, n)), some(9, m)
			isRow(t, "of these", vec.Of(v, data), v, data)
		}
	}
	isRow(t, "of nil", vec.Of(nil, nil), nil, nil)
	isRow(t, "of a vector alone", vec.Of(vec.Vec{1, 0}, nil), vec.Vec{1, 0}, nil)
	isRow(t, "of data alone", vec.Of(nil, []byte{1, 0}), nil, []byte{1, 0})
	isRow(t, "of a longer room", vec.Of(vec.Vec{1, 2, 3}[:2], []byte{4, 5, 6}[:1]), vec.Vec{1, 2}, []byte{4})
}

// P3.2

func TestNorm(t *testing.T) {
	isRow(t, "the example", vec.Of(vec.Vec{0, 2, 4}, []byte{6}).Norm(), vec.Vec{0, 1, 2}, []byte{3})
	for c := 1; c < 256; c++ {
		inverse, _ := field.Inv(byte(c))
		for i := range 6 {
			r := vec.Row{Vec: led(6, i, byte(c)), Data: some(c, 20)}
			wanted := slowScale(inverse, r)
			isRow(t, "of what leads", r.Norm(), wanted.Vec, wanted.Data)
		}
	}
	isRow(t, "of what leads with 1", vec.Of(vec.Vec{0, 1, 9}, []byte{6, 7}).Norm(), vec.Vec{0, 1, 9}, []byte{6, 7})
	isRow(t, "without data", vec.Of(vec.Vec{2, 4}, nil).Norm(), vec.Vec{1, 2}, nil)
}

func TestNormOfWhatDoesNotLead(t *testing.T) {
	isRow(t, "of noughts", vec.Of(vec.Vec{0, 0}, []byte{5, 0, 7}).Norm(), vec.Vec{0, 0}, []byte{5, 0, 7})
	isRow(t, "of no vector", vec.Of(nil, []byte{5, 2}).Norm(), nil, []byte{5, 2})
	isRow(t, "of noughts in vector and data", vec.Of(vec.Vec{0}, []byte{0}).Norm(), vec.Vec{0}, []byte{0})
	isRow(t, "of the zero row", vec.Row{}.Norm(), nil, nil)
}

func TestLess(t *testing.T) {
	for _, n := range []int{0, 1, 2, 30} {
		for _, m := range []int{0, 1, 2, 30} {
			r := vec.Row{Vec: some(1, n), Data: some(2, m)}
			o := vec.Row{Vec: some(30, n), Data: some(40, m)}
			for c := range 256 {
				got, e := r.Less(byte(c), o)
				wanted := slowLess(r, byte(c), o)
				isRow(t, "less so much", got, wanted.Vec, wanted.Data)
				is(t, "less so much: error", e, api.OK)
			}
		}
	}
	r := vec.Of(vec.Vec{1, 2}, []byte{3})
	got, e := r.Less(0, vec.Of(vec.Vec{9, 9}, []byte{9}))
	isRow(t, "less nothing of it", got, r.Vec, r.Data)
	is(t, "less nothing of it: error", e, api.OK)
	got, e = r.Less(1, r)
	isRow(t, "less itself", got, vec.Vec{0, 0}, []byte{0})
	is(t, "less itself: error", e, api.OK)
	got, e = r.Less(2, vec.Of(vec.Vec{128, 0}, []byte{1}))
	isRow(t, "less twice another one", got, vec.Vec{28, 2}, []byte{1})
	is(t, "less twice another one: error", e, api.OK)
	got, e = vec.Row{}.Less(7, vec.Of(vec.Vec{}, []byte{}))
	isRow(t, "nil less none", got, nil, nil)
	is(t, "nil less none: error", e, api.OK)
}

func TestLessOfUnlikeLengths(t *testing.T) {
	r := vec.Of(vec.Vec{1, 2}, []byte{3, 4})
	for _, o := range []vec.Row{
		vec.Of(vec.Vec{1}, []byte{3, 4}),
		vec.Of(vec.Vec{1, 2, 0}, []byte{3, 4}),
		vec.Of(nil, []byte{3, 4}),
		vec.Of(vec.Vec{1, 2}, []byte{3}),
		vec.Of(vec.Vec{1, 2}, []byte{3, 4, 0}),
		vec.Of(vec.Vec{1, 2}, nil),
		vec.Of(vec.Vec{1}, []byte{2, 3, 4}),
		vec.Of(vec.Vec{1, 2, 3}, []byte{4}),
		{},
	} {
		for _, c := range []byte{0, 1, 2, 255} {
			got, e := r.Less(c, o)
			isRow(t, "less another one", got, nil, nil)
			is(t, "less another one: error", e, api.ErrSize)
			got, e = o.Less(c, r)
			isRow(t, "another one less it", got, nil, nil)
			is(t, "another one less it: error", e, api.ErrSize)
		}
	}
}

func TestClone(t *testing.T) {
	for _, n := range []int{0, 1, 2, 50} {
		for _, m := range []int{0, 1, 2, 50} {
			r := vec.Row{Vec: some(1, n), Data: some(2, m)}
			isRow(t, "a clone", r.Clone(), r.Vec, r.Data)
		}
	}
	isRow(t, "of the zero row", vec.Row{}.Clone(), nil, nil)
	isRow(t, "of a longer room", vec.Row{Vec: vec.Vec{1, 2, 3}[:2], Data: []byte{4, 5}[:1]}.Clone(), vec.Vec{1, 2}, []byte{4})
}

func TestSame(t *testing.T) {
	unlike := []vec.Row{
		{},
		vec.Of(vec.Vec{0}, nil),
		vec.Of(nil, []byte{0}),
		vec.Of(vec.Vec{0}, []byte{0}),
		vec.Of(vec.Vec{0, 0}, []byte{0}),
		vec.Of(vec.Vec{0}, []byte{0, 0}),
		vec.Of(vec.Vec{1, 2}, []byte{3}),
		vec.Of(vec.Vec{1}, []byte{2, 3}),
		vec.Of(vec.Vec{1, 2, 3}, nil),
		vec.Of(nil, []byte{1, 2, 3}),
		vec.Of(vec.Vec{2, 1}, []byte{3}),
		vec.Of(vec.Vec{1, 3}, []byte{3}),
		vec.Of(vec.Vec{1, 2}, []byte{4}),
		vec.Of(vec.Vec{1, 2}, []byte{3, 0}),
		vec.Of(vec.Vec{3}, []byte{1, 2}),
		vec.Of(vec.Vec{2, 4}, []byte{6}),
	}
	for i, a := range unlike {
		for j, b := range unlike {
			if vec.Same(a, b) != (i == j) {
				t.Errorf("%v and %v: %v", a, b, i != j)
			}
		}
		if !vec.Same(a, a.Clone()) || !vec.Same(a.Clone(), a) {
			t.Errorf("%v isn't the same as its clone", a)
		}
	}
}

func TestSameWithoutBytesAndWithSpareRoom(t *testing.T) {
	empty := vec.Row{Vec: vec.Vec{}, Data: []byte{}}
	is(t, "nil and empty", vec.Same(vec.Row{}, empty), true)
	is(t, "empty and nil", vec.Same(empty, vec.Row{}), true)
	a := vec.Row{Vec: vec.Vec{1, 2, 3}[:2], Data: []byte{4, 5}[:1]}
	b := vec.Row{Vec: vec.Vec{1, 2, 9}[:2], Data: []byte{4, 9, 9}[:1]}
	is(t, "but for spare room", vec.Same(a, b), true)
}

// Memory, for P3.1 and P3.2

// calls are all calls that answer rows, each handed two rows of like lengths, of which it takes what it needs.
func calls() map[string]func(r, o vec.Row) vec.Row {
	return map[string]func(r, o vec.Row) vec.Row{
		"Of":         func(r, o vec.Row) vec.Row { return vec.Of(r.Vec, o.Data) },
		"Of one":     func(r, o vec.Row) vec.Row { return vec.Of(r.Vec, r.Vec) },
		"Clone":      func(r, o vec.Row) vec.Row { return r.Clone() },
		"Norm":       func(r, o vec.Row) vec.Row { return r.Norm() },
		"Norm of 1":  func(r, o vec.Row) vec.Row { return vec.Row{Vec: o.Vec[1:], Data: r.Data}.Norm() },
		"Norm of 0":  func(r, o vec.Row) vec.Row { return vec.Row{Vec: o.Vec[:1], Data: r.Data}.Norm() },
		"Less":       func(r, o vec.Row) vec.Row { l, _ := r.Less(3, o); return l },
		"Less 0":     func(r, o vec.Row) vec.Row { l, _ := r.Less(0, o); return l },
		"Less 1":     func(r, o vec.Row) vec.Row { l, _ := r.Less(1, o); return l },
		"Less of it": func(r, o vec.Row) vec.Row { l, _ := r.Less(2, r); return l },
	}
}

// roomy is two rows in one piece of memory: each list is the spare room of the one ahead. The second one's vector is 0 1 5.
func roomy() (r, o vec.Row, memory []byte) {
	memory = []byte{0, 7, 9, 200, 100, 50, 0, 1, 5, 11, 22, 33, 77, 78}
	r = vec.Row{Vec: memory[:3], Data: memory[3:6]}
	o = vec.Row{Vec: memory[6:9], Data: memory[9:12]}
	return r, o, memory
}

// fill writes all of a list's room.
func fill(l []byte, b byte) {
	l = l[:cap(l)]
	for i := range l {
		l[i] = b
	}
}

func TestWhatIsHandedInStays(t *testing.T) {
	_, _, wanted := roomy()
	for name, call := range calls() {
		r, o, memory := roomy()
		call(r, o)
		if !bytes.Equal(memory, wanted) {
			t.Errorf("%s changed what was handed in: %v", name, memory)
		}
	}
	r, o, memory := roomy()
	vec.Same(r, o)
	r.Lead()
	r.At(2)
	r.Zero()
	r.Less(3, vec.Row{Vec: o.Vec, Data: o.Data[:2]})
	if !bytes.Equal(memory, wanted) {
		t.Errorf("Same, Lead, At, Zero, or a refused Less, changed what was handed in: %v", memory)
	}
}

func TestAnswersShareNoMemory(t *testing.T) {
	_, _, wanted := roomy()
	for name, call := range calls() {
		r, o, memory := roomy()
		answer, other := call(r, o), call(r, o)
		if len(answer.Vec) == 0 || len(answer.Data) != 3 || !vec.Same(answer, other) {
			t.Errorf("%s: %v, and then %v", name, answer, other)
			continue
		}
		v, data := slices.Clone(other.Vec), slices.Clone(other.Data)
		kept := slices.Clone(answer.Data)
		fill(answer.Vec, 99)
		if !bytes.Equal(answer.Data, kept) {
			t.Errorf("vector and data of an answer of %s share memory", name)
		}
		fill(answer.Data, 98)
		if !bytes.Equal(memory, wanted) {
			t.Errorf("an answer of %s shares memory with what was handed in", name)
		}
		isRow(t, "the other answer of "+name, other, v, data)
		fill(memory, 97)
		isRow(t, "an answer behind what was handed in was changed, of "+name, other, v, data)
	}
}

func TestUnitsShareNoMemory(t *testing.T) {
	u, _ := vec.Unit(3, 1)
	o, _ := vec.Unit(3, 1)
	fill(u, 99)
	again, _ := vec.Unit(3, 1)
	if !bytes.Equal(o, []byte{0, 1, 0}) || !bytes.Equal(again, []byte{0, 1, 0}) {
		t.Errorf("units share memory: %v, %v", []byte(o), []byte(again))
	}
}

// P3.3

// rows are some of six bytes and data each, of each place to lead at, and one that doesn't.
func rows() []vec.Row {
	l := []vec.Row{vec.Of(make(vec.Vec, 6), some(3, 4))}
	for i := range 6 {
		for _, c := range []byte{1, 2, 3, 29, 128, 255} {
			l = append(l, vec.Of(led(6, i, c), some(int(c)+i, 4)))
		}
	}
	return l
}

func TestWhatIsNormedLeadsWithOne(t *testing.T) {
	for _, r := range rows() {
		n := r.Norm()
		is(t, "where it leads", n.Lead(), r.Lead())
		if !r.Zero() {
			is(t, "with what it leads", n.At(n.Lead()), 1)
		}
		is(t, "normed twice", vec.Same(n.Norm(), n), true)
	}
}

func TestLessItsLeadLeadsLater(t *testing.T) {
	for _, r := range rows() {
		if r.Zero() {
			continue
		}
		left, e := r.Less(r.At(r.Lead()), r.Norm())
		is(t, "less itself, normed: error", e, api.OK)
		isRow(t, "less itself, normed", left, make(vec.Vec, 6), make([]byte, 4))
		for _, o := range rows() {
			if o.Lead() != r.Lead() {
				continue
			}
			left, e := r.Less(r.At(r.Lead()), o.Norm())
			is(t, "less one that leads there, normed: error", e, api.OK)
			if left.Lead() != -1 && left.Lead() <= r.Lead() {
				t.Errorf("%v less what it leads with of %v leads at %d", r, o.Norm(), left.Lead())
			}
		}
	}
}
