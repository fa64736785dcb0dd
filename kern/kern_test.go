package kern_test

import (
	"bytes"
	"testing"

	"wellspring/api"
	"wellspring/field"
	"wellspring/kern"
)

// some is n bytes, of another run for another start; noughts are among them where there are enough.
func some(start, n int) []byte {
	row := make([]byte, n)
	for i := range row {
		row[i] = byte((start+i)*(start+i)*37 + 11*i)
	}
	return row
}

// somes is rows of n bytes.
func somes(start, count, n int) [][]byte {
	rows := make([][]byte, count)
	for i := range rows {
		rows[i] = some(start+100*i, n)
	}
	return rows
}

// slowComb is a combination by the words of the document, byte by byte.
func slowComb(cs []byte, rows [][]byte) []byte {
	if len(rows) == 0 {
		return nil
	}
	sum := make([]byte, len(rows[0]))
	for place := range sum {
		for i, row := range rows {
			sum[place] ^= field.Mul(cs[i], row[place])
		}
	}
	return sum
}

// answers fails the test where a call didn't answer these bytes without an error.
func answers(t *testing.T, what string, got []byte, e api.Errno, wanted []byte) {
	t.Helper()
	if !bytes.Equal(got, wanted) || e != api.OK {
		t.Errorf("%s: %v, error %d; wanted %v", what, got, e, wanted)
	}
}

// refuses fails the test where a call didn't answer ErrSize, and nothing beside it.
func refuses(t *testing.T, what string, got []byte, e api.Errno) {
	t.Helper()
	if len(got) != 0 || e != api.ErrSize {
		t.Errorf("%s: %v, error %d; wanted none, ErrSize", what, got, e)
	}
}

// P2.1

func TestScale(t *testing.T) {
	row := some(3, 300)
	for c := range 256 {
		got := kern.Scale(byte(c), row)
		if len(got) != len(row) {
			t.Fatalf("by %d: %d bytes", c, len(got))
		}
		for i, b := range row {
			if got[i] != field.Mul(byte(c), b) {
				t.Fatalf("%d times %d: %d", c, b, got[i])
			}
		}
	}
	answers(t, "by 2", kern.Scale(2, []byte{0, 1, 128}), api.OK, []byte{0, 2, 29})
	answers(t, "by 1", kern.Scale(1, row), api.OK, row)
	answers(t, "by 0", kern.Scale(0, row), api.OK, make([]byte, 300))
}

func TestScaleWithoutBytes(t *testing.T) {
	answers(t, "nil", kern.Scale(7, nil), api.OK, nil)
	answers(t, "empty", kern.Scale(7, []byte{}), api.OK, nil)
}

func TestAxpy(t *testing.T) {
	got, e := kern.Axpy(2, []byte{1, 128}, []byte{0, 1})
	answers(t, "the example", got, e, []byte{2, 28})
	x, y := some(1, 300), some(50, 300)
	for c := range 256 {
		got, e := kern.Axpy(byte(c), x, y)
		answers(t, "of 300 bytes", got, e, slowComb([]byte{byte(c), 1}, [][]byte{x, y}))
	}
	got, e = kern.Axpy(0, x, y)
	answers(t, "by 0", got, e, y)
	got, e = kern.Axpy(1, x, x)
	answers(t, "of a row and itself", got, e, make([]byte, 300))
}

func TestAxpyWithoutBytes(t *testing.T) {
	got, e := kern.Axpy(2, nil, nil)
	answers(t, "nil", got, e, nil)
	got, e = kern.Axpy(2, []byte{}, nil)
	answers(t, "empty, and nil", got, e, nil)
}

func TestAxpyOfUnlikeLengths(t *testing.T) {
	for _, c := range []byte{0, 1, 2} {
		got, e := kern.Axpy(c, []byte{1, 2}, []byte{1})
		refuses(t, "a longer x", got, e)
		got, e = kern.Axpy(c, []byte{1}, []byte{1, 2})
		refuses(t, "a longer y", got, e)
		got, e = kern.Axpy(c, nil, []byte{1})
		refuses(t, "no x", got, e)
		got, e = kern.Axpy(c, []byte{1}, nil)
		refuses(t, "no y", got, e)
	}
}

func TestZero(t *testing.T) {
	for n := range 20 {
		row := make([]byte, n)
		if !kern.Zero(row) {
			t.Errorf("%d noughts aren't all 0", n)
		}
		for i := range n {
			for _, b := range []byte{1, 128, 255} {
				row[i] = b
				if kern.Zero(row) {
					t.Errorf("%v are all 0", row)
				}
			}
			row[i] = 0
		}
	}
	if !kern.Zero(nil) {
		t.Error("no bytes aren't all 0")
	}
	if room := []byte{0, 0, 9}; !kern.Zero(room[:2]) {
		t.Error("spare room was looked at")
	}
}

// P2.2

func TestSum(t *testing.T) {
	for count := range 6 {
		for _, n := range []int{0, 1, 2, 50} {
			rows := somes(7, count, n)
			got, e := kern.Sum(rows...)
			answers(t, "of rows", got, e, slowComb(bytes.Repeat([]byte{1}, count), rows))
		}
	}
	got, e := kern.Sum([]byte{1, 2}, []byte{4, 8}, []byte{16, 32})
	answers(t, "of three", got, e, []byte{21, 42})
}

func TestSumOfNoRowsAndNoBytes(t *testing.T) {
	got, e := kern.Sum()
	answers(t, "of none", got, e, nil)
	got, e = kern.Sum(nil, []byte{}, nil)
	answers(t, "of rows without bytes", got, e, nil)
}

func TestSumOfUnlikeLengths(t *testing.T) {
	got, e := kern.Sum([]byte{1}, []byte{1, 2})
	refuses(t, "a longer second", got, e)
	got, e = kern.Sum([]byte{1, 2}, []byte{1})
	refuses(t, "a shorter second", got, e)
	got, e = kern.Sum([]byte{1}, []byte{2}, []byte{3}, nil)
	refuses(t, "a last without bytes", got, e)
	got, e = kern.Sum(nil, []byte{3}, []byte{4})
	refuses(t, "a first without bytes", got, e)
	got, e = kern.Sum([]byte{1, 2}, []byte{1, 2, 3}, []byte{1, 2})
	refuses(t, "a longer one between", got, e)
}

func TestComb(t *testing.T) {
	got, e := kern.Comb([]byte{1, 2}, []byte{1, 1}, []byte{0, 3})
	answers(t, "of two", got, e, []byte{1, 7})
	for count := range 6 {
		for _, n := range []int{0, 1, 2, 50} {
			rows, cs := somes(9, count, n), some(count+3, count)
			got, e := kern.Comb(cs, rows...)
			answers(t, "of rows", got, e, slowComb(cs, rows))
		}
	}
	got, e = kern.Comb([]byte{0, 0}, some(1, 3), some(2, 3))
	answers(t, "by noughts", got, e, []byte{0, 0, 0})
	got, e = kern.Comb([]byte{0, 1}, some(1, 3), some(2, 3))
	answers(t, "by 0 and 1", got, e, some(2, 3))
}

func TestCombOfNoRowsAndNoBytes(t *testing.T) {
	got, e := kern.Comb(nil)
	answers(t, "of none", got, e, nil)
	got, e = kern.Comb([]byte{})
	answers(t, "of none, by an empty list", got, e, nil)
	got, e = kern.Comb([]byte{1, 2}, nil, []byte{})
	answers(t, "of rows without bytes", got, e, nil)
}

func TestCombOfUnlikeLengths(t *testing.T) {
	got, e := kern.Comb([]byte{1}, []byte{1}, []byte{2})
	refuses(t, "fewer bytes than rows", got, e)
	got, e = kern.Comb([]byte{1, 2, 3}, []byte{1}, []byte{2})
	refuses(t, "more bytes than rows", got, e)
	got, e = kern.Comb(nil, []byte{1})
	refuses(t, "a row, no bytes", got, e)
	got, e = kern.Comb([]byte{1})
	refuses(t, "a byte, no rows", got, e)
	got, e = kern.Comb([]byte{1}, nil, nil)
	refuses(t, "fewer bytes than rows that have none", got, e)
	got, e = kern.Comb([]byte{1, 2}, []byte{1}, []byte{1, 2})
	refuses(t, "a longer second row", got, e)
	got, e = kern.Comb([]byte{1, 2}, []byte{1, 2}, []byte{1})
	refuses(t, "a shorter second row", got, e)
	got, e = kern.Comb([]byte{1, 0}, []byte{1, 2}, []byte{1})
	refuses(t, "a shorter row, by 0", got, e)
	got, e = kern.Comb([]byte{1}, []byte{1, 2}, []byte{1})
	refuses(t, "both", got, e)
}

func TestDot(t *testing.T) {
	for _, l := range []struct {
		a, b   []byte
		wanted byte
	}{
		{nil, nil, 0},
		{nil, []byte{}, 0},
		{[]byte{2}, []byte{128}, 29},
		{[]byte{2, 3}, []byte{128, 3}, 24},
		{[]byte{0, 3, 1}, []byte{255, 0, 9}, 9},
		{[]byte{7, 7}, []byte{9, 9}, 0},
	} {
		if got, e := kern.Dot(l.a, l.b); got != l.wanted || e != api.OK {
			t.Errorf("%v and %v: %d, error %d; wanted %d", l.a, l.b, got, e, l.wanted)
		}
	}
	a, b := some(1, 300), some(2, 300)
	wanted := byte(0)
	for i := range a {
		wanted ^= field.Mul(a[i], b[i])
	}
	if got, e := kern.Dot(a, b); got != wanted || e != api.OK {
		t.Errorf("of 300 bytes: %d, error %d; wanted %d", got, e, wanted)
	}
}

func TestDotOfUnlikeLengths(t *testing.T) {
	for _, l := range [][2][]byte{{{1}, {1, 2}}, {{1, 2}, {1}}, {nil, {1}}, {{1}, nil}} {
		if got, e := kern.Dot(l[0], l[1]); got != 0 || e != api.ErrSize {
			t.Errorf("%v and %v: %d, error %d; wanted 0, ErrSize", l[0], l[1], got, e)
		}
	}
}

// Memory, for P2.1 and P2.2

// calls are all calls that answer bytes, each handed three rows of one length, of which it takes what it needs.
func calls() map[string]func(rows [][]byte) []byte {
	return map[string]func(rows [][]byte) []byte{
		"Scale":   func(rows [][]byte) []byte { return kern.Scale(3, rows[0]) },
		"Scale 1": func(rows [][]byte) []byte { return kern.Scale(1, rows[0]) },
		"Scale 0": func(rows [][]byte) []byte { return kern.Scale(0, rows[0]) },
		"Axpy":    func(rows [][]byte) []byte { l, _ := kern.Axpy(3, rows[0], rows[1]); return l },
		"Axpy 0":  func(rows [][]byte) []byte { l, _ := kern.Axpy(0, rows[0], rows[1]); return l },
		"Axpy 1":  func(rows [][]byte) []byte { l, _ := kern.Axpy(1, rows[0], rows[0]); return l },
		"Sum":     func(rows [][]byte) []byte { l, _ := kern.Sum(rows...); return l },
		"Sum 1":   func(rows [][]byte) []byte { l, _ := kern.Sum(rows[0]); return l },
		"Comb":    func(rows [][]byte) []byte { l, _ := kern.Comb(rows[2], rows...); return l },
		"Comb 1":  func(rows [][]byte) []byte { l, _ := kern.Comb([]byte{1}, rows[0]); return l },
	}
}

// roomy is three rows of three bytes that lie in one piece of memory: each is the spare room of the one ahead.
func roomy() (rows [][]byte, memory []byte) {
	memory = some(5, 12)
	return [][]byte{memory[:3], memory[3:6], memory[6:9]}, memory
}

func TestWhatIsHandedInStays(t *testing.T) {
	for name, call := range calls() {
		rows, memory := roomy()
		call(rows)
		if !bytes.Equal(memory, some(5, 12)) {
			t.Errorf("%s changed what was handed in: %v", name, memory)
		}
		for i, row := range rows {
			if len(row) != 3 || &row[0] != &memory[3*i] {
				t.Errorf("%s changed the list of rows", name)
			}
		}
	}
	_, memory := roomy()
	kern.Dot(memory[:3], memory[3:6])
	kern.Zero(memory[:3])
	kern.Comb(memory[:2], memory[2:4], memory[4:8])
	if !bytes.Equal(memory, some(5, 12)) {
		t.Errorf("Dot, Zero, or a refused Comb, changed what was handed in: %v", memory)
	}
}

func TestAnswersShareNoMemory(t *testing.T) {
	for name, call := range calls() {
		rows, memory := roomy()
		answer, other := call(rows), call(rows)
		if len(answer) != 3 || !bytes.Equal(answer, other) {
			t.Errorf("%s: %v, and then %v", name, answer, other)
			continue
		}
		kept := bytes.Clone(other)
		fill(answer, 99)
		if !bytes.Equal(memory, some(5, 12)) {
			t.Errorf("an answer of %s shares memory with what was handed in", name)
		}
		if !bytes.Equal(other, kept) {
			t.Errorf("two answers of %s share memory", name)
		}
		fill(memory, 77)
		if !bytes.Equal(other, kept) {
			t.Errorf("an answer of %s hangs on what is done later with what was handed in", name)
		}
	}
}

// fill writes all of a slice's room.
func fill(l []byte, b byte) {
	l = l[:cap(l)]
	for i := range l {
		l[i] = b
	}
}

// P2.3

func TestCombinationOfSums(t *testing.T) {
	for count := range 6 {
		cs, first, second := some(count, count), somes(1, count, 40), somes(5000, count, 40)
		sums := make([][]byte, count)
		for i := range sums {
			sums[i], _ = kern.Sum(first[i], second[i])
		}
		left, e := kern.Comb(cs, sums...)
		a, _ := kern.Comb(cs, first...)
		b, _ := kern.Comb(cs, second...)
		right, f := kern.Sum(a, b)
		answers(t, "of sums", left, e, right)
		if f != api.OK {
			t.Errorf("the sum of combinations: error %d", f)
		}
	}
}

func TestScaledAndBack(t *testing.T) {
	row := some(8, 300)
	for c := 1; c < 256; c++ {
		inverse, _ := field.Inv(byte(c))
		answers(t, "scaled, and by the inverse", kern.Scale(inverse, kern.Scale(byte(c), row)), api.OK, row)
	}
}
