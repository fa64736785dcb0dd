package row_test

import (
	"bytes"
	"encoding/binary"
	"math"
	"slices"
	"testing"

	"wellspring/api"
	"wellspring/head"
	"wellspring/mix"
	"wellspring/row"
)

// is fails the test where something isn't what was wanted.
func is[T comparable](t *testing.T, what string, got, wanted T) {
	t.Helper()
	if got != wanted {
		t.Errorf("%s: %v, wanted %v", what, got, wanted)
	}
}

// some is n bytes, of another run for another start.
func some(start, n int) []byte {
	l, _ := mix.Row(uint64(start), n)
	return l
}

// seeds are those of the edges, of each bit alone, and one of eight unlike bytes.
func seeds() []uint64 {
	l := []uint64{0, 2, 3, 255, 258, 0x0102030405060708, math.MaxUint64 - 1, math.MaxUint64}
	for i := range 64 {
		l = append(l, 1<<i)
	}
	return l
}

// counts are how many symbols there may be: few, and the edges.
func counts() []int {
	l := []int{63, 64, 65, 255, 256, 257, 4095, 4096}
	for k := 1; k < 35; k++ {
		l = append(l, k)
	}
	return l
}

// otherCounts are how many symbols there can't be.
func otherCounts() []int {
	return []int{0, -1, -8, -4096, math.MinInt, 4097, 4104, 65536, 65537, 1 << 32, 1<<32 + 1, math.MaxInt}
}

// differs tells whether a source is anything but this; a list without elements may be nil or empty.
func differs(s row.Source, mode byte, l []byte, seed uint64) bool {
	return s.Mode != mode || !bytes.Equal(s.Bytes, l) || s.Seed != seed
}

// answers fails the test where a source of k symbols hasn't this vector, or isn't written so.
func answers(t *testing.T, s row.Source, k int, vector, written []byte) {
	t.Helper()
	v, e := s.Vector(k)
	if !bytes.Equal(v, vector) || e != api.OK {
		t.Errorf("mode %d, Vector(%d): %.30v, error %d; wanted %.30v", s.Mode, k, v, e, vector)
	}
	l, e := s.Write(k)
	if !bytes.Equal(l, written) || e != api.OK {
		t.Errorf("mode %d, Write(%d): %.30v, error %d; wanted %.30v", s.Mode, k, l, e, written)
	}
}

// refuses fails the test where a source of k symbols has a vector, or is written, or has another error.
func refuses(t *testing.T, s row.Source, k int, wanted api.Errno) {
	t.Helper()
	if v, e := s.Vector(k); len(v) != 0 || e != wanted {
		t.Errorf("mode %d, %d bytes, Vector(%d): %.30v, error %d; wanted none, error %d", s.Mode, len(s.Bytes), k, v, e, wanted)
	}
	if l, e := s.Write(k); len(l) != 0 || e != wanted {
		t.Errorf("mode %d, %d bytes, Write(%d): %.30v, error %d; wanted none, error %d", s.Mode, len(s.Bytes), k, l, e, wanted)
	}
}

// refusesBytes fails the test where bytes are read, or aren't refused with this error.
func refusesBytes(t *testing.T, mode byte, k int, l []byte, wanted api.Errno) {
	t.Helper()
	if s, e := row.Read(mode, k, l); differs(s, 0, nil, 0) || e != wanted {
		t.Errorf("Read(%d, %d, %d bytes): mode %d, %.30v, %d, error %d; wanted the zero one, error %d", mode, k, len(l), s.Mode, s.Bytes, s.Seed, e, wanted)
	}
}

// refusesWidth fails the test where a mode has a width, or another error.
func refusesWidth(t *testing.T, mode byte, k int, wanted api.Errno) {
	t.Helper()
	if n, e := row.Width(mode, k); n != 0 || e != wanted {
		t.Errorf("Width(%d, %d): %d, error %d; wanted 0, error %d", mode, k, n, e, wanted)
	}
}

// fill overwrites a list, and its spare room.
func fill(l []byte) {
	l = l[:cap(l)]
	for i := range l {
		l[i] = 222
	}
}

// P14.1

func TestExplicit(t *testing.T) {
	is(t, "of no bytes", differs(row.Explicit(), head.Explicit, nil, 0), false)
	is(t, "of nil", differs(row.Explicit([]byte(nil)...), head.Explicit, nil, 0), false)
	is(t, "of three", differs(row.Explicit(3, 0, 255), head.Explicit, []byte{3, 0, 255}, 0), false)
	for _, n := range []int{1, 2, 8, 4096, 4097, 65536} { // how many there may be, other calls say
		is(t, "of many", differs(row.Explicit(some(n, n)...), head.Explicit, some(n, n), 0), false)
	}
}

func TestSeeded(t *testing.T) {
	for _, seed := range seeds() {
		is(t, "of a seed", differs(row.Seeded(seed), head.Seeded, nil, seed), false)
	}
}

func TestWidth(t *testing.T) {
	for k := 1; k <= 4096; k++ {
		n, e := row.Width(head.Explicit, k)
		is(t, "Explicit: error", e, api.OK)
		is(t, "Explicit", n, k)
		n, e = row.Width(head.Seeded, k)
		is(t, "Seeded: error", e, api.OK)
		is(t, "Seeded", n, 8)
	}
}

// TestWidthOfOthers: another mode is told ahead of the symbols.
func TestWidthOfOthers(t *testing.T) {
	for mode := range 256 {
		for _, k := range otherCounts() {
			wanted := api.ErrMode
			if mode < 2 {
				wanted = api.ErrRange
			}
			refusesWidth(t, byte(mode), k, wanted)
		}
		for _, k := range counts() {
			if mode >= 2 {
				refusesWidth(t, byte(mode), k, api.ErrMode)
			}
		}
	}
}

// alike are sources in groups: just those of one group are the same.
func alike() [][]row.Source {
	l := [][]row.Source{
		{row.Explicit(), {Mode: 0, Seed: 5}, {Mode: 0, Bytes: []byte{}}, {}},
		{row.Explicit(1, 2), {Mode: 0, Bytes: []byte{1, 2}, Seed: 5}, {Mode: 0, Bytes: []byte{1, 2, 3}[:2], Seed: 6}},
		{row.Explicit(2, 1)},
		{row.Explicit(1, 3)},
		{row.Explicit(1, 2, 0)},
		{row.Explicit(0, 1, 2)},
		{row.Explicit(1)},
		{row.Explicit(0)},
		{row.Explicit(0, 0)},
		{row.Explicit(some(1, 4096)...), row.Explicit(some(1, 4096)...)},
		{row.Explicit(some(2, 4096)...)},
		{row.Seeded(0), {Mode: 1, Bytes: []byte{1, 2}}, {Mode: 1, Bytes: []byte{3}}},
		{row.Seeded(1), {Mode: 1, Bytes: []byte{1, 2}, Seed: 1}},
		{row.Seeded(256)},
		{row.Seeded(1 << 32)},
		{row.Seeded(1 << 63)},
	}
	for mode := 2; mode < 256; mode++ {
		m := byte(mode)
		l = append(l, []row.Source{{Mode: m}, {Mode: m, Seed: 1}, {Mode: m, Bytes: []byte{}}}, []row.Source{{Mode: m, Bytes: []byte{1, 2}}, {Mode: m, Bytes: []byte{1, 2}, Seed: 1}}, []row.Source{{Mode: m, Bytes: []byte{1, 3}}})
	}
	return l
}

func TestSame(t *testing.T) {
	groups := alike()
	for i, group := range groups {
		for j, other := range groups {
			for _, a := range group {
				for _, b := range other {
					if row.Same(a, b) != (i == j) {
						t.Fatalf("mode %d, %.9v, %d, and mode %d, %.9v, %d: the same: %v", a.Mode, a.Bytes, a.Seed, b.Mode, b.Bytes, b.Seed, i != j)
					}
				}
			}
		}
	}
}

// P14.2

func TestExample(t *testing.T) {
	v, e := row.Seeded(0).Vector(1)
	is(t, "error", e, api.OK)
	is(t, "the vector", string(v), "\xAF")
	v, e = row.Seeded(0).Vector(10)
	is(t, "of ten: error", e, api.OK)
	is(t, "of ten", string(v), "\xAF\xCD\x1D\x7B\x39\xA8\x20\xE2\xF4\x65")
	l, e := row.Seeded(0x0102030405060708).Write(3)
	is(t, "written: error", e, api.OK)
	is(t, "written", string(l), "\x01\x02\x03\x04\x05\x06\x07\x08")
}

func TestOfExplicit(t *testing.T) {
	for _, k := range counts() {
		l := some(k, k)
		answers(t, row.Explicit(l...), k, l, l)
		answers(t, row.Explicit(make([]byte, k)...), k, make([]byte, k), make([]byte, k))
		answers(t, row.Source{Mode: head.Explicit, Bytes: l, Seed: 99}, k, l, l) // its seed isn't asked
		answers(t, row.Source{Mode: head.Explicit, Bytes: append(l, 1, 2)[:k]}, k, l, l)
	}
}

func TestOfSeeded(t *testing.T) {
	for _, seed := range seeds() {
		written := binary.BigEndian.AppendUint64(nil, seed)
		for _, k := range counts() {
			vector, _ := mix.Row(seed, k)
			answers(t, row.Seeded(seed), k, vector, written)
			answers(t, row.Source{Mode: head.Seeded, Bytes: []byte{1, 2, 3}, Seed: seed}, k, vector, written) // nor its bytes
		}
	}
}

// TestOfOthers: another mode is told first, then the symbols, then the bytes.
func TestOfOthers(t *testing.T) {
	for mode := range 256 {
		for _, l := range [][]byte{nil, {}, {1}, {1, 2, 3}, make([]byte, 8), make([]byte, 4096), make([]byte, 4097), make([]byte, 65536)} {
			s := row.Source{Mode: byte(mode), Bytes: l, Seed: 3}
			wanted := api.ErrMode
			if mode < 2 {
				wanted = api.ErrRange
			}
			for _, k := range append(otherCounts(), -len(l), 4097+len(l)) {
				refuses(t, s, k, wanted)
			}
			for _, k := range []int{1, 2, 3, 8, 4096} {
				if mode >= 2 {
					refuses(t, s, k, api.ErrMode)
				}
			}
		}
	}
}

func TestOfAnotherNumberOfBytes(t *testing.T) {
	for _, k := range counts() {
		for _, n := range []int{0, 1, 8, k - 1, k + 1, 2 * k, 4096, 4097, 65536} {
			if n != k {
				refuses(t, row.Explicit(some(k, n)...), k, api.ErrSize)
				refuses(t, row.Source{Mode: head.Explicit, Bytes: make([]byte, n, n+k), Seed: 7}, k, api.ErrSize)
			}
		}
		refuses(t, row.Source{}, k, api.ErrSize)
	}
}

func TestRead(t *testing.T) {
	for _, k := range counts() {
		l := some(k, k)
		s, e := row.Read(head.Explicit, k, l)
		is(t, "Explicit: error", e, api.OK)
		is(t, "Explicit", differs(s, head.Explicit, l, 0), false)
		for _, seed := range seeds() {
			s, e := row.Read(head.Seeded, k, binary.BigEndian.AppendUint64(nil, seed))
			is(t, "Seeded: error", e, api.OK)
			is(t, "Seeded", differs(s, head.Seeded, nil, seed), false)
		}
	}
	s, e := row.Read(head.Seeded, 3, []byte{1, 2, 3, 4, 5, 6, 7, 8, 9}[:8])
	is(t, "with spare room: error", e, api.OK)
	is(t, "with spare room", differs(s, head.Seeded, nil, 0x0102030405060708), false)
	s, e = row.Read(head.Explicit, 2, []byte{0, 1, 2}[:2])
	is(t, "Explicit with spare room: error", e, api.OK)
	is(t, "Explicit with spare room", differs(s, head.Explicit, []byte{0, 1}, 0), false)
}

// TestReadOfOthers: here, too, another mode is told first, then the symbols, then the bytes.
func TestReadOfOthers(t *testing.T) {
	for mode := range 256 {
		for _, n := range []int{0, 1, 3, 8, 4096, 4097} {
			wanted := api.ErrMode
			if mode < 2 {
				wanted = api.ErrRange
			}
			for _, k := range otherCounts() {
				refusesBytes(t, byte(mode), k, make([]byte, n), wanted)
			}
			if mode >= 2 {
				refusesBytes(t, byte(mode), 3, make([]byte, n), api.ErrMode)
				refusesBytes(t, byte(mode), max(1, min(4096, n)), some(n, n), api.ErrMode)
			}
		}
	}
	refusesBytes(t, head.Explicit, 0, nil, api.ErrRange)
	for _, k := range counts() {
		refusesBytes(t, head.Explicit, k, nil, api.ErrSize)
		refusesBytes(t, head.Seeded, k, nil, api.ErrSize)
		for _, n := range []int{0, 1, 7, 8, 9, 16, k - 1, k, k + 1, 2 * k, 4096, 65536} {
			if n != k {
				refusesBytes(t, head.Explicit, k, some(k, n), api.ErrSize)
				refusesBytes(t, head.Explicit, k, make([]byte, n, n+k), api.ErrSize)
			}
			if n != 8 {
				refusesBytes(t, head.Seeded, k, some(k, n), api.ErrSize)
				refusesBytes(t, head.Seeded, k, make([]byte, n, n+8), api.ErrSize)
			}
		}
	}
}

// P14.3

// comesBack fails the test where a source isn't read as it was written, or has another vector then.
func comesBack(t *testing.T, s row.Source, k int) {
	t.Helper()
	l, e := s.Write(k)
	is(t, "written: error", e, api.OK)
	width, e := row.Width(s.Mode, k)
	is(t, "its width: error", e, api.OK)
	is(t, "its width", width, len(l))
	read, e := row.Read(s.Mode, k, l)
	is(t, "read: error", e, api.OK)
	is(t, "the same", row.Same(s, read) && row.Same(read, s), true)
	v, e := s.Vector(k)
	is(t, "its vector: error", e, api.OK)
	is(t, "how long its vector is", len(v), k)
	w, e := read.Vector(k)
	is(t, "its vector, read: error", e, api.OK)
	is(t, "its vector, read", string(w), string(v))
	again, e := read.Write(k)
	is(t, "written again: error", e, api.OK)
	is(t, "written again", string(again), string(l))
}

func TestWhatIsWrittenIsRead(t *testing.T) {
	for _, k := range counts() {
		comesBack(t, row.Explicit(some(k, k)...), k)
		comesBack(t, row.Explicit(make([]byte, k)...), k)
		comesBack(t, row.Source{Mode: head.Explicit, Bytes: some(k, k), Seed: 4}, k)
		comesBack(t, row.Source{Mode: head.Seeded, Bytes: some(k, k), Seed: 4}, k)
		for _, seed := range seeds() {
			comesBack(t, row.Seeded(seed), k)
		}
	}
}

// Memory.

func TestHandedInStays(t *testing.T) {
	memory := some(5, 40)
	kept := slices.Clone(memory)
	l := memory[8:16]
	s := row.Source{Mode: head.Explicit, Bytes: l, Seed: 3}
	row.Explicit(l...)
	for _, mode := range []byte{0, 1, 2} {
		for _, k := range []int{0, 7, 8, 9} {
			row.Read(mode, k, l)
			s.Mode = mode
			s.Vector(k)
			s.Write(k)
			row.Same(s, row.Explicit(l...))
		}
	}
	is(t, "memory", string(memory), string(kept))
	is(t, "the source", differs(s, 2, kept[8:16], 3), false)
}

// TestSourcesShareNothing: a source is its own, whatever is done with the bytes it was made of.
func TestSourcesShareNothing(t *testing.T) {
	for _, n := range []int{1, 8, 9} {
		memory := some(6, 20)
		kept := slices.Clone(memory)
		made := row.Explicit(memory[:n]...)
		read, _ := row.Read(head.Explicit, n, memory[:n])
		fill(made.Bytes)
		is(t, "memory", string(memory), string(kept))
		is(t, "the one that was read", string(read.Bytes), string(kept[:n]))
		fill(read.Bytes)
		is(t, "memory", string(memory), string(kept))
		made = row.Explicit(memory[:n]...)
		read, _ = row.Read(head.Explicit, n, memory[:n])
		fill(memory)
		is(t, "the one that was made, behind a change of the bytes", string(made.Bytes), string(kept[:n]))
		is(t, "the one that was read, behind a change of the bytes", string(read.Bytes), string(kept[:n]))
	}
}

// TestAnswersShareNothing: what is done with an answer, its spare room included, is seen neither in its source nor in another one.
func TestAnswersShareNothing(t *testing.T) {
	for _, k := range []int{1, 8, 9} {
		for _, s := range []row.Source{row.Explicit(some(k, k)...), row.Seeded(uint64(k))} {
			kept := slices.Clone(s.Bytes)
			vector, _ := s.Vector(k)
			wantedVector := string(vector)
			written, _ := s.Write(k)
			wantedWritten := string(written)
			other, _ := s.Vector(k)
			otherWritten, _ := s.Write(k)
			fill(vector)
			is(t, "written, behind a change of the vector", string(written), wantedWritten)
			fill(written)
			is(t, "another vector", string(other), wantedVector)
			is(t, "another one written", string(otherWritten), wantedWritten)
			is(t, "the source", string(s.Bytes), string(kept))
			answers(t, s, k, []byte(wantedVector), []byte(wantedWritten))
			fill(s.Bytes)
			is(t, "the vector, behind a change of the source", string(other), wantedVector)
			is(t, "written, behind a change of the source", string(otherWritten), wantedWritten)
		}
	}
}
