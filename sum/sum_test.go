package sum_test

import (
	"bytes"
	"hash/crc32"
	"math/bits"
	"testing"

	"wellspring/api"
	"wellspring/sum"
)

// slow is the sum by the words of the document, bit by bit.
func slow(l []byte) uint32 {
	register := uint32(0xFFFFFFFF)
	for _, b := range l {
		register ^= uint32(b)
		for range 8 {
			out := register & 1
			register >>= 1
			if out == 1 {
				register ^= 0xEDB88320
			}
		}
	}
	return register ^ 0xFFFFFFFF
}

// some is n bytes, of another run for another start.
func some(start, n int) []byte {
	l := make([]byte, n)
	for i := range l {
		l[i] = byte((start+i)*(start+i)*37 + 11*i)
	}
	return l
}

// is fails the test where something isn't what was wanted.
func is[T comparable](t *testing.T, what string, got, wanted T) {
	t.Helper()
	if got != wanted {
		t.Errorf("%s: %v, wanted %v", what, got, wanted)
	}
}

// P4.1

func TestOf(t *testing.T) {
	is(t, "of the digits", sum.Of([]byte("123456789")), 0xCBF43926)
	is(t, "of one byte, 0", sum.Of([]byte{0}), 0xD202EF8D)
	for b := range 256 {
		is(t, "of one byte", sum.Of([]byte{byte(b)}), slow([]byte{byte(b)}))
		for c := range 256 {
			if l := []byte{byte(b), byte(c)}; sum.Of(l) != slow(l) {
				t.Fatalf("of %v: %d, wanted %d", l, sum.Of(l), slow(l))
			}
		}
	}
	for n := range 300 {
		l := some(n, n)
		is(t, "of some", sum.Of(l), slow(l))
		is(t, "of some, by another hand", sum.Of(l), crc32.ChecksumIEEE(l))
	}
	long := some(4, 1<<20)
	is(t, "of many", sum.Of(long), crc32.ChecksumIEEE(long))
}

func TestOfNoBytes(t *testing.T) {
	is(t, "of no parts", sum.Of(), 0)
	is(t, "of a nil list of parts", sum.Of([][]byte(nil)...), 0)
	is(t, "of a nil part", sum.Of(nil), 0)
	is(t, "of parts without bytes", sum.Of(nil, []byte{}, nil), 0)
	is(t, "of spare room", sum.Of([]byte{1, 2, 3}[:0]), 0)
	is(t, "of noughts", sum.Of([]byte{0, 0, 0}), slow([]byte{0, 0, 0}))
}

func TestOfParts(t *testing.T) {
	is(t, "of two", sum.Of([]byte("1234"), []byte("56789")), 0xCBF43926)
	is(t, "of three, some without bytes", sum.Of(nil, []byte("123456"), []byte{}, []byte("789"), nil), 0xCBF43926)
	var digits [][]byte
	for _, c := range []byte("123456789") {
		digits = append(digits, []byte{c})
	}
	is(t, "of nine", sum.Of(digits...), 0xCBF43926)
	is(t, "in another order", sum.Of([]byte("56789"), []byte("1234")), slow([]byte("567891234")))
	is(t, "of one part twice", sum.Of([]byte("12"), []byte("12")), slow([]byte("1212")))
	is(t, "with spare room", sum.Of([]byte("12345678")[:4], []byte("56789")), 0xCBF43926)
}

func TestRunning(t *testing.T) {
	is(t, "of no bytes", sum.Start().Sum(), 0)
	is(t, "with none", sum.Start().With().Sum(), 0)
	is(t, "with parts without bytes", sum.Start().With(nil, []byte{}).With(nil).Sum(), 0)
	is(t, "with the digits", sum.Start().With([]byte("123456789")).Sum(), 0xCBF43926)
	is(t, "with parts", sum.Start().With([]byte("12"), nil, []byte("345")).With().With([]byte("6"), []byte("789")).Sum(), 0xCBF43926)
	running, all := sum.Start(), []byte{}
	for i := range 50 {
		part := some(i, i)
		running, all = running.With(part), append(all, part...)
		is(t, "as it goes on", running.Sum(), slow(all))
		is(t, "asked again", running.Sum(), slow(all))
	}
}

// TestRunningIsAValue: what goes on from a running sum leaves it as it was.
func TestRunningIsAValue(t *testing.T) {
	start := sum.Start()
	running := start.With([]byte("1234"))
	is(t, "one way", running.With([]byte("56789")).Sum(), 0xCBF43926)
	is(t, "another way", running.With([]byte("5"), []byte("7")).Sum(), slow([]byte("123457")))
	is(t, "the first way again", running.With([]byte("56789")).Sum(), 0xCBF43926)
	is(t, "itself", running.Sum(), slow([]byte("1234")))
	is(t, "the start", start.Sum(), 0)
	is(t, "another start", sum.Start().With([]byte("a")).Sum(), slow([]byte("a")))
}

func TestPartsStayAndAreNotKept(t *testing.T) {
	memory := some(9, 40)
	parts := [][]byte{memory[:10], memory[10:20], memory[20:30]}
	sum.Of(parts...)
	running := sum.Start().With(parts...)
	wanted := slow(memory[:30])
	if !bytes.Equal(memory, some(9, 40)) || len(parts) != 3 || len(parts[0]) != 10 || &parts[1][0] != &memory[10] {
		t.Error("parts were changed")
	}
	clear(memory)
	parts[0], parts[1] = nil, nil
	is(t, "behind a change of the parts", running.Sum(), wanted)
}

// P4.2

func TestPut(t *testing.T) {
	for _, l := range []struct {
		n      uint32
		wanted string
	}{
		{0, "\x00\x00\x00\x00"},
		{1, "\x01\x00\x00\x00"},
		{0x100, "\x00\x01\x00\x00"},
		{0x10000, "\x00\x00\x01\x00"},
		{0x1000000, "\x00\x00\x00\x01"},
		{0x01020304, "\x04\x03\x02\x01"},
		{0xCBF43926, "\x26\x39\xF4\xCB"},
		{0x80000000, "\x00\x00\x00\x80"},
		{0xFFFFFFFF, "\xFF\xFF\xFF\xFF"},
	} {
		is(t, "put", string(sum.Put(l.n)), l.wanted)
		n, e := sum.Get([]byte(l.wanted))
		is(t, "got", n, l.n)
		is(t, "got: error", e, api.OK)
	}
}

func TestPutAndGet(t *testing.T) {
	for i := range 32 {
		for _, n := range []uint32{1 << i, ^uint32(1 << i), 1<<i - 1, 0x9E3779B9 * uint32(i)} {
			got, e := sum.Get(sum.Put(n))
			is(t, "put and got", got, n)
			is(t, "put and got: error", e, api.OK)
		}
	}
}

func TestGetOfAnotherSize(t *testing.T) {
	for _, l := range [][]byte{nil, {}, {1}, {1, 2}, {1, 2, 3}, {1, 2, 3, 4, 5}, {1, 2, 3, 4, 0}, {0, 0, 0, 0, 0, 0, 0, 0}, make([]byte, 1000), []byte{1, 2, 3, 4}[:3]} {
		n, e := sum.Get(l)
		is(t, "of another size", n, 0)
		is(t, "of another size: error", e, api.ErrSize)
	}
	n, e := sum.Get([]byte{1, 2, 3, 4, 5}[:4])
	is(t, "with spare room", n, 0x04030201)
	is(t, "with spare room: error", e, api.OK)
}

func TestPutAndGetShareNoMemory(t *testing.T) {
	first, second := sum.Put(0x01020304), sum.Put(0x01020304)
	clear(first[:cap(first)])
	is(t, "the other answer", string(second), "\x04\x03\x02\x01")
	is(t, "a later answer", string(sum.Put(0x01020304)), "\x04\x03\x02\x01")
	memory := []byte{1, 2, 3, 4, 5}
	sum.Get(memory[:4])
	sum.Get(memory[:2])
	if !bytes.Equal(memory, []byte{1, 2, 3, 4, 5}) {
		t.Errorf("Get changed what was handed in: %v", memory)
	}
}

// P4.3

func TestHoweverBytesAreCut(t *testing.T) {
	for n := range 40 {
		l := some(n, n)
		wanted := slow(l)
		for i := range n + 1 {
			for j := i; j <= n; j++ {
				is(t, "three parts", sum.Of(l[:i], l[i:j], l[j:]), wanted)
				is(t, "one part, and two", sum.Start().With(l[:i]).With(l[i:j], l[j:]).Sum(), wanted)
				is(t, "two parts, and one", sum.Start().With(l[:i], l[i:j]).With(l[j:]).Sum(), wanted)
			}
		}
	}
}

// flipped is the bytes with one bit turned: byte by byte, each one's lowest bit first, as the register takes them in. (Were the highest first, bits within 32 in a row could be turned unseen.)
func flipped(l []byte, at int) []byte {
	l = bytes.Clone(l)
	l[at/8] ^= 1 << (at % 8)
	return l
}

// independent: is no combination of these numbers, by exclusive or, 0, but that of none?
func independent(l []uint32) bool {
	var led [33]uint32
	for _, n := range l {
		for n != 0 && led[bits.Len32(n)] != 0 {
			n ^= led[bits.Len32(n)]
		}
		if n == 0 {
			return false
		}
		led[bits.Len32(n)] = n
	}
	return true
}

// TestBitsWithin32InARow: a sum changes by the exclusive or of what each turned bit changes it by; where no combination of these is 0, of 32 bits in a row, none of their changes leaves the sum as it was.
func TestBitsWithin32InARow(t *testing.T) {
	l := some(6, 24)
	var changes []uint32
	for at := range 8 * len(l) {
		changes = append(changes, sum.Of(l)^sum.Of(flipped(l, at)))
	}
	for at := range len(changes) - 31 {
		if !independent(changes[at : at+32]) {
			t.Errorf("some bits of the 32 from %d on may be turned unseen", at)
		}
	}
	for at := range changes {
		for other := range at {
			both := sum.Of(l) ^ sum.Of(flipped(flipped(l, at), other))
			is(t, "two bits turned", both, changes[at]^changes[other])
		}
	}
}

// TestSomeBitsTurned turns all combinations of bits within two bytes, and some within 32 bits, at each place.
func TestSomeBitsTurned(t *testing.T) {
	l := some(8, 9)
	wanted := sum.Of(l)
	for turned := 1; turned < 1<<16; turned++ {
		harmed := bytes.Clone(l)
		harmed[3] ^= byte(turned)
		harmed[4] ^= byte(turned >> 8)
		if sum.Of(harmed) == wanted {
			t.Fatalf("%x turned, and the sum is the same", turned)
		}
	}
	for at := range 8*len(l) - 31 {
		for i := range 2000 {
			pattern := uint64(uint32(i)*2654435761 | 1)
			harmed := bytes.Clone(l)
			for k := range 5 {
				if at/8+k < len(l) {
					harmed[at/8+k] ^= byte(pattern << (at % 8) >> (8 * k))
				}
			}
			if sum.Of(harmed) == wanted {
				t.Fatalf("%x turned from bit %d on, and the sum is the same", pattern, at)
			}
		}
	}
}
