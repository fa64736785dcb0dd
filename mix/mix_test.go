package mix_test

import (
	"bytes"
	"encoding/binary"
	"math"
	"math/big"
	"testing"

	"wellspring/api"
	"wellspring/mix"
)

// seeds are those of the edges, of each bit alone, and some that look like none.
func seeds() []uint64 {
	l := []uint64{0, 2, 3, 255, 256, 1234567, 0xE220A8397B1DCDAF, 0x9E3779B97F4A7C15, 0x61C8864680B583EB, math.MaxUint64 - 1, math.MaxUint64}
	for i := range 64 {
		l = append(l, 1<<i)
	}
	return l
}

// slowNext is a generator's number by the words of the document, with numbers of any length, each cut to 64 bits.
func slowNext(state *big.Int) uint64 {
	state.Add(state, hex("9E3779B97F4A7C15"))
	cut(state)
	z := new(big.Int).Set(state)
	withItself(z, 30)
	cut(z.Mul(z, hex("BF58476D1CE4E5B9")))
	withItself(z, 27)
	cut(z.Mul(z, hex("94D049BB133111EB")))
	withItself(z, 31)
	return z.Uint64()
}

func hex(s string) *big.Int {
	n, _ := new(big.Int).SetString(s, 16)
	return n
}

func cut(n *big.Int) {
	n.Mod(n, new(big.Int).Lsh(big.NewInt(1), 64))
}

func withItself(z *big.Int, shift uint) {
	z.Xor(z, new(big.Int).Rsh(z, shift))
}

// numbers are the first ones of a seed, by the words of the document.
func numbers(seed uint64, count int) []uint64 {
	state := new(big.Int).SetUint64(seed)
	l := make([]uint64, count)
	for i := range l {
		l[i] = slowNext(state)
	}
	return l
}

// stream is the first n bytes of a seed, likewise.
func stream(seed uint64, n int) []byte {
	l := []byte{}
	for _, number := range numbers(seed, (n+7)/8) {
		l = binary.LittleEndian.AppendUint64(l, number)
	}
	return l[:n]
}

// is fails the test where something isn't what was wanted.
func is[T comparable](t *testing.T, what string, got, wanted T) {
	t.Helper()
	if got != wanted {
		t.Errorf("%s: %v, wanted %v", what, got, wanted)
	}
}

// answers fails the test where a call didn't answer these bytes without an error.
func answers(t *testing.T, what string, got []byte, e api.Errno, wanted []byte) {
	t.Helper()
	if !bytes.Equal(got, wanted) || e != api.OK {
		t.Errorf("%s: %v, error %d; wanted %v", what, got, e, wanted)
	}
}

// refuses fails the test where a call didn't answer this error, and nothing beside it.
func refuses(t *testing.T, what string, got []byte, e, wanted api.Errno) {
	t.Helper()
	if len(got) != 0 || e != wanted {
		t.Errorf("%s: %d bytes, error %d; wanted none, error %d", what, len(got), e, wanted)
	}
}

// outOfRange are no numbers of bytes.
func outOfRange() []int {
	return []int{-1, -2, -65536, math.MinInt, 65537, 65544, 1 << 20, math.MaxInt}
}

// fill writes all of a list's room.
func fill(l []byte, b byte) {
	l = l[:cap(l)]
	for i := range l {
		l[i] = b
	}
}

// P5.1

func TestNext(t *testing.T) {
	m := mix.New(0)
	for i, wanted := range []uint64{0xE220A8397B1DCDAF, 0x6E789E6AA1B965F4, 0x06C45D188009454F, 0xF88BB8A8724C81EC} {
		if got := m.Next(); got != wanted {
			t.Errorf("of the seed 0, number %d: %X, wanted %X", i, got, wanted)
		}
	}
	for _, seed := range seeds() {
		m := mix.New(seed)
		for _, wanted := range numbers(seed, 20) {
			is(t, "a number", m.Next(), wanted)
		}
	}
}

func TestBytes(t *testing.T) {
	for _, seed := range seeds() {
		for n := range 34 {
			got, e := mix.New(seed).Bytes(n)
			answers(t, "the first bytes", got, e, stream(seed, n))
		}
	}
	for _, n := range []int{4095, 4096, 65529, 65535, 65536} {
		got, e := mix.New(7).Bytes(n)
		answers(t, "many bytes", got, e, stream(7, n))
	}
}

func TestWhatIsLeftOfANumberIsNeverTold(t *testing.T) {
	for n := range 34 {
		m := mix.New(11)
		m.Bytes(n)
		begun := (n + 7) / 8
		later := numbers(11, begun+4)[begun:]
		got, e := m.Bytes(9)
		answers(t, "bytes behind bytes", got, e, append(binary.LittleEndian.AppendUint64(nil, later[0]), byte(later[1])))
		is(t, "a number behind bytes", m.Next(), later[2])
		got, e = m.Bytes(3)
		answers(t, "bytes behind a number", got, e, binary.LittleEndian.AppendUint64(nil, later[3])[:3])
	}
}

func TestNoBytesTakeNoNumber(t *testing.T) {
	m := mix.New(5)
	for range 3 {
		got, e := m.Bytes(0)
		answers(t, "no bytes", got, e, nil)
	}
	is(t, "the first number", m.Next(), mix.New(5).Next())
}

func TestRefusedBytesDoNothing(t *testing.T) {
	m := mix.New(5)
	for _, n := range outOfRange() {
		got, e := m.Bytes(n)
		refuses(t, "out of range", got, e, api.ErrRange)
	}
	is(t, "the first number", m.Next(), mix.New(5).Next())
}

func TestClone(t *testing.T) {
	m := mix.New(9)
	m.Next()
	m.Bytes(3)
	wanted := numbers(9, 6)[2:]
	c := m.Clone()
	is(t, "the clone's number", c.Next(), wanted[0])
	is(t, "the clone's next number", c.Next(), wanted[1])
	is(t, "the number of what was cloned", m.Next(), wanted[0])
	d := c.Clone()
	c.Bytes(20)
	is(t, "the number of the clone's clone", d.Next(), wanted[2])
	is(t, "the next number of what was cloned", m.Next(), wanted[1])
}

func TestGeneratorsAreTheirOwn(t *testing.T) {
	a, b := mix.New(3), mix.New(3)
	a.Next()
	a.Bytes(100)
	is(t, "beside another one of the same seed", b.Next(), numbers(3, 1)[0])
}

func TestNil(t *testing.T) {
	var none *mix.Mix
	is(t, "its number", none.Next(), 0)
	is(t, "its next number", none.Next(), 0)
	is(t, "its clone is nil", none.Clone() == nil, true)
	for _, n := range append(outOfRange(), 0, 1, 8, 65536) {
		got, e := none.Bytes(n)
		refuses(t, "its bytes", got, e, api.ErrNil)
	}
}

// P5.2

func TestRow(t *testing.T) {
	got, e := mix.Row(0, 1)
	answers(t, "the example", got, e, []byte{0xAF})
	for _, seed := range seeds() {
		for _, n := range []int{0, 1, 7, 8, 9, 100} {
			got, e := mix.Row(seed, n)
			answers(t, "of a seed", got, e, stream(seed, n))
		}
	}
	got, e = mix.Row(8, 65536)
	answers(t, "the longest", got, e, stream(8, 65536))
}

func TestRowOutOfRange(t *testing.T) {
	for _, n := range outOfRange() {
		got, e := mix.Row(0, n)
		refuses(t, "out of range", got, e, api.ErrRange)
	}
}

func TestPut(t *testing.T) {
	answers(t, "of 0", mix.Put(0), api.OK, make([]byte, 8))
	answers(t, "of 258", mix.Put(258), api.OK, []byte{0, 0, 0, 0, 0, 0, 1, 2})
	answers(t, "of eight bytes", mix.Put(0x0102030405060708), api.OK, []byte{1, 2, 3, 4, 5, 6, 7, 8})
	answers(t, "of the greatest", mix.Put(math.MaxUint64), api.OK, bytes.Repeat([]byte{255}, 8))
}

func TestSeed(t *testing.T) {
	n, e := mix.Seed([]byte{1, 2, 3, 4, 5, 6, 7, 8})
	is(t, "of eight bytes", n, 0x0102030405060708)
	is(t, "of eight bytes: error", e, api.OK)
	for _, seed := range seeds() {
		n, e := mix.Seed(mix.Put(seed))
		is(t, "as it was put", n, seed)
		is(t, "as it was put: error", e, api.OK)
	}
	n, e = mix.Seed([]byte{255, 0, 0, 0, 0, 0, 0, 128, 77}[:8])
	is(t, "with spare room", n, 0xFF00000000000080)
	is(t, "with spare room: error", e, api.OK)
}

func TestSeedOfAnotherNumberOfBytes(t *testing.T) {
	for n := range 40 {
		if n == 8 {
			continue
		}
		seed, e := mix.Seed(bytes.Repeat([]byte{3}, n))
		is(t, "the seed", seed, 0)
		is(t, "the error", e, api.ErrSize)
	}
	seed, e := mix.Seed(nil)
	is(t, "the seed of nil", seed, 0)
	is(t, "the error of nil", e, api.ErrSize)
}

func TestMemory(t *testing.T) {
	l := []byte{1, 2, 3, 4, 5, 6, 7, 8, 9}
	mix.Seed(l[:8])
	mix.Seed(l[:7])
	answers(t, "what was handed in", l, api.OK, []byte{1, 2, 3, 4, 5, 6, 7, 8, 9})
	m := mix.New(1)
	first, _ := m.Bytes(5)
	second, _ := m.Bytes(5)
	row, _ := mix.Row(1, 5)
	put, other := mix.Put(258), mix.Put(258)
	fill(first, 99)
	answers(t, "bytes behind changed ones", second, api.OK, stream(1, 13)[8:])
	fill(second, 98)
	is(t, "the number behind changed bytes", m.Next(), numbers(1, 3)[2])
	answers(t, "the row of a seed", row, api.OK, stream(1, 5))
	fill(row, 97)
	again, e := mix.Row(1, 5)
	answers(t, "the row again", again, e, stream(1, 5))
	fill(put, 96)
	answers(t, "another one put", other, api.OK, []byte{0, 0, 0, 0, 0, 0, 1, 2})
}

// P5.3

func TestOneStateTellsTheSame(t *testing.T) {
	for _, seed := range seeds() {
		a, b := mix.New(seed), mix.New(seed-0x9E3779B97F4A7C15)
		b.Next()
		c := b.Clone()
		for range 500 {
			wanted := a.Next()
			is(t, "the one that came to the state", b.Next(), wanted)
			is(t, "its clone", c.Next(), wanted)
		}
		x, _ := a.Bytes(100)
		y, e := b.Bytes(100)
		answers(t, "their bytes", y, e, x)
	}
}

// inverse is the odd number's modulo 2^64: each round doubles the bits that are right.
func inverse(a uint64) uint64 {
	b := a
	for range 6 {
		b *= 2 - a*b
	}
	return b
}

// unshifted is what was combined with itself, shifted right by so many bits.
func unshifted(z uint64, shift int) uint64 {
	for s := shift; s < 64; s *= 2 {
		z ^= z >> s
	}
	return z
}

// seedOf is the one whose first number this is: that there is one of each number says that no two states tell the same.
func seedOf(number uint64) uint64 {
	z := unshifted(number, 31) * inverse(0x94D049BB133111EB)
	z = unshifted(z, 27) * inverse(0xBF58476D1CE4E5B9)
	return unshifted(z, 30) - 0x9E3779B97F4A7C15
}

func TestUnlikeStatesTellUnlikeNumbers(t *testing.T) {
	told := map[uint64]uint64{}
	l := seeds()
	for i := range uint64(50000) {
		l = append(l, i*i*0x123456789+i+1000)
	}
	for _, seed := range l {
		number := mix.New(seed).Next()
		is(t, "the seed of a number", seedOf(number), seed)
		is(t, "the number of a seed of a number", mix.New(seedOf(seed)).Next(), seed)
		if other, ok := told[number]; ok && other != seed {
			t.Errorf("of %d and %d the next number is %d", seed, other, number)
		}
		told[number] = seed
	}
}
