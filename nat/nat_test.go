package nat_test

import (
	"math"
	"math/big"
	"strings"
	"testing"

	"wellspring/api"
	"wellspring/nat"
)

// limit is the least number that is too great.
func limit() *big.Int {
	return new(big.Int).Lsh(big.NewInt(1), 8*api.MaxNat)
}

// of is the number of a whole one that may be.
func of(t *testing.T, n *big.Int) nat.Nat {
	t.Helper()
	a, e := nat.Parse(n.Text(16))
	if e != api.OK {
		t.Fatalf("a number of %d bits: error %d", n.BitLen(), e)
	}
	return a
}

// all are the numbers of whole ones.
func all(t *testing.T, l []*big.Int) []nat.Nat {
	t.Helper()
	ns := make([]nat.Nat, len(l))
	for i, n := range l {
		ns[i] = of(t, n)
	}
	return ns
}

// whole is 2 to a power, and some more.
func whole(power uint, more int64) *big.Int {
	n := new(big.Int).Lsh(big.NewInt(1), power)
	return n.Add(n, big.NewInt(more))
}

// some is a number of so many bits, of another run for another start.
func some(start, count int) *big.Int {
	n := new(big.Int)
	for i := range count {
		n.SetBit(n, i, uint(((start+i)*(start+i)*37+11*i)>>3&1))
	}
	return n.SetBit(n, count-1, 1)
}

// smalls are numbers whose products, three at once, aren't too great: those round about where words and bytes end among them.
func smalls() []*big.Int {
	l := []*big.Int{}
	for n := range int64(18) {
		l = append(l, big.NewInt(n))
	}
	for _, power := range []uint{8, 32, 63, 64, 65, 128, 192, 256, 1000} {
		l = append(l, whole(power, -1), whole(power, 0), whole(power, 1))
	}
	for _, count := range []int{60, 64, 65, 127, 129, 200, 500, 3000} {
		l = append(l, some(count, count), some(count+7, count))
	}
	return l
}

// greats are numbers up to the greatest.
func greats() []*big.Int {
	l := []*big.Int{whole(8*4095, 0), whole(8*4095, -1), whole(16384, 0), whole(16384, -1), whole(16384, 1), some(3, 32768), some(4, 32767), some(5, 20000)}
	for less := range int64(3) {
		l = append(l, new(big.Int).Sub(limit(), big.NewInt(less+1)))
	}
	return l
}

// is fails the test where something isn't what was wanted.
func is[T comparable](t *testing.T, what string, got, wanted T) {
	t.Helper()
	if got != wanted {
		t.Errorf("%s: %v, wanted %v", what, got, wanted)
	}
}

// short is a text of which a test may tell.
func short(s string) string {
	if len(s) > 80 {
		return s[:40] + ".." + s[len(s)-40:]
	}
	return s
}

// answers fails the test where a call didn't answer this number without an error, and ErrLong and 0 where it is too great.
func answers(t *testing.T, what string, got nat.Nat, e api.Errno, wanted *big.Int) {
	t.Helper()
	if wanted.Cmp(limit()) >= 0 {
		refuses(t, what, got, e, api.ErrLong)
		return
	}
	if got.Text() != wanted.Text(16) || e != api.OK {
		t.Errorf("%s: %s, error %d; wanted %s", what, short(got.Text()), e, short(wanted.Text(16)))
	}
}

// refuses fails the test where a call didn't answer this error, and 0.
func refuses(t *testing.T, what string, got nat.Nat, e, wanted api.Errno) {
	t.Helper()
	if got.Text() != "0" || got.Len() != 0 || got.Cmp(nat.Nat{}) != 0 || e != wanted {
		t.Errorf("%s: %s, error %d; wanted 0, error %d", what, short(got.Text()), e, wanted)
	}
}

// P6.1

func TestOf(t *testing.T) {
	for _, n := range []uint64{0, 1, 9, 10, 15, 16, 255, 256, 1 << 32, 1<<63 - 1, 1 << 63, math.MaxUint64} {
		is(t, "its text", nat.Of(n).Text(), new(big.Int).SetUint64(n).Text(16))
		m, e := nat.Parse(new(big.Int).SetUint64(n).Text(16))
		is(t, "as its text says", nat.Of(n).Cmp(m), 0)
		is(t, "as its text says: error", e, api.OK)
	}
	is(t, "the example", nat.Of(255).Text(), "ff")
}

func TestZeroNat(t *testing.T) {
	var zero nat.Nat
	is(t, "its text", zero.Text(), "0")
	is(t, "its length", zero.Len(), 0)
	is(t, "beside 0", zero.Cmp(nat.Of(0)), 0)
	is(t, "0 beside it", nat.Of(0).Cmp(zero), 0)
	is(t, "beside 1", zero.Cmp(nat.Of(1)), -1)
	is(t, "1 beside it", nat.Of(1).Cmp(zero), 1)
	got, e := nat.Add(zero, nat.Of(7), zero)
	answers(t, "added", got, e, big.NewInt(7))
	got, e = nat.Of(7).Sub(zero)
	answers(t, "taken away", got, e, big.NewInt(7))
	got, e = zero.Sub(zero)
	answers(t, "less itself", got, e, big.NewInt(0))
	got, e = nat.Mul(nat.Of(7), zero)
	answers(t, "times", got, e, big.NewInt(0))
	got, e = zero.Pow(3)
	answers(t, "taken 3 times", got, e, big.NewInt(0))
}

func TestTextAndParse(t *testing.T) {
	for _, n := range append(smalls(), greats()...) {
		s := n.Text(16)
		a, e := nat.Parse(s)
		if e != api.OK || a.Text() != s {
			t.Errorf("of %s: %s, error %d", short(s), short(a.Text()), e)
		}
	}
	for _, s := range []string{"0", "1", "9", "a", "f", "10", "1000000000000000", "10000000000000000", "abcdef0123456789", "fedcba98765432100000000000000000"} {
		a, e := nat.Parse(s)
		is(t, "the text of a text", a.Text(), s)
		is(t, "the text of a text: error", e, api.OK)
	}
}

func TestParseOfNoText(t *testing.T) {
	for _, s := range []string{
		"", " ", "00", "01", "0f", "000", "0x1", "F", "fF", "1A", "g", "1g", "g1", " 1", "1 ", "1 1", "+1", "-1", "-0", "+", "-", "_", "1_0",
		"1.", "1e+1", "1,0", "\x00", "1\x00", "0\x00", "\n", "1\n", "/", ":", "`", "1`", "é", "1é", "\xff", "1\xff", "１", "٣",
		"0" + strings.Repeat("1", 20), "1" + strings.Repeat("0", 20) + "G",
	} {
		a, e := nat.Parse(s)
		refuses(t, "of "+s, a, e, api.ErrForm)
	}
}

func TestParseOfLongTexts(t *testing.T) {
	longest := strings.Repeat("f", 8192)
	a, e := nat.Parse(longest)
	is(t, "the greatest", a.Text(), longest)
	is(t, "the greatest: error", e, api.OK)
	for _, s := range []string{"1" + strings.Repeat("0", 8192), strings.Repeat("f", 8193), strings.Repeat("1", 100000)} {
		a, e := nat.Parse(s)
		refuses(t, "too great", a, e, api.ErrLong)
	}
	for _, s := range []string{"0" + longest, "0" + longest[1:], longest + "F", longest + " ", "G" + longest, strings.Repeat("0", 8193), strings.Repeat("1", 9000) + "\n"} {
		a, e := nat.Parse(s)
		refuses(t, "none's, and long", a, e, api.ErrForm)
	}
}

func TestCmp(t *testing.T) {
	l := append(smalls(), greats()...)
	ns := all(t, l)
	for i, a := range ns {
		for j, b := range ns {
			is(t, "which is greater", a.Cmp(b), l[i].Cmp(l[j]))
		}
	}
	// The highest word tells, whatever the lower ones say.
	a, b := of(t, new(big.Int).Add(whole(130, 0), big.NewInt(1))), of(t, new(big.Int).Sub(whole(131, 0), whole(64, 0)))
	is(t, "a lower word that is greater", a.Cmp(b), -1)
	is(t, "a lower word that is less", b.Cmp(a), 1)
}

func TestLen(t *testing.T) {
	for _, n := range append(smalls(), greats()...) {
		is(t, "how many bytes", of(t, n).Len(), len(n.Bytes()))
	}
	is(t, "of 0", nat.Of(0).Len(), 0)
	is(t, "of 1", nat.Of(1).Len(), 1)
	is(t, "of 255", nat.Of(255).Len(), 1)
	is(t, "of 256", nat.Of(256).Len(), 2)
	for n := 1; n <= 4096; n++ {
		least := whole(uint(8*(n-1)), 0)
		is(t, "of the least of so many bytes", of(t, least).Len(), n)
		is(t, "of one below", of(t, least.Sub(least, big.NewInt(1))).Len(), n-1)
	}
}

// P6.2

func TestAdd(t *testing.T) {
	l := append(smalls(), greats()...)
	ns := all(t, l)
	for i, a := range ns {
		for j, b := range ns {
			got, e := nat.Add(a, b)
			answers(t, "the sum of two", got, e, new(big.Int).Add(l[i], l[j]))
		}
		got, e := nat.Add(a)
		answers(t, "the sum of one", got, e, l[i])
	}
	got, e := nat.Add()
	answers(t, "the sum of none", got, e, big.NewInt(0))
	wanted := new(big.Int)
	for _, n := range smalls() {
		wanted.Add(wanted, n)
	}
	got, e = nat.Add(all(t, smalls())...)
	answers(t, "the sum of many", got, e, wanted)
}

func TestAddUpToTheGreatest(t *testing.T) {
	greatest := of(t, new(big.Int).Sub(limit(), big.NewInt(1)))
	below := of(t, new(big.Int).Sub(limit(), big.NewInt(3)))
	one := nat.Of(1)
	got, e := nat.Add(below, one, one)
	is(t, "up to the greatest", got.Cmp(greatest), 0)
	is(t, "up to the greatest: error", e, api.OK)
	got, e = nat.Add(nat.Of(0), greatest, nat.Of(0))
	is(t, "and noughts", got.Cmp(greatest), 0)
	is(t, "and noughts: error", e, api.OK)
	for _, l := range [][]nat.Nat{{greatest, one}, {one, greatest}, {below, one, one, one}, {greatest, greatest}, {greatest, one, nat.Of(0), nat.Of(0)}} {
		got, e := nat.Add(l...)
		refuses(t, "too great a sum", got, e, api.ErrLong)
	}
}

func TestSub(t *testing.T) {
	l := append(smalls(), greats()...)
	ns := all(t, l)
	for i, a := range ns {
		for j, b := range ns {
			got, e := a.Sub(b)
			if l[i].Cmp(l[j]) < 0 {
				refuses(t, "less a greater one", got, e, api.ErrRange)
				continue
			}
			answers(t, "less another one", got, e, new(big.Int).Sub(l[i], l[j]))
		}
	}
}

func TestMul(t *testing.T) {
	l := append(smalls(), greats()...)
	ns := all(t, l)
	for i, a := range ns {
		for j, b := range ns {
			got, e := nat.Mul(a, b)
			answers(t, "the product of two", got, e, new(big.Int).Mul(l[i], l[j]))
		}
		got, e := nat.Mul(a)
		answers(t, "the product of one", got, e, l[i])
	}
	got, e := nat.Mul()
	answers(t, "the product of none", got, e, big.NewInt(1))
	got, e = nat.Mul(nat.Of(255), nat.Of(255))
	answers(t, "the example", got, e, big.NewInt(0xFE01))
}

func TestMulOfMany(t *testing.T) {
	wanted, l := big.NewInt(1), []nat.Nat{}
	for i := range int64(300) {
		wanted.Mul(wanted, big.NewInt(i+1))
		l = append(l, nat.Of(uint64(i+1)))
		got, e := nat.Mul(l...)
		answers(t, "the product of the numbers from 1 on", got, e, wanted)
	}
}

func TestMulOneByOne(t *testing.T) {
	half, zero, one := of(t, whole(16384, 0)), nat.Of(0), nat.Of(1)
	short := of(t, whole(16383, 0))
	for _, l := range [][]nat.Nat{{half, half}, {half, half, zero}, {one, half, one, half, one, zero, one}, {half, short, nat.Of(2)}, {half, short, nat.Of(2), zero}} {
		got, e := nat.Mul(l...)
		refuses(t, "too great on the way", got, e, api.ErrLong)
	}
	for _, l := range [][]nat.Nat{{zero, half, half}, {half, zero, half, half}, {half, short, zero, half}} {
		got, e := nat.Mul(l...)
		answers(t, "0 ahead of what would be too great", got, e, big.NewInt(0))
	}
	got, e := nat.Mul(half, short)
	answers(t, "not too great", got, e, whole(32767, 0))
}

func TestPow(t *testing.T) {
	for _, a := range []int64{0, 1, 2, 3, 10, 16, 255, 256, 257, 65535} {
		for _, n := range []int64{0, 1, 2, 3, 4, 5, 7, 8, 9, 31, 64, 100, 333, 1000} {
			got, e := nat.Of(uint64(a)).Pow(int(n))
			answers(t, "a power", got, e, new(big.Int).Exp(big.NewInt(a), big.NewInt(n), nil))
		}
	}
	for _, n := range append(smalls(), greats()...) {
		for times := range 4 {
			got, e := of(t, n).Pow(times)
			answers(t, "a power", got, e, new(big.Int).Exp(n, big.NewInt(int64(times)), nil))
		}
	}
}

func TestPowOfTheMost(t *testing.T) {
	for _, n := range []int{1, 2, 32767, 32768, 65535, 65536} {
		got, e := nat.Of(0).Pow(n)
		answers(t, "of 0", got, e, big.NewInt(0))
		got, e = nat.Of(1).Pow(n)
		answers(t, "of 1", got, e, big.NewInt(1))
	}
	got, e := nat.Of(0).Pow(0)
	answers(t, "of 0, none", got, e, big.NewInt(1))
	for _, l := range []struct {
		a     uint64
		power int
		wide  uint
	}{{2, 32767, 32767}, {4, 16383, 32766}, {16, 8191, 32764}, {256, 4095, 32760}, {1 << 63, 520, 32760}} {
		got, e := nat.Of(l.a).Pow(l.power)
		answers(t, "the last that isn't too great", got, e, whole(l.wide, 0))
		for _, n := range []int{l.power + 1, l.power + 2, 2*l.power + 2, 65536} {
			got, e := nat.Of(l.a).Pow(min(n, 65536))
			refuses(t, "too great", got, e, api.ErrLong)
		}
	}
}

func TestPowLooksAtTheNumberFirst(t *testing.T) {
	greatest := of(t, new(big.Int).Sub(limit(), big.NewInt(1)))
	for _, a := range []nat.Nat{{}, nat.Of(1), nat.Of(2), nat.Of(256), greatest} {
		for _, n := range []int{-1, -2, -65536, math.MinInt, 65537, 1 << 20, math.MaxInt} {
			got, e := a.Pow(n)
			refuses(t, "out of range", got, e, api.ErrRange)
		}
	}
	got, e := greatest.Pow(2)
	refuses(t, "too great", got, e, api.ErrLong)
}

func TestNumbersStayAsTheyWere(t *testing.T) {
	l := []nat.Nat{of(t, some(1, 300)), of(t, some(2, 200)), nat.Of(math.MaxUint64), nat.Of(0)}
	told := make([]string, len(l))
	for i, a := range l {
		told[i] = a.Text()
	}
	answered := func() []nat.Nat {
		sum, _ := nat.Add(l...)
		alone, _ := nat.Add(l[0])
		product, _ := nat.Mul(l[0], l[1], l[2])
		single, _ := nat.Mul(l[0])
		rest, _ := l[0].Sub(l[1])
		power, _ := l[0].Pow(3)
		first, _ := l[0].Pow(1)
		l[1].Sub(l[0])
		l[0].Pow(65536)
		return []nat.Nat{sum, alone, product, single, rest, power, first}
	}
	answers := answered()
	for i, a := range answers {
		was := a.Text()
		nat.Add(a, a, l[0])
		nat.Mul(a, a, l[0])
		a.Sub(l[0])
		a.Pow(2)
		is(t, "an answer", a.Text(), was)
		is(t, "an answer again", answered()[i].Text(), was)
	}
	for i, a := range l {
		is(t, "what was handed in", a.Text(), told[i])
	}
}

// P6.3

// done is what a call answered, without an error.
func done(t *testing.T, what string) func(a nat.Nat, e api.Errno) nat.Nat {
	return func(a nat.Nat, e api.Errno) nat.Nat {
		t.Helper()
		is(t, what+": error", e, api.OK)
		return a
	}
}

func TestSumsAndProductsOfWholeNumbers(t *testing.T) {
	ns := all(t, smalls())
	for i, a := range ns {
		for _, b := range ns {
			c := ns[(i*7+3)%len(ns)]
			sum, product := done(t, "a sum")(nat.Add(a, b)), done(t, "a product")(nat.Mul(a, b))
			is(t, "a sum turned about", done(t, "a sum")(nat.Add(b, a)).Cmp(sum), 0)
			is(t, "a product turned about", done(t, "a product")(nat.Mul(b, a)).Cmp(product), 0)
			together := done(t, "a sum")(nat.Add(product, done(t, "a product")(nat.Mul(a, c))))
			of := done(t, "a product")(nat.Mul(a, done(t, "a sum")(nat.Add(b, c))))
			is(t, "the product of a sum", of.Cmp(together), 0)
			is(t, "a product of three", done(t, "a product")(nat.Mul(a, b, c)).Cmp(done(t, "a product")(nat.Mul(c, product))), 0)
		}
	}
}

func TestWhatIsAddedIsTakenAwayAgain(t *testing.T) {
	l := append(smalls(), greats()...)
	ns := all(t, l)
	for i, a := range ns {
		for j, b := range ns {
			sum, e := nat.Add(a, b)
			if e != api.OK {
				is(t, "too great", new(big.Int).Add(l[i], l[j]).Cmp(limit()) >= 0, true)
				continue
			}
			is(t, "the sum less the second", done(t, "the rest")(sum.Sub(b)).Cmp(a), 0)
			is(t, "the sum less the first", done(t, "the rest")(sum.Sub(a)).Cmp(b), 0)
		}
	}
}

func TestPowersOfSums(t *testing.T) {
	for _, n := range all(t, smalls()) {
		if n.Len() > 100 {
			continue
		}
		for i := range 6 {
			for j := range 6 {
				a, b := done(t, "a power")(n.Pow(i)), done(t, "a power")(n.Pow(j))
				is(t, "one power times another one", done(t, "a product")(nat.Mul(a, b)).Cmp(done(t, "a power")(n.Pow(i+j))), 0)
			}
		}
	}
}
