package field_test

import (
	"bytes"
	"math"
	"testing"

	"wellspring/api"
	"wellspring/field"
)

// slow is the product by the document's words alone: that of the polynomials first, of a degree up to 14, and then what 11D leaves of it.
func slow(a, b byte) byte {
	product := 0
	for i := range 8 {
		if b>>i&1 == 1 {
			product ^= int(a) << i
		}
	}
	for i := 14; i >= 8; i-- {
		if product>>i&1 == 1 {
			product ^= 0x11D << (i - 8)
		}
	}
	return byte(product)
}

// answers fails the test where a call didn't answer what was wanted.
func answers[T comparable](t *testing.T, what string, got T, e api.Errno, wanted T, wantedError api.Errno) {
	t.Helper()
	if got != wanted || e != wantedError {
		t.Errorf("%s: %v, error %d; wanted %v, error %d", what, got, e, wanted, wantedError)
	}
}

// is fails the test where something isn't what was wanted.
func is[T comparable](t *testing.T, what string, got, wanted T) {
	t.Helper()
	if got != wanted {
		t.Errorf("%s: %v, wanted %v", what, got, wanted)
	}
}

// P1.1

func TestAddIsExclusiveOr(t *testing.T) {
	for a := range 256 {
		is(t, "sum of one", field.Add(byte(a)), byte(a))
		for b := range 256 {
			if got := field.Add(byte(a), byte(b)); got != byte(a^b) {
				t.Fatalf("%d and %d: %d", a, b, got)
			}
		}
	}
}

func TestAddOfManyAndNone(t *testing.T) {
	is(t, "of none", field.Add(), 0)
	is(t, "of a nil list", field.Add([]byte(nil)...), 0)
	is(t, "of an empty list", field.Add([]byte{}...), 0)
	is(t, "of three", field.Add(5, 3, 5), 3)
	is(t, "of four", field.Add(1, 2, 4, 8), 15)
	is(t, "of five alike", field.Add(200, 200, 200, 200, 200), 200)
	is(t, "of many", field.Add(bytes.Repeat([]byte{7}, 10001)...), 7)
}

func TestMulOfTwo(t *testing.T) {
	is(t, "2 times 128", field.Mul(2, 128), 29)
	is(t, "3 times 3", field.Mul(3, 3), 5)
	for a := range 256 {
		for b := range 256 {
			if got, wanted := field.Mul(byte(a), byte(b)), slow(byte(a), byte(b)); got != wanted {
				t.Fatalf("%d times %d: %d, wanted %d", a, b, got, wanted)
			}
		}
	}
}

func TestMulOfManyAndNone(t *testing.T) {
	is(t, "of none", field.Mul(), 1)
	is(t, "of a nil list", field.Mul([]byte(nil)...), 1)
	is(t, "of an empty list", field.Mul([]byte{}...), 1)
	for a := range 256 {
		is(t, "of one", field.Mul(byte(a)), byte(a))
	}
	is(t, "of three", field.Mul(7, 100, 201), slow(slow(7, 100), 201))
	is(t, "of four", field.Mul(2, 128, 3, 3), slow(29, 5))
	is(t, "a 0 first", field.Mul(0, 7, 9), 0)
	is(t, "a 0 between", field.Mul(7, 0, 9), 0)
	is(t, "a 0 last", field.Mul(7, 9, 0), 0)
	is(t, "of 255 times 2", field.Mul(bytes.Repeat([]byte{2}, 255)...), 1)
	is(t, "of 256 times 2", field.Mul(bytes.Repeat([]byte{2}, 256)...), 2)
	is(t, "of many ones", field.Mul(bytes.Repeat([]byte{1}, 10001)...), 1)
}

func TestListsStayAsTheyWere(t *testing.T) {
	room := []byte{5, 6, 7, 8, 9}
	field.Add(room[:3]...)
	field.Mul(room[:3]...)
	if !bytes.Equal(room, []byte{5, 6, 7, 8, 9}) {
		t.Errorf("changed: %v", room)
	}
}

func TestInv(t *testing.T) {
	inverse, e := field.Inv(0)
	answers(t, "of 0", inverse, e, 0, api.ErrZero)
	for a := 1; a < 256; a++ {
		inverse, e := field.Inv(byte(a))
		answers(t, "a byte times its inverse", slow(byte(a), inverse), e, 1, api.OK)
	}
}

func TestDiv(t *testing.T) {
	part, e := field.Div(5, 3)
	answers(t, "5 by 3", part, e, 3, api.OK)
	for a := range 256 {
		part, e := field.Div(byte(a), 0)
		answers(t, "by 0", part, e, 0, api.ErrZero)
		for b := 1; b < 256; b++ {
			part, e := field.Div(byte(a), byte(b))
			if slow(part, byte(b)) != byte(a) || e != api.OK {
				t.Fatalf("%d by %d: %d, error %d", a, b, part, e)
			}
		}
	}
}

// P1.2

func TestPowFromNoughtOn(t *testing.T) {
	for a := range 256 {
		wanted := byte(1)
		for n := range 600 {
			got, e := field.Pow(byte(a), n)
			if got != wanted || e != api.OK {
				t.Fatalf("%d to the power %d: %d, error %d; wanted %d", a, n, got, e, wanted)
			}
			wanted = slow(wanted, byte(a))
		}
	}
}

func TestPowBelowNought(t *testing.T) {
	for a := 1; a < 256; a++ {
		inverse, _ := field.Inv(byte(a))
		wanted := inverse
		for n := -1; n > -600; n-- {
			got, e := field.Pow(byte(a), n)
			if got != wanted || e != api.OK {
				t.Fatalf("%d to the power %d: %d, error %d; wanted %d", a, n, got, e, wanted)
			}
			wanted = slow(wanted, inverse)
		}
	}
}

func TestPowOfNought(t *testing.T) {
	one, e := field.Pow(0, 0)
	answers(t, "0 to the power 0", one, e, 1, api.OK)
	for _, n := range []int{1, 2, 254, 255, 256, 510, math.MaxInt} {
		nought, e := field.Pow(0, n)
		answers(t, "0 to a power above 0", nought, e, 0, api.OK)
	}
	for _, n := range []int{-1, -2, -254, -255, -256, -510, math.MinInt} {
		nought, e := field.Pow(0, n)
		answers(t, "0 to a power below 0", nought, e, 0, api.ErrZero)
	}
}

// TestPowOfTheGreatest: the greatest int leaves 127 by 255, and the least one, which has no opposite, 127, too.
func TestPowOfTheGreatest(t *testing.T) {
	for a := 1; a < 256; a++ {
		wanted := byte(1)
		for range 127 {
			wanted = slow(wanted, byte(a))
		}
		got, e := field.Pow(byte(a), math.MaxInt)
		answers(t, "to the greatest power", got, e, wanted, api.OK)
		got, e = field.Pow(byte(a), math.MinInt)
		answers(t, "to the least power", got, e, wanted, api.OK)
	}
}

func TestExp(t *testing.T) {
	is(t, "Exp(8)", field.Exp(8), 29)
	is(t, "Exp(-1)", field.Exp(-1), 142)
	is(t, "Exp(254)", field.Exp(254), 142)
	is(t, "Exp(255)", field.Exp(255), 1)
	is(t, "Exp(-255)", field.Exp(-255), 1)
	is(t, "Exp(-256)", field.Exp(-256), 142)
	is(t, "of the greatest", field.Exp(math.MaxInt), field.Exp(127))
	is(t, "of the least", field.Exp(math.MinInt), field.Exp(127))
	wanted := byte(1)
	for n := range 255 {
		for _, k := range []int{-255000, -510, -255, 0, 255, 510, 255000} {
			if got := field.Exp(n + k); got != wanted {
				t.Fatalf("Exp(%d): %d, wanted %d", n+k, got, wanted)
			}
		}
		wanted = slow(wanted, 2)
	}
}

func TestLog(t *testing.T) {
	n, e := field.Log(0)
	answers(t, "Log(0)", n, e, 0, api.ErrZero)
	n, e = field.Log(1)
	answers(t, "Log(1)", n, e, 0, api.OK)
	n, e = field.Log(29)
	answers(t, "Log(29)", n, e, 8, api.OK)
	n, e = field.Log(142)
	answers(t, "Log(142)", n, e, 254, api.OK)
	power := byte(1)
	for wanted := range 255 {
		n, e := field.Log(power)
		answers(t, "Log of a power of 2", n, e, wanted, api.OK)
		power = slow(power, 2)
	}
}

// TestPowersAreAllButNought: the powers of 2 are all bytes but 0, each once.
func TestPowersAreAllButNought(t *testing.T) {
	var met [256]int
	for n := range 255 {
		met[field.Exp(n)]++
	}
	is(t, "how often 0 is one", met[0], 0)
	for a := 1; a < 256; a++ {
		is(t, "how often another byte is one", met[a], 1)
		n, e := field.Log(byte(a))
		answers(t, "Exp of its Log", field.Exp(n), e, byte(a), api.OK)
	}
}

// P1.3

// thirds are some bytes to stand beside each two: all powers of x, and some sums of them.
func thirds() []byte {
	return []byte{0, 1, 2, 3, 4, 8, 16, 29, 32, 64, 85, 128, 142, 170, 254, 255}
}

func TestInAnyOrder(t *testing.T) {
	for a := range 256 {
		for b := range 256 {
			a, b := byte(a), byte(b)
			if field.Add(a, b) != field.Add(b, a) || field.Mul(a, b) != field.Mul(b, a) {
				t.Fatalf("%d and %d, turned about, differ", a, b)
			}
			for _, c := range thirds() {
				sum, product := field.Add(a, b, c), field.Mul(a, b, c)
				if sum != field.Add(c, a, b) || sum != field.Add(a, field.Add(b, c)) || sum != field.Add(field.Add(a, b), c) {
					t.Fatalf("sums of %d, %d, %d differ", a, b, c)
				}
				if product != field.Mul(c, a, b) || product != field.Mul(a, field.Mul(b, c)) || product != field.Mul(field.Mul(a, b), c) {
					t.Fatalf("products of %d, %d, %d differ", a, b, c)
				}
			}
		}
	}
}

func TestProductsOfSums(t *testing.T) {
	for a := range 256 {
		for b := range 256 {
			for _, c := range thirds() {
				a, b := byte(a), byte(b)
				if field.Mul(c, field.Add(a, b)) != field.Add(field.Mul(c, a), field.Mul(c, b)) {
					t.Fatalf("%d times the sum of %d and %d isn't the sum of the products", c, a, b)
				}
			}
		}
	}
}

func TestDividedAndAgainTimes(t *testing.T) {
	for a := range 256 {
		for b := 1; b < 256; b++ {
			part, e := field.Div(byte(a), byte(b))
			if field.Mul(part, byte(b)) != byte(a) || e != api.OK {
				t.Fatalf("%d, divided by %d, is not again %d", a, b, a)
			}
		}
	}
}

func TestNoughtAndOne(t *testing.T) {
	for a := range 256 {
		a := byte(a)
		is(t, "and 0", field.Add(a, 0), a)
		is(t, "and itself", field.Add(a, a), 0)
		is(t, "times 1", field.Mul(a, 1), a)
		is(t, "times 0", field.Mul(a, 0), 0)
	}
}
