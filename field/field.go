// Package field is layer 1: see shared/doc/01-field.md.
package field

import "wellspring/api"

const (
	// overflow stands for x^8, which isn't below degree 8: what the modulus 11D (base 16) leaves of it.
	overflow = 0x1D
	// powers is how many powers of 2 there are: behind so many they begin anew, and so do those of any byte but 0.
	powers = 255
)

// Add: the sum.
func Add(l ...byte) byte {
	sum := byte(0)
	for _, a := range l {
		sum ^= a
	}
	return sum
}

// Mul: the product.
func Mul(l ...byte) byte {
	if len(l) == 0 {
		return 1
	}
	product := l[0] // not 1 times it, which would double the work of the usual two
	for _, a := range l[1:] {
		product = times(product, a)
	}
	return product
}

// Exp: 2 to a power.
func Exp(n int) byte {
	return power(2, n)
}

// Log: of which power it is.
func Log(a byte) (int, api.Errno) {
	if a == 0 {
		return 0, api.ErrZero
	}
	n := 0
	for p := byte(1); p != a; p = double(p) {
		n++
	}
	return n, api.OK
}

// Inv: whose product with it is 1.
func Inv(a byte) (byte, api.Errno) {
	return Pow(a, -1)
}

// Div: a part.
func Div(a, b byte) (byte, api.Errno) {
	inverse, e := Inv(b)
	if e != api.OK {
		return 0, e
	}
	return times(a, inverse), api.OK
}

// Pow: taken so many times.
func Pow(a byte, n int) (byte, api.Errno) {
	if a == 0 {
		return powerOfZero(n)
	}
	return power(a, n), api.OK
}

// powerOfZero stands apart, since the powers of 0 don't begin anew as those of all other bytes do.
func powerOfZero(n int) (byte, api.Errno) {
	if n < 0 {
		return 0, api.ErrZero
	}
	if n == 0 {
		return 1, api.OK
	}
	return 0, api.OK
}

// power is of a byte that isn't 0, to any n: the remainder spares the turning of the least int, which has no opposite.
func power(a byte, n int) byte {
	product := byte(1)
	for left := remainder(n); left > 0; left >>= 1 {
		if left&1 == 1 {
			product = times(product, a)
		}
		a = times(a, a)
	}
	return product
}

// remainder is from 0 on for an n below 0, too, which that of the language isn't.
func remainder(n int) int {
	return (n%powers + powers) % powers
}

// times goes bit by bit. It takes in each bit by a mask, not by a branch, since all that is heavy in the program ends here.
func times(a, b byte) byte {
	product := byte(0)
	for i := range 8 {
		product ^= a & -(b >> i & 1)
		a = double(a)
	}
	return product
}

// double is the product with x.
func double(a byte) byte {
	return a<<1 ^ overflow&-(a>>7)
}
