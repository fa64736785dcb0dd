package grid_test

import (
	"bytes"
	"math"
	"slices"
	"testing"

	"wellspring/api"
	"wellspring/field"
	"wellspring/grid"
	"wellspring/mix"
)

// some is n bytes, of another run for another start; noughts are among them where there are enough.
func some(start, n int) []byte {
	l, _ := mix.Row(uint64(start), n)
	return l
}

// somes is rows of bytes.
func somes(start, height, width int) [][]byte {
	rows := make([][]byte, height)
	for i := range rows {
		rows[i] = some(1000*start+i, width)
	}
	return rows
}

// of is the grid of rows that may be.
func of(t *testing.T, width int, rows ...[]byte) grid.Grid {
	t.Helper()
	g, e := grid.Of(width, rows...)
	if e != api.OK {
		t.Fatalf("%d rows of %d bytes: error %d", len(rows), width, e)
	}
	return g
}

// unit is Unit of a number that may be.
func unit(t *testing.T, n int) grid.Grid {
	t.Helper()
	u, e := grid.Unit(n)
	if e != api.OK {
		t.Fatalf("Unit(%d): error %d", n, e)
	}
	return u
}

// is fails the test where something isn't what was wanted.
func is[T comparable](t *testing.T, what string, got, wanted T) {
	t.Helper()
	if got != wanted {
		t.Errorf("%s: %v, wanted %v", what, got, wanted)
	}
}

// isGrid fails the test where a grid hasn't just this width, and just these rows.
func isGrid(t *testing.T, what string, g grid.Grid, width int, rows [][]byte) {
	t.Helper()
	if g.Width() != width || g.Height() != len(rows) || !slices.EqualFunc(g.Rows(), rows, bytes.Equal) {
		t.Errorf("%s: %d rows of %d bytes, %v; wanted %d of %d", what, g.Height(), g.Width(), short(g.Rows()), len(rows), width)
	}
}

// short is as much of rows as a test may tell.
func short(rows [][]byte) [][]byte {
	if len(rows) > 8 || len(rows) > 0 && len(rows[0]) > 8 {
		return nil
	}
	return rows
}

// refuses fails the test where a call didn't answer this error, and the zero grid.
func refuses(t *testing.T, what string, g grid.Grid, e, wanted api.Errno) {
	t.Helper()
	if e != wanted || g.Width() != 0 || g.Height() != 0 || len(g.Rows()) != 0 {
		t.Errorf("%s: %d rows of %d bytes, error %d; wanted none, error %d", what, g.Height(), g.Width(), e, wanted)
	}
}

// turned is the columns of rows of that width, by the words of the document.
func turned(width int, rows [][]byte) [][]byte {
	columns := make([][]byte, width)
	for i := range columns {
		for _, row := range rows {
			columns[i] = append(columns[i], row[i])
		}
	}
	return columns
}

// times is the product of rows, and of others of that width, byte by byte.
func times(rows [][]byte, width int, others [][]byte) [][]byte {
	product := make([][]byte, len(rows))
	for i, row := range rows {
		product[i] = make([]byte, width)
		for j := range width {
			for k, b := range row {
				product[i][j] ^= field.Mul(b, others[k][j])
			}
		}
	}
	return product
}

// determinant is that of as many rows as columns, by the products of all orders of them. There are no signs: each byte is its own opposite.
func determinant(rows [][]byte) byte {
	if len(rows) == 0 {
		return 1
	}
	sum := byte(0)
	for i, b := range rows[0] {
		if b == 0 {
			continue
		}
		left := [][]byte{}
		for _, row := range rows[1:] {
			left = append(left, slices.Concat(row[:i], row[i+1:]))
		}
		sum ^= field.Mul(b, determinant(left))
	}
	return sum
}

// choices are all ways to take some of n places, as bits, by how many are taken.
func choices(n int) [][]int {
	l := make([][]int, n+1)
	for bits := range 1 << n {
		count := 0
		for i := range n {
			count += bits >> i & 1
		}
		l[count] = append(l[count], bits)
	}
	return l
}

// slowRank is how many rows the greatest part has, of as many rows and columns, whose determinant isn't 0.
func slowRank(width int, rows [][]byte) int {
	down, across := choices(len(rows)), choices(width)
	for n := min(len(rows), width); n > 0; n-- {
		for _, d := range down[n] {
			for _, a := range across[n] {
				if determinant(part(rows, d, a)) != 0 {
					return n
				}
			}
		}
	}
	return 0
}

// part is the rows and columns whose bits are 1.
func part(rows [][]byte, down, across int) [][]byte {
	l := [][]byte{}
	for i, row := range rows {
		if down>>i&1 == 0 {
			continue
		}
		taken := []byte{}
		for j, b := range row {
			if across>>j&1 == 1 {
				taken = append(taken, b)
			}
		}
		l = append(l, taken)
	}
	return l
}

// ofRank is rows of just that rank: rows that lead one behind the other, and then combinations of them, all in a mixed order.
func ofRank(start, height, width, rank int) [][]byte {
	rows := make([][]byte, height)
	for i := range rows {
		rows[i] = make([]byte, width)
		if i < rank {
			copy(rows[i][i:], some(start+i, width-i))
			rows[i][i] = byte(start+i)%255 + 1
			continue
		}
		for j, c := range some(start+1000+i, rank) {
			for place := range width {
				rows[i][place] ^= field.Mul(c, rows[j][place])
			}
		}
	}
	mixed := make([][]byte, height)
	for i := range mixed {
		mixed[i] = rows[(i*7+start)%height]
	}
	if height%7 == 0 { // the step of 7 wouldn't come to all of them
		return rows
	}
	return mixed
}

// shapes are heights and widths, without rows and without bytes among them.
func shapes() [][2]int {
	return [][2]int{
		{0, 0}, {0, 1}, {1, 0}, {0, 5}, {5, 0}, {1, 1}, {1, 2}, {2, 1}, {2, 2}, {1, 7}, {7, 1}, {3, 4}, {4, 3}, {5, 5}, {20, 30}, {30, 20},
	}
}

// P7.1

func TestOf(t *testing.T) {
	for _, s := range shapes() {
		rows := somes(1, s[0], s[1])
		isGrid(t, "of rows", of(t, s[1], rows...), s[1], rows)
	}
	isGrid(t, "of no rows", of(t, 3), 3, nil)
	isGrid(t, "of an empty list", of(t, 3, [][]byte{}...), 3, nil)
	isGrid(t, "of nil rows", of(t, 0, nil, nil), 0, [][]byte{{}, {}})
	isGrid(t, "of a longer room", of(t, 2, []byte{1, 2, 3}[:2]), 2, [][]byte{{1, 2}})
	isGrid(t, "the zero grid", grid.Grid{}, 0, nil)
}

func TestOfTheMost(t *testing.T) {
	for _, s := range [][2]int{
		{0, 65536}, {1, 65536}, {2, 32768}, {3, 21845}, {256, 256}, {255, 257}, {257, 255}, {32768, 2}, {65536, 1}, {65536, 0}, {65535, 1}, {65535, 0},
	} {
		rows := somes(2, s[0], s[1])
		isGrid(t, "of the most", of(t, s[1], rows...), s[1], rows)
	}
}

func TestOfAnotherWidth(t *testing.T) {
	for _, width := range []int{-1, -2, -65536, math.MinInt, 65537, 65538, 131072, 1 << 32, math.MaxInt} {
		for _, rows := range [][][]byte{nil, {{1}}, {{1}, {1, 2}}, make([][]byte, 65537)} {
			g, e := grid.Of(width, rows...)
			refuses(t, "another width", g, e, api.ErrRange)
		}
	}
}

func TestOfTooMany(t *testing.T) {
	for _, s := range [][2]int{
		{65537, 0}, {65537, 1}, {70000, 0}, {2, 65536}, {2, 32769}, {3, 21846}, {257, 256}, {256, 257}, {257, 257}, {32769, 2}, {65536, 2}, {65535, 2},
	} {
		g, e := grid.Of(s[1], somes(3, s[0], s[1])...)
		refuses(t, "too many", g, e, api.ErrMany)
		g, e = grid.Of(s[1], make([][]byte, s[0])...)
		refuses(t, "too many, of another length", g, e, api.ErrMany)
	}
	// The product is 2^32.
	g, e := grid.Of(65536, make([][]byte, 65536)...)
	refuses(t, "the most of the widest", g, e, api.ErrMany)
}

func TestOfUnlikeLengths(t *testing.T) {
	for _, l := range []struct {
		width int
		rows  [][]byte
	}{
		{2, [][]byte{{1}}},
		{2, [][]byte{{1, 2, 3}}},
		{2, [][]byte{nil}},
		{0, [][]byte{{1}}},
		{2, [][]byte{{1, 2}, {1}}},
		{2, [][]byte{{1}, {1, 2}}},
		{2, [][]byte{{1, 2}, {1, 2}, {1, 2, 3}}},
		{2, [][]byte{{1, 2}, nil, {1, 2}}},
		{1, [][]byte{{1, 2}, {1, 2}}},
		{0, [][]byte{{}, {}, {0}}},
		{1, make([][]byte, 65536)},
		{65536, [][]byte{make([]byte, 65535)}},
	} {
		g, e := grid.Of(l.width, l.rows...)
		refuses(t, "a row of another length", g, e, api.ErrSize)
	}
}

func TestUnit(t *testing.T) {
	for _, n := range []int{0, 1, 2, 3, 20, 255, 256} {
		rows := make([][]byte, n)
		for i := range rows {
			rows[i] = make([]byte, n)
			rows[i][i] = 1
		}
		isGrid(t, "a unit", unit(t, n), n, rows)
	}
	for _, n := range []int{-1, -2, -256, math.MinInt, 257, 65536, math.MaxInt} {
		g, e := grid.Unit(n)
		refuses(t, "another unit", g, e, api.ErrRange)
	}
}

func TestSame(t *testing.T) {
	unlike := []grid.Grid{
		{},
		of(t, 0, nil),
		of(t, 0, nil, nil),
		of(t, 1),
		of(t, 2),
		of(t, 65536),
		of(t, 1, []byte{0}),
		of(t, 1, []byte{1}),
		of(t, 2, []byte{1, 0}),
		of(t, 2, []byte{0, 1}),
		of(t, 1, []byte{1}, []byte{0}),
		of(t, 1, []byte{0}, []byte{1}),
		of(t, 2, []byte{1, 2}, []byte{3, 4}),
		of(t, 2, []byte{1, 3}, []byte{2, 4}),
		of(t, 2, []byte{1, 2}, []byte{3, 5}),
		of(t, 2, []byte{1, 2}),
		of(t, 2, []byte{1, 2}, []byte{3, 4}, []byte{0, 0}),
		of(t, 4, []byte{1, 2, 3, 4}),
		of(t, 1, []byte{1}, []byte{2}, []byte{3}, []byte{4}),
		unit(t, 2),
		unit(t, 3),
	}
	for i, a := range unlike {
		for j, b := range unlike {
			if grid.Same(a, b) != (i == j) {
				t.Errorf("the grids %d and %d: %v", i, j, i != j)
			}
		}
		is(t, "and the grid of its rows", grid.Same(a, of(t, a.Width(), a.Rows()...)), true)
	}
	is(t, "the zero grid, and one of no rows", grid.Same(grid.Grid{}, of(t, 0)), true)
	is(t, "one of no rows, and the zero grid", grid.Same(of(t, 0), grid.Grid{}), true)
	is(t, "the zero grid, and the unit of none", grid.Same(grid.Grid{}, unit(t, 0)), true)
	is(t, "but for spare room", grid.Same(of(t, 1, []byte{1, 2}[:1]), of(t, 1, []byte{1, 3}[:1])), true)
}

// P7.2

func TestRankOfTheExamples(t *testing.T) {
	is(t, "of 1 2 and 2 4", of(t, 2, []byte{1, 2}, []byte{2, 4}).Rank(), 1)
	is(t, "of 1 2 and 2 5", of(t, 2, []byte{1, 2}, []byte{2, 5}).Rank(), 2)
}

func TestRankOfFewRows(t *testing.T) {
	for _, s := range [][2]int{{1, 1}, {1, 3}, {2, 2}, {2, 3}, {3, 2}, {3, 3}, {3, 4}, {4, 3}, {4, 4}, {5, 4}} {
		for start := range 60 {
			rows := somes(start, s[0], s[1])
			for _, row := range rows {
				for i := range row {
					row[i] %= byte(start%5 + 2) // so that ranks of all kinds come
				}
			}
			is(t, "of few rows", of(t, s[1], rows...).Rank(), slowRank(s[1], rows))
		}
	}
}

// TestRankOfTwo: two rows are independent just where neither is so much of the other one.
func TestRankOfTwo(t *testing.T) {
	for a := range 256 {
		for b := range 256 {
			rank := of(t, 2, []byte{3, 7}, []byte{byte(a), byte(b)}).Rank()
			wanted := 2
			if field.Mul(byte(a), 7) == field.Mul(byte(b), 3) {
				wanted = 1
			}
			is(t, "of 3 7 and another row", rank, wanted)
		}
	}
}

func TestRankOfMore(t *testing.T) {
	for _, s := range [][2]int{{1, 10}, {10, 1}, {5, 9}, {9, 5}, {20, 20}, {40, 15}, {15, 40}} {
		for rank := range min(s[0], s[1]) + 1 {
			g := of(t, s[1], ofRank(rank, s[0], s[1], rank)...)
			is(t, "of that rank", g.Rank(), rank)
		}
	}
}

func TestRankOfNoughts(t *testing.T) {
	for _, s := range shapes() {
		rows := make([][]byte, s[0])
		for i := range rows {
			rows[i] = make([]byte, s[1])
		}
		is(t, "of noughts", of(t, s[1], rows...).Rank(), 0)
		if s[0] > 0 && s[1] > 0 {
			rows[s[0]-1][s[1]-1] = 255
			is(t, "of noughts but one", of(t, s[1], rows...).Rank(), 1)
		}
	}
	is(t, "of the zero grid", grid.Grid{}.Rank(), 0)
}

func TestRankOfTheMost(t *testing.T) {
	for n := range 257 {
		if n%64 == 0 || n < 3 {
			is(t, "of a unit", unit(t, n).Rank(), n)
		}
	}
	is(t, "of 256 rows of 256", of(t, 256, ofRank(9, 256, 256, 256)...).Rank(), 256)
	is(t, "of 256 rows of 256, one of them needless", of(t, 256, ofRank(9, 256, 256, 255)...).Rank(), 255)
	is(t, "of 65536 rows of 1", of(t, 1, somes(1, 65536, 1)...).Rank(), 1)
	is(t, "of 32768 rows of 2", of(t, 2, somes(1, 32768, 2)...).Rank(), 2)
	is(t, "of 2 rows of 32768", of(t, 32768, somes(1, 2, 32768)...).Rank(), 2)
	is(t, "of 65536 rows of 0", of(t, 0, make([][]byte, 65536)...).Rank(), 0)
	is(t, "of 0 rows of 65536", of(t, 65536).Rank(), 0)
}

func TestTurned(t *testing.T) {
	for _, s := range append(shapes(), [2]int{65536, 1}, [2]int{1, 65536}, [2]int{65536, 0}, [2]int{0, 65536}, [2]int{256, 256}) {
		rows := somes(4, s[0], s[1])
		g := of(t, s[1], rows...)
		isGrid(t, "turned", g.Turned(), s[0], turned(s[1], rows))
		is(t, "turned twice", grid.Same(g.Turned().Turned(), g), true)
		isGrid(t, "behind it was turned", g, s[1], rows)
	}
	isGrid(t, "of two rows", of(t, 3, []byte{1, 2, 3}, []byte{4, 5, 6}).Turned(), 2, [][]byte{{1, 4}, {2, 5}, {3, 6}})
	isGrid(t, "without rows", of(t, 2).Turned(), 0, [][]byte{{}, {}})
	isGrid(t, "without bytes", of(t, 0, nil, nil).Turned(), 2, nil)
	isGrid(t, "the zero grid", grid.Grid{}.Turned(), 0, nil)
}

func TestMul(t *testing.T) {
	a, b := of(t, 2, []byte{1, 2}, []byte{0, 3}, []byte{1, 0}), of(t, 3, []byte{1, 0, 128}, []byte{0, 1, 128})
	product, e := a.Mul(b)
	isGrid(t, "of three rows by two", product, 3, [][]byte{{1, 2, 157}, {0, 3, 157}, {1, 0, 128}})
	is(t, "of three rows by two: error", e, api.OK)
	for _, height := range []int{0, 1, 2, 5, 20} {
		for _, between := range []int{0, 1, 2, 5, 20} {
			for _, width := range []int{0, 1, 2, 5, 20} {
				rows, others := somes(5, height, between), somes(6, between, width)
				product, e := of(t, between, rows...).Mul(of(t, width, others...))
				isGrid(t, "a product", product, width, times(rows, width, others))
				is(t, "a product: error", e, api.OK)
			}
		}
	}
}

func TestMulByUnits(t *testing.T) {
	for _, s := range shapes() {
		g := of(t, s[1], somes(7, s[0], s[1])...)
		left, e := unit(t, s[0]).Mul(g)
		right, f := g.Mul(unit(t, s[1]))
		if !grid.Same(left, g) || !grid.Same(right, g) || e != api.OK || f != api.OK {
			t.Errorf("%v by units: errors %d, %d", s, e, f)
		}
	}
}

func TestMulOfTheMost(t *testing.T) {
	for _, s := range [][3]int{
		{256, 1, 256}, {1, 65536, 1}, {65536, 1, 1}, {1, 1, 65536}, {65536, 0, 1}, {1, 0, 65536}, {256, 0, 256}, {0, 1, 65536}, {65536, 1, 0}, {0, 65536, 1}, {1, 65536, 0}, {0, 0, 65536}, {65536, 0, 0},
	} {
		rows, others := somes(8, s[0], s[1]), somes(9, s[1], s[2])
		product, e := of(t, s[1], rows...).Mul(of(t, s[2], others...))
		isGrid(t, "of the most", product, s[2], times(rows, s[2], others))
		is(t, "of the most: error", e, api.OK)
	}
}

func TestMulRefused(t *testing.T) {
	for _, l := range []struct {
		height, width, other, wide int
		wanted                     api.Errno
	}{
		{2, 2, 3, 2, api.ErrSize},
		{2, 3, 2, 2, api.ErrSize},
		{2, 3, 2, 3, api.ErrSize},
		{1, 0, 1, 1, api.ErrSize},
		{1, 1, 0, 1, api.ErrSize},
		{0, 0, 1, 0, api.ErrSize},
		{0, 1, 0, 0, api.ErrSize},
		{257, 1, 1, 256, api.ErrMany},
		{256, 1, 1, 257, api.ErrMany},
		{2, 1, 1, 65536, api.ErrMany},
		{65536, 1, 1, 2, api.ErrMany},
		{65536, 0, 0, 2, api.ErrMany},
		{65536, 0, 0, 65536, api.ErrMany},
		{32768, 2, 2, 3, api.ErrMany},
		{65536, 0, 1, 2, api.ErrSize},
		{2, 2, 1, 65536, api.ErrSize},
		{65536, 1, 0, 65536, api.ErrSize},
	} {
		product, e := of(t, l.width, somes(1, l.height, l.width)...).Mul(of(t, l.wide, somes(2, l.other, l.wide)...))
		refuses(t, "a product", product, e, l.wanted)
	}
	product, e := of(t, 1, []byte{1}).Mul(grid.Grid{})
	refuses(t, "by the zero grid", product, e, api.ErrSize)
	product, e = grid.Grid{}.Mul(grid.Grid{})
	refuses(t, "the zero grid by itself", product, e, api.OK)
}

func TestInverse(t *testing.T) {
	for a := 1; a < 256; a++ {
		inverse, e := of(t, 1, []byte{byte(a)}).Inverse()
		wanted, _ := field.Inv(byte(a))
		isGrid(t, "of one byte", inverse, 1, [][]byte{{wanted}})
		is(t, "of one byte: error", e, api.OK)
	}
	for _, n := range []int{2, 3, 5, 20, 60} {
		for start := range 5 {
			inverts(t, of(t, n, ofRank(start, n, n, n)...))
		}
	}
	inverts(t, of(t, 2, []byte{1, 2}, []byte{2, 5}))
	inverts(t, of(t, 2, []byte{0, 7}, []byte{9, 0}))
	inverts(t, of(t, 3, []byte{0, 0, 3}, []byte{5, 0, 0}, []byte{0, 1, 0}))
	inverts(t, of(t, 256, ofRank(11, 256, 256, 256)...))
}

// inverts fails the test where the products of a grid and its inverse, and the inverse's own inverse, aren't what they should be.
func inverts(t *testing.T, g grid.Grid) {
	t.Helper()
	n := g.Width()
	inverse, e := g.Inverse()
	wanted := unit(t, n).Rows()
	is(t, "error", e, api.OK)
	isGrid(t, "a grid by its inverse", of(t, n, times(g.Rows(), n, inverse.Rows())...), n, wanted)
	isGrid(t, "an inverse by its grid", of(t, n, times(inverse.Rows(), n, g.Rows())...), n, wanted)
	again, e := inverse.Inverse()
	is(t, "an inverse's inverse: error", e, api.OK)
	is(t, "an inverse's inverse", grid.Same(again, g), true)
}

func TestInverseOfUnits(t *testing.T) {
	for _, n := range []int{0, 1, 2, 20, 256} {
		inverse, e := unit(t, n).Inverse()
		is(t, "of a unit", grid.Same(inverse, unit(t, n)), true)
		is(t, "of a unit: error", e, api.OK)
	}
	inverse, e := grid.Grid{}.Inverse()
	refuses(t, "of the zero grid", inverse, e, api.OK)
}

func TestInverseRefused(t *testing.T) {
	for _, s := range [][2]int{{0, 1}, {1, 0}, {1, 2}, {2, 1}, {2, 3}, {3, 2}, {30, 20}, {0, 65536}, {65536, 0}, {65536, 1}} {
		inverse, e := of(t, s[1], somes(1, s[0], s[1])...).Inverse()
		refuses(t, "not as wide as high", inverse, e, api.ErrSize)
		inverse, e = of(t, s[1], slices.Repeat([][]byte{make([]byte, s[1])}, s[0])...).Inverse()
		refuses(t, "noughts, not as wide as high", inverse, e, api.ErrSize)
	}
	for _, n := range []int{1, 2, 3, 5, 20} {
		for rank := range n {
			inverse, e := of(t, n, ofRank(rank, n, n, rank)...).Inverse()
			refuses(t, "of a lesser rank", inverse, e, api.ErrRank)
		}
	}
	inverse, e := of(t, 2, []byte{1, 2}, []byte{2, 4}).Inverse()
	refuses(t, "of 1 2 and 2 4", inverse, e, api.ErrRank)
	inverse, e = of(t, 2, []byte{0, 1}, []byte{0, 2}).Inverse()
	refuses(t, "without a first column", inverse, e, api.ErrRank)
}

// Memory, for P7.1 and P7.2

// calls are all calls that answer grids, each handed a grid of three rows of three bytes, of rank 3, and those rows.
func calls() map[string]func(g grid.Grid, rows [][]byte) grid.Grid {
	return map[string]func(g grid.Grid, rows [][]byte) grid.Grid{
		"Of":      func(g grid.Grid, rows [][]byte) grid.Grid { l, _ := grid.Of(3, rows...); return l },
		"Of one":  func(g grid.Grid, rows [][]byte) grid.Grid { l, _ := grid.Of(3, rows[0], rows[0], rows[0]); return l },
		"Unit":    func(g grid.Grid, rows [][]byte) grid.Grid { l, _ := grid.Unit(3); return l },
		"Turned":  func(g grid.Grid, rows [][]byte) grid.Grid { return g.Turned() },
		"Mul":     func(g grid.Grid, rows [][]byte) grid.Grid { l, _ := g.Mul(g); return l },
		"Mul 1":   func(g grid.Grid, rows [][]byte) grid.Grid { u, _ := grid.Unit(3); l, _ := u.Mul(g); return l },
		"Inverse": func(g grid.Grid, rows [][]byte) grid.Grid { l, _ := g.Inverse(); return l },
		"Inverse 1": func(g grid.Grid, rows [][]byte) grid.Grid {
			u, _ := grid.Unit(3)
			l, _ := u.Inverse()
			return l
		},
		"itself": func(g grid.Grid, rows [][]byte) grid.Grid { return g },
	}
}

// roomy is three rows of three bytes that lie in one piece of memory: each is the spare room of the one ahead.
func roomy() (rows [][]byte, memory []byte) {
	memory = []byte{2, 4, 6, 0, 1, 7, 0, 0, 1, 88, 99, 111}
	return [][]byte{memory[:3], memory[3:6], memory[6:9]}, memory
}

// fill writes all of a list's room.
func fill(l []byte, b byte) {
	l = l[:cap(l)]
	for i := range l {
		l[i] = b
	}
}

func TestWhatIsHandedInStays(t *testing.T) {
	_, wanted := roomy()
	for name, call := range calls() {
		rows, memory := roomy()
		g := of(t, 3, rows...)
		call(g, rows)
		g.Rank()
		grid.Same(g, g)
		g.Mul(grid.Grid{})
		grid.Of(3, rows[0], rows[1][:2])
		if !bytes.Equal(memory, wanted) {
			t.Errorf("%s changed what was handed in: %v", name, memory)
		}
		for i, row := range rows {
			if len(row) != 3 || &row[0] != &memory[3*i] {
				t.Errorf("%s changed the list of rows", name)
			}
		}
		isGrid(t, "a grid behind "+name, g, 3, [][]byte{wanted[:3], wanted[3:6], wanted[6:9]})
	}
}

func TestAnswersShareNoMemory(t *testing.T) {
	_, wanted := roomy()
	for name, call := range calls() {
		rows, memory := roomy()
		g := of(t, 3, rows...)
		answer := call(g, rows)
		kept := answer.Rows()
		handed := answer.Rows()
		for i, row := range handed {
			fill(row, 77)
			if i < 2 && !bytes.Equal(handed[i+1], kept[i+1]) {
				t.Errorf("rows of %s share memory", name)
			}
			handed[i] = nil
		}
		isGrid(t, "an answer whose rows were changed, of "+name, answer, 3, kept)
		isGrid(t, "a grid whose answer's rows were changed, by "+name, g, 3, [][]byte{wanted[:3], wanted[3:6], wanted[6:9]})
		if !bytes.Equal(memory, wanted) {
			t.Errorf("an answer of %s shares memory with what was handed in", name)
		}
		fill(memory, 66)
		rows[0] = nil
		isGrid(t, "an answer behind what was handed in was changed, of "+name, answer, 3, kept)
	}
}

// P7.3

func TestRankOfTurned(t *testing.T) {
	for _, s := range append(shapes(), [2]int{50, 30}, [2]int{30, 50}) {
		for rank := range min(s[0], s[1]) + 1 {
			for _, rows := range [][][]byte{ofRank(rank, s[0], s[1], rank), somes(rank, s[0], s[1])} {
				g := of(t, s[1], rows...)
				is(t, "turned", g.Turned().Rank(), g.Rank())
			}
		}
	}
}

func TestRankOfProducts(t *testing.T) {
	for _, s := range [][3]int{{3, 3, 3}, {5, 2, 5}, {2, 5, 2}, {6, 4, 3}, {3, 4, 6}, {10, 10, 10}} {
		for rank := range min(s[0], s[1]) + 1 {
			for other := range min(s[1], s[2]) + 1 {
				a, b := of(t, s[1], ofRank(rank, s[0], s[1], rank)...), of(t, s[2], ofRank(other+50, s[1], s[2], other)...)
				product, e := a.Mul(b)
				is(t, "error", e, api.OK)
				if product.Rank() > min(rank, other) {
					t.Errorf("of ranks %d and %d: %d", rank, other, product.Rank())
				}
				if product.Rank() < rank+other-s[1] {
					t.Errorf("of ranks %d and %d, %d between: %d", rank, other, s[1], product.Rank())
				}
			}
		}
	}
}

func TestMultipliedAndBack(t *testing.T) {
	for _, n := range []int{1, 2, 5, 20} {
		g := of(t, n, ofRank(n, n, n, n)...)
		inverse, e := g.Inverse()
		is(t, "error", e, api.OK)
		for _, height := range []int{0, 1, 4, 30} {
			o := of(t, n, somes(height, height, n)...)
			product, _ := o.Mul(g)
			back, _ := product.Mul(inverse)
			is(t, "multiplied by a grid, and by its inverse", grid.Same(back, o), true)
			product, _ = o.Mul(inverse)
			back, _ = product.Mul(g)
			is(t, "multiplied by an inverse, and by its grid", grid.Same(back, o), true)
			product, _ = inverse.Mul(o.Turned())
			back, _ = g.Mul(product)
			is(t, "multiplied from the other side", grid.Same(back, o.Turned()), true)
		}
	}
}
