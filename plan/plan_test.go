package plan_test

import (
	"math"
	"strconv"
	"strings"
	"testing"

	"wellspring/api"
	"wellspring/plan"
)

// is fails the test where something isn't what was wanted.
func is[T comparable](t *testing.T, what string, got, wanted T) {
	t.Helper()
	if got != wanted {
		t.Errorf("%s: %v, wanted %v", what, got, wanted)
	}
}

// refuses fails the test where a plan may be, or isn't refused with this error, or is told anything of.
func refuses(t *testing.T, p plan.Plan, wanted api.Errno) {
	t.Helper()
	if e := p.Check(); e != wanted {
		t.Errorf("%+v: Check: %d, wanted %d", p, e, wanted)
	}
	if text, pad, room := p.Text(), p.Pad(), p.Room(); text != "" || pad != 0 || room != 0 {
		t.Errorf("%+v: text %q, pad %d, room %d; wanted none", p, text, pad, room)
	}
}

// counted is how many symbols of that size so many bytes need, symbol by symbol.
func counted(length, size int) int {
	n := 1
	for room := size; room < length; room += size {
		n++
	}
	return n
}

// edges are lengths, sizes, and how many symbols these need, of plans that may be.
func edges() [][3]int {
	return [][3]int{
		{0, 1, 1}, {0, 2, 1}, {0, 65535, 1}, {1, 1, 1}, {1, 65535, 1}, {2, 1, 2}, {5, 2, 3}, {6, 2, 3}, {7, 2, 4},
		{65534, 65535, 1}, {65535, 65535, 1}, {65536, 65535, 2}, {65535, 65534, 2},
		{4095, 1, 4095}, {4096, 1, 4096}, {8191, 2, 4096}, {8192, 2, 4096},
		{4095 * 65535, 65535, 4095}, {4095*65535 + 1, 65535, 4096}, {4096*65535 - 1, 65535, 4096}, {4096 * 65535, 65535, 4096},
	}
}

// P10.1

func TestCheck(t *testing.T) {
	for _, l := range edges() {
		for _, id := range []uint32{0, 1, 7, math.MaxUint32} {
			p := plan.Plan{Length: l[0], Size: l[1], Symbols: l[2], ID: id}
			is(t, "of one that may be", p.Check(), api.OK)
			for _, more := range []int{1, -1, 2, -2, -l[2], math.MaxInt - l[2], math.MinInt} {
				other := p
				other.Symbols += more
				refuses(t, other, api.ErrForm)
			}
		}
	}
}

func TestCheckOfOthers(t *testing.T) {
	for _, symbols := range []int{0, 1, 3, 4096, 4097, -1, math.MaxInt, math.MinInt} {
		for _, size := range []int{2, 1, 65535, 0, -1, 65536, math.MaxInt, math.MinInt} {
			for _, length := range []int{-1, -2, -65536, math.MinInt} {
				refuses(t, plan.Plan{Length: length, Size: size, Symbols: symbols}, api.ErrRange)
			}
		}
		for _, size := range []int{0, -1, -2, 65536, 65537, math.MaxInt, math.MinInt} {
			for _, length := range []int{0, 1, 5, 4096, 1 << 30, math.MaxInt} {
				refuses(t, plan.Plan{Length: length, Size: size, Symbols: symbols, ID: 7}, api.ErrSize)
			}
		}
		for _, l := range tooMany() {
			refuses(t, plan.Plan{Length: l[0], Size: l[1], Symbols: symbols, ID: 7}, api.ErrMany)
		}
	}
	for _, l := range tooMany() {
		refuses(t, plan.Plan{Length: l[0], Size: l[1], Symbols: l[0]/l[1] + 1}, api.ErrMany)
	}
	refuses(t, plan.Plan{}, api.ErrSize)
	refuses(t, plan.Plan{Size: 1}, api.ErrForm)
	refuses(t, plan.Plan{Length: 5, Size: 2, Symbols: 4}, api.ErrForm)
	refuses(t, plan.Plan{Length: 5, Size: 2, Symbols: 2}, api.ErrForm)
	refuses(t, plan.Plan{Length: 0, Size: 2, Symbols: 0}, api.ErrForm)
}

// tooMany are lengths, and sizes, that need more symbols than a plan may have.
func tooMany() [][2]int {
	return [][2]int{
		{4097, 1}, {8193, 2}, {4096*65535 + 1, 65535}, {4097 * 65535, 65535}, {1 << 30, 2},
		{math.MaxInt, 1}, {math.MaxInt, 2}, {math.MaxInt, 65535}, {math.MaxInt - 65534, 65535},
	}
}

func TestOf(t *testing.T) {
	for _, l := range edges() {
		for _, id := range []uint32{0, 7, math.MaxUint32} {
			p, e := plan.Of(l[0], l[1], id)
			is(t, "error", e, api.OK)
			is(t, "the plan", p, plan.Plan{Length: l[0], Size: l[1], Symbols: l[2], ID: id})
		}
	}
	for length := range 300 {
		for size := 1; size < 40; size++ {
			p, e := plan.Of(length, size, 9)
			is(t, "error", e, api.OK)
			is(t, "the plan", p, plan.Plan{Length: length, Size: size, Symbols: counted(length, size), ID: 9})
			is(t, "its check", p.Check(), api.OK)
		}
	}
}

func TestOfOthers(t *testing.T) {
	fails := func(length, size int, wanted api.Errno) {
		t.Helper()
		if p, e := plan.Of(length, size, 7); p != (plan.Plan{}) || e != wanted {
			t.Errorf("Of(%d, %d): %+v, error %d; wanted the zero one, error %d", length, size, p, e, wanted)
		}
	}
	for _, size := range []int{1, 2, 65535, 0, -1, 65536, math.MaxInt, math.MinInt} {
		for _, length := range []int{-1, -5, -65536, math.MinInt} {
			fails(length, size, api.ErrRange)
		}
	}
	for _, size := range []int{0, -1, -2, 65536, 65537, math.MaxInt, math.MinInt} {
		for _, length := range []int{0, 1, 5, 4097, math.MaxInt} {
			fails(length, size, api.ErrSize)
		}
	}
	for _, l := range tooMany() {
		fails(l[0], l[1], api.ErrMany)
	}
}

// P10.2

func TestText(t *testing.T) {
	for text, p := range map[string]plan.Plan{
		"object 7 5 2 3":                         {Length: 5, Size: 2, Symbols: 3, ID: 7},
		"object 0 0 1 1":                         {Length: 0, Size: 1, Symbols: 1, ID: 0},
		"object 4294967295 268431360 65535 4096": {Length: 268431360, Size: 65535, Symbols: 4096, ID: math.MaxUint32},
		"object 100 4096 1 4096":                 {Length: 4096, Size: 1, Symbols: 4096, ID: 100},
		"object 2147483648 10 10 1":              {Length: 10, Size: 10, Symbols: 1, ID: 1 << 31},
	} {
		is(t, "text", p.Text(), text)
		q, e := plan.Parse(text)
		is(t, "parsed", q, p)
		is(t, "parsed: error", e, api.OK)
	}
}

// fails fails the test where a text isn't refused with this error.
func fails(t *testing.T, text string, wanted api.Errno) {
	t.Helper()
	if p, e := plan.Parse(text); p != (plan.Plan{}) || e != wanted {
		t.Errorf("Parse(%.60q): %+v, error %d; wanted the zero one, error %d", text, p, e, wanted)
	}
}

func TestParseOfWhatIsBuiltOtherwise(t *testing.T) {
	for _, text := range []string{
		"", " ", "    ", "object", "object ", "object 7", "object 7 5 2", "object 7 5 2 ", "object 7 5 2 3 ", "object 7 5 2 3 4",
		" object 7 5 2 3", "object  7 5 2 3", "object 7  5 2 3", "object 7 5 2  3", "object 7 5 2 3\n", "object 7 5 2 3\x00",
		"object\t7 5 2 3", "object 7\t5 2 3", "object\n7 5 2 3", "object7 5 2 3", "7 5 2 3", "7 5 2 3 object",
		"Object 7 5 2 3", "OBJECT 7 5 2 3", "objects 7 5 2 3", "objec 7 5 2 3", "plan 7 5 2 3", " 7 5 2 3", "\uFEFFobject 7 5 2 3",
		"object 7,5,2,3", "object 7 5 2 3 object 7 5 2 3", "object - 5 2 3",
		"object a 5 2 3", "object 7 5 2 x", "object 0x7 5 2 3", "object 7h 5 2 3", "object 7 5.0 2 3", "object 7 5 2 3e0",
		"object 7 5_0 2 25", "object 7 5 2 \u0663", "object \uFF17 5 2 3", "object 7 5 2\u00A03", "object 7 5 0b10 3", "object 7 5 2 0o3",
	} {
		fails(t, text, api.ErrForm)
	}
}

// TestParseOfOtherNumbers, at each place.
func TestParseOfOtherNumbers(t *testing.T) {
	for i := range 4 {
		for _, number := range []string{
			"", "00", "01", "07", "007", "0000000000000000000000001", "-0", "-1", "-5", "+0", "+7", "+5", "4294967296", "4294967303",
			"9223372036854775807", "9223372036854775808", "18446744073709551615", "18446744073709551616", "18446744073709551623",
			"-9223372036854775808", "340282366920938463463374607431768211461", strings.Repeat("9", 5000), strings.Repeat("0", 5000),
		} {
			parts := []string{"7", "5", "2", "3"}
			parts[i] = number
			fails(t, "object "+strings.Join(parts, " "), api.ErrForm)
		}
		for _, number := range []string{"2147483648", "2147483653", "4294967295"} {
			parts := []string{"7", "5", "2", "3"}
			parts[i] = number
			text := "object " + strings.Join(parts, " ")
			if i > 0 { // the ID alone may be from 2^31 on
				fails(t, text, api.ErrForm)
				continue
			}
			p, e := plan.Parse(text)
			is(t, "error", e, api.OK)
			is(t, "ID", strconv.FormatUint(uint64(p.ID), 10), number)
		}
	}
}

func TestParseOfPlansThatMayNotBe(t *testing.T) {
	for text, wanted := range map[string]api.Errno{
		"object 7 5 0 3":                   api.ErrSize,
		"object 7 0 0 0":                   api.ErrSize,
		"object 7 5 65536 1":               api.ErrSize,
		"object 7 5 2147483647 1":          api.ErrSize,
		"object 7 2147483647 0 2147483647": api.ErrSize,
		"object 7 4097 1 4097":             api.ErrMany,
		"object 7 4097 1 4096":             api.ErrMany,
		"object 7 2147483647 65535 32769":  api.ErrMany,
		"object 7 268431361 65535 4097":    api.ErrMany,
		"object 7 5 2 4":                   api.ErrForm,
		"object 7 5 2 2":                   api.ErrForm,
		"object 7 0 2 0":                   api.ErrForm,
		"object 7 5 2 0":                   api.ErrForm,
		"object 7 5 2 2147483647":          api.ErrForm,
		"object 7 5 0 03":                  api.ErrForm,
		"object 7 5 0 2147483648":          api.ErrForm,
		"object 07 4097 1 4097":            api.ErrForm,
		"object 4294967296 5 0 3":          api.ErrForm,
	} {
		fails(t, text, wanted)
	}
}

func TestPadAndRoom(t *testing.T) {
	for _, l := range [][4]int{
		{5, 2, 1, 6}, {6, 2, 0, 6}, {7, 2, 1, 8}, {0, 2, 2, 2}, {0, 1, 1, 1}, {0, 65535, 65535, 65535}, {1, 65535, 65534, 65535},
		{65535, 65535, 0, 65535}, {65536, 65535, 65534, 131070}, {4096, 1, 0, 4096}, {8191, 2, 1, 8192},
		{4096 * 65535, 65535, 0, 268431360}, {4095*65535 + 1, 65535, 65534, 268431360},
	} {
		p, e := plan.Of(l[0], l[1], 7)
		is(t, "error", e, api.OK)
		is(t, "pad", p.Pad(), l[2])
		is(t, "room", p.Room(), l[3])
	}
}

// P10.3

// TestWhatIsWrittenIsRead, and nothing else is: of each plan one text alone is built so.
func TestWhatIsWrittenIsRead(t *testing.T) {
	for length := range 120 {
		for _, size := range []int{1, 2, 3, 7, 10, 64, 119, 65535} {
			for _, id := range []uint32{0, 10, 99, 1 << 31, math.MaxUint32} {
				p, e := plan.Of(length, size, id)
				is(t, "error", e, api.OK)
				q, e := plan.Parse(p.Text())
				is(t, "read: error", e, api.OK)
				is(t, "read", q, p)
				is(t, "written again", q.Text(), p.Text())
			}
		}
	}
	for _, l := range edges() {
		p, _ := plan.Of(l[0], l[1], 12345)
		q, e := plan.Parse(p.Text())
		is(t, "of an edge: error", e, api.OK)
		is(t, "of an edge", q, p)
	}
}

// TestWhatIsReadWasWritten: a text with a byte put in, taken out, or changed is none, or that of the plan that is read of it.
func TestWhatIsReadWasWritten(t *testing.T) {
	read := 0
	for _, text := range []string{"object 7 5 2 3", "object 10 100 10 10", "object 0 0 1 1"} {
		for i := range len(text) + 1 {
			for b := range 256 {
				texts := []string{text[:i] + string([]byte{byte(b)}) + text[i:]}
				if i < len(text) {
					texts = append(texts, text[:i]+text[i+1:], text[:i]+string([]byte{byte(b)})+text[i+1:])
				}
				for _, other := range texts {
					p, e := plan.Parse(other)
					if e == api.OK {
						read++
						is(t, "what was read, written", p.Text(), other)
					} else {
						is(t, "what wasn't read", p, plan.Plan{})
					}
				}
			}
		}
	}
	if read < 20 {
		t.Errorf("%d texts were read: too few", read)
	}
}

func TestPadding(t *testing.T) {
	for length := range 400 {
		for size := 1; size < 50; size++ {
			p, e := plan.Of(length, size, 1)
			is(t, "error", e, api.OK)
			is(t, "room", p.Room(), p.Symbols*size)
			is(t, "length and pad", p.Length+p.Pad(), p.Room())
			if length == 0 {
				is(t, "pad of no bytes", p.Pad(), size)
			} else if p.Pad() < 0 || p.Pad() >= size {
				t.Errorf("%d bytes, by %d: pad %d", length, size, p.Pad())
			}
		}
	}
}

// TestPlansStay: a plan is a value, and what it is asked leaves it as it was.
func TestPlansStay(t *testing.T) {
	for _, p := range []plan.Plan{{Length: 5, Size: 2, Symbols: 3, ID: 7}, {Length: 5, Size: 2, Symbols: 4, ID: 7}, {Length: -1}} {
		kept := p
		first := p.Text()
		p.Check()
		p.Pad()
		p.Room()
		is(t, "the plan", p, kept)
		is(t, "its text", p.Text(), first)
	}
}
