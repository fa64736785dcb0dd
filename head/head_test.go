package head_test

import (
	"bytes"
	"encoding/binary"
	"math"
	"testing"

	"wellspring/api"
	"wellspring/head"
)

// is fails the test where something isn't what was wanted.
func is[T comparable](t *testing.T, what string, got, wanted T) {
	t.Helper()
	if got != wanted {
		t.Errorf("%s: %v, wanted %v", what, got, wanted)
	}
}

// numbers are those of the edges, of each bit alone, of each bit but one, and some of four unlike bytes.
func numbers() []uint32 {
	l := []uint32{0, 1, 7, 255, 256, 258, 65535, 65536, 0x01020304, 0xFFFEFDFC, math.MaxUint32 - 1, math.MaxUint32}
	for i := range 32 {
		l = append(l, 1<<i, ^uint32(1<<i))
	}
	return l
}

// heads are those of both modes, of all these numbers with each other.
func heads() []head.Head {
	var l []head.Head
	for _, mode := range []byte{head.Explicit, head.Seeded} {
		for _, object := range numbers() {
			for _, number := range numbers() {
				l = append(l, head.Head{Mode: mode, Object: object, Number: number})
			}
		}
	}
	return l
}

// byWords is how a head is written by the document's words.
func byWords(h head.Head) []byte {
	l := []byte{1, h.Mode}
	l = binary.LittleEndian.AppendUint32(l, h.Object)
	return binary.LittleEndian.AppendUint32(l, h.Number)
}

// behinds are what may lie behind a head.
func behinds() [][]byte {
	return [][]byte{nil, {}, {0}, {9}, {1, 1, 7, 0, 0, 0, 2, 1, 0, 0}, {5, 6, 7, 8}, bytes.Repeat([]byte{3}, 70000)}
}

// reads fails the test where bytes aren't read as this head, with that behind it.
func reads(t *testing.T, l []byte, wanted head.Head, behind []byte) {
	t.Helper()
	h, rest, e := head.Read(l)
	if h != wanted || !bytes.Equal(rest, behind) || e != api.OK {
		t.Errorf("Read(%.30v): %+v, %.30v, error %d; wanted %+v, %.30v", l, h, rest, e, wanted, behind)
	}
}

// refuses fails the test where bytes are read, or aren't refused with this error.
func refuses(t *testing.T, l []byte, wanted api.Errno) {
	t.Helper()
	h, rest, e := head.Read(l)
	if h != (head.Head{}) || len(rest) != 0 || e != wanted {
		t.Errorf("Read(%.30v): %+v, %.30v, error %d; wanted the zero one, none, error %d", l, h, rest, e, wanted)
	}
}

// fill overwrites a list, and its spare room.
func fill(l []byte) {
	l = l[:cap(l)]
	for i := range l {
		l[i] = 222
	}
}

// P13.1

func TestExample(t *testing.T) {
	l, e := head.Head{Mode: head.Seeded, Object: 7, Number: 258}.Bytes()
	is(t, "error", e, api.OK)
	is(t, "written", string(l), "\x01\x01\x07\x00\x00\x00\x02\x01\x00\x00")
	reads(t, l, head.Head{Mode: head.Seeded, Object: 7, Number: 258}, nil)
}

func TestModes(t *testing.T) {
	is(t, "Explicit", head.Explicit, 0)
	is(t, "Seeded", head.Seeded, 1)
	is(t, "as a byte", byte(head.Seeded), 1)
}

func TestCheck(t *testing.T) {
	for mode := range 256 {
		wanted := api.ErrMode
		if mode < 2 {
			wanted = api.OK
		}
		for _, n := range numbers() {
			is(t, "of a mode", head.Head{Mode: byte(mode), Object: n, Number: ^n}.Check(), wanted)
		}
	}
	is(t, "of the zero one", head.Head{}.Check(), api.OK)
}

func TestBytes(t *testing.T) {
	for _, h := range heads() {
		l, e := h.Bytes()
		is(t, "error", e, api.OK)
		is(t, "written", string(l), string(byWords(h)))
	}
	l, e := head.Head{}.Bytes()
	is(t, "of the zero one: error", e, api.OK)
	is(t, "of the zero one", string(l), "\x01\x00\x00\x00\x00\x00\x00\x00\x00\x00")
	l, e = head.Head{Mode: head.Explicit, Object: 0x01020304, Number: 0xA0B0C0D0}.Bytes()
	is(t, "of unlike bytes: error", e, api.OK)
	is(t, "of unlike bytes", string(l), "\x01\x00\x04\x03\x02\x01\xD0\xC0\xB0\xA0")
}

func TestBytesOfOtherModes(t *testing.T) {
	for mode := 2; mode < 256; mode++ {
		for _, n := range numbers() {
			l, e := head.Head{Mode: byte(mode), Object: n, Number: n}.Bytes()
			is(t, "error", e, api.ErrMode)
			is(t, "how many bytes", len(l), 0)
		}
	}
}

func TestRead(t *testing.T) {
	for _, h := range heads() {
		reads(t, byWords(h), h, nil)
	}
	reads(t, []byte{1, 0, 1, 2, 3, 4, 5, 6, 7, 8, 9}, head.Head{Mode: 0, Object: 0x04030201, Number: 0x08070605}, []byte{9})
	reads(t, []byte{1, 1, 255, 255, 255, 255, 255, 255, 255, 255}, head.Head{Mode: 1, Object: math.MaxUint32, Number: math.MaxUint32}, nil)
}

// TestReadOfFewBytes: that there are fewer than ten is told first, whatever they are, and whatever lies in the spare room.
func TestReadOfFewBytes(t *testing.T) {
	refuses(t, nil, api.ErrShort)
	good := byWords(head.Head{Mode: 1, Object: 7, Number: 258})
	for n := range 10 {
		for _, first := range []byte{1, 0, 2, 255} {
			for _, second := range []byte{0, 1, 2, 255} {
				l := bytes.Clone(good)
				l[0], l[1] = first, second
				refuses(t, l[:n], api.ErrShort)
				refuses(t, bytes.Clone(l[:n]), api.ErrShort)
			}
		}
	}
}

// TestReadOfOtherVersions: another version is told ahead of another mode.
func TestReadOfOtherVersions(t *testing.T) {
	for version := range 256 {
		if version == 1 {
			continue
		}
		for _, mode := range []byte{0, 1, 2, 255} {
			for _, behind := range behinds() {
				refuses(t, append([]byte{byte(version), mode, 1, 2, 3, 4, 5, 6, 7, 8}, behind...), api.ErrVersion)
			}
		}
	}
}

func TestReadOfOtherModes(t *testing.T) {
	for mode := 2; mode < 256; mode++ {
		for _, behind := range behinds() {
			refuses(t, append([]byte{1, byte(mode), 1, 2, 3, 4, 5, 6, 7, 8}, behind...), api.ErrMode)
		}
	}
}

// P13.2

func TestWhatIsWrittenIsRead(t *testing.T) {
	for i, h := range heads() {
		l, _ := h.Bytes()
		is(t, "how many bytes", len(l), 10)
		behind := behinds()[i%len(behinds())]
		reads(t, append(l, behind...), h, behind)
	}
	for _, h := range []head.Head{{}, {Mode: 1}, {Object: 1}, {Number: 1}, {Mode: 1, Object: math.MaxUint32, Number: math.MaxUint32}} {
		for _, behind := range behinds() {
			l, _ := h.Bytes()
			reads(t, append(l, behind...), h, behind)
		}
	}
}

// TestWhatIsReadIsJustThat: no other ten bytes are read as the same head.
func TestWhatIsReadIsJustThat(t *testing.T) {
	of := map[head.Head]string{}
	for at := range 10 {
		for b := range 256 {
			for _, start := range []string{"\x01\x01\x07\x00\x00\x00\x02\x01\x00\x00", "\x01\x00\xFF\xFE\xFD\xFC\x80\x40\x20\x10"} {
				l := []byte(start)
				l[at] = byte(b)
				h, rest, e := head.Read(append(l, 77, 78))
				if e != api.OK {
					is(t, "refused are other versions and modes alone", at < 2, true)
					continue
				}
				is(t, "behind", string(rest), "MN")
				again, e := h.Bytes()
				is(t, "written anew: error", e, api.OK)
				is(t, "written anew", string(again), string(l))
				is(t, "read from these alone", of[h] == "" || of[h] == string(l), true)
				of[h] = string(l)
			}
		}
	}
}

// Memory.

func TestHandedInStays(t *testing.T) {
	memory := append(byWords(head.Head{Mode: 1, Object: 7, Number: 258}), 1, 2, 3, 4, 5, 6)
	kept := bytes.Clone(memory)
	for n := range len(memory) {
		head.Read(memory[:n])
		is(t, "memory", string(memory), string(kept))
	}
	h := head.Head{Mode: 1, Object: 7, Number: 258}
	h.Check()
	h.Bytes()
	is(t, "the head", h, head.Head{Mode: 1, Object: 7, Number: 258})
}

// TestAnswersShareNothing: what is done with an answer, its spare room included, is seen in nothing else.
func TestAnswersShareNothing(t *testing.T) {
	h := head.Head{Mode: 1, Object: 7, Number: 258}
	for _, n := range []int{0, 1, 5} {
		memory := append(byWords(h), 1, 2, 3, 4, 5, 6)
		kept := bytes.Clone(memory)
		_, first, _ := head.Read(memory[:10+n])
		_, second, _ := head.Read(memory[:10+n])
		fill(first)
		is(t, "what was handed in", string(memory), string(kept))
		is(t, "the other answer", string(second), string(kept[10:10+n]))
		fill(memory)
		is(t, "behind a change of what was handed in", string(second), string(kept[10:10+n]))
	}
	first, _ := h.Bytes()
	second, _ := h.Bytes()
	fill(first)
	is(t, "the other one written", string(second), string(byWords(h)))
	third, _ := h.Bytes()
	is(t, "written later", string(third), string(byWords(h)))
}
