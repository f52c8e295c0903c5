package crc_test

import (
	"bytes"
	"go/parser"
	"go/token"
	"hash/crc32"
	"math"
	"math/bits"
	"path/filepath"
	"strings"
	"testing"

	"daguerre/crc"
)

// wantMore divides by the chapter's polynomial bit by bit, unturned: each byte's bits are turned on the way in, the rest's on the way out.
func wantMore(s uint32, b []byte) uint32 {
	rest := bits.Reverse32(^s)
	for _, x := range b {
		rest ^= uint32(bits.Reverse8(x)) << 24
		for range 8 {
			top := rest >> 31
			rest <<= 1
			if top == 1 {
				rest ^= 0x04c11db7
			}
		}
	}
	return ^bits.Reverse32(rest)
}

func checkSum(t *testing.T, b []byte) {
	t.Helper()
	got := crc.Sum(b)
	if want := wantMore(0, b); got != want {
		t.Fatalf("Sum of %d bytes, % .16x: %08x; the division leaves %08x", len(b), b, got, want)
	}
	if want := crc32.ChecksumIEEE(b); got != want {
		t.Fatalf("Sum of %d bytes, % .16x: %08x; hash/crc32 has %08x", len(b), b, got, want)
	}
}

func checkMore(t *testing.T, s uint32, b []byte) {
	t.Helper()
	got := crc.More(s, b)
	if want := wantMore(s, b); got != want {
		t.Fatalf("More(%08x, %d bytes, % .16x) = %08x; the division leaves %08x", s, len(b), b, got, want)
	}
	if want := crc32.Update(s, crc32.IEEETable, b); got != want {
		t.Fatalf("More(%08x, %d bytes, % .16x) = %08x; hash/crc32 has %08x", s, len(b), b, got, want)
	}
}

// longText has every byte, in an order that does not come round within its length.
func longText(size int) []byte {
	b := make([]byte, size)
	x := uint32(1)
	for i := range b {
		x = x*1664525 + 1013904223
		b[i] = byte(x >> 24)
	}
	return b
}

func TestSumWritten(t *testing.T) {
	for _, c := range []struct {
		text string
		want uint32
	}{
		{"", 0},
		{"\x00", 0xd202ef8d},
		{"\x01", 0xa505df1b},
		{"\x80", 0x3fba6cad},
		{"\xff", 0xff000000},
		{"a", 0xe8b7be43},
		{"abc", 0x352441c2},
		{"123456789", 0xcbf43926},
		{"The quick brown fox jumps over the lazy dog", 0x414fa339},
		{strings.Repeat("\x00", 4), 0x2144df1c},
		{strings.Repeat("\xff", 4), 0xffffffff},
		{strings.Repeat("\x00", 32), 0x190a55ad},
		{strings.Repeat("\xff", 32), 0xff6cab0b},
	} {
		if got := crc.Sum([]byte(c.text)); got != c.want {
			t.Errorf("Sum(%q) = %08x; want %08x", c.text, got, c.want)
		}
	}
}

func TestSumOfEachByteAndPair(t *testing.T) {
	for x := range 256 {
		checkSum(t, []byte{byte(x)})
		for y := range 256 {
			checkSum(t, []byte{byte(x), byte(y)})
		}
	}
}

func TestSumOfEachLength(t *testing.T) {
	text := longText(600)
	for size := range len(text) + 1 {
		checkSum(t, text[:size])
		checkSum(t, text[len(text)-size:])
		checkSum(t, make([]byte, size))
		checkSum(t, bytes.Repeat([]byte{0xff}, size))
	}
}

func TestSumOfLongTexts(t *testing.T) {
	for _, size := range []int{4095, 4096, 4097, 65535, 65536, 65537, 1<<20 - 1, 1 << 20, 1<<20 + 1, 3_000_001} {
		checkSum(t, longText(size))
		checkSum(t, make([]byte, size))
	}
}

// A bit that is turned over anywhere is seen in the sum.
func TestSumHangsOnEachBit(t *testing.T) {
	text := longText(300)
	whole := crc.Sum(text)
	for i := range text {
		for bit := range 8 {
			text[i] ^= 1 << bit
			if crc.Sum(text) == whole {
				t.Errorf("the sum stays when bit %d of byte %d is turned over", bit, i)
			}
			checkSum(t, text)
			text[i] ^= 1 << bit
		}
	}
}

func TestMoreInTwoPieces(t *testing.T) {
	for _, text := range [][]byte{[]byte("123456789"), longText(700), make([]byte, 100), bytes.Repeat([]byte{0xff}, 100)} {
		whole := wantMore(0, text)
		for cut := range len(text) + 1 {
			if got := crc.More(crc.Sum(text[:cut]), text[cut:]); got != whole {
				t.Errorf("%d bytes cut at %d: %08x; want %08x", len(text), cut, got, whole)
			}
		}
	}
}

func TestMoreInManyPieces(t *testing.T) {
	text := longText(2000)
	for piece := 1; piece < 40; piece++ {
		s := crc.Sum(nil)
		for from := 0; from < len(text); from += piece {
			to := min(from+piece, len(text))
			s = crc.More(s, text[from:from])
			s = crc.More(s, text[from:to])
			s = crc.More(s, nil)
			if want := wantMore(0, text[:to]); s != want {
				t.Fatalf("pieces of %d, up to %d: %08x; want %08x", piece, to, s, want)
			}
		}
	}
}

// edgeSums are sums of some text each: four bytes reach every one of them.
func edgeSums() []uint32 {
	list := []uint32{0, math.MaxUint32, 0xcbf43926, 0xedb88320, 0x04c11db7, 0x0f0f0f0f, 0xf0f0f0f0}
	for shift := range 32 {
		list = append(list, 1<<shift, ^uint32(0)<<shift, ^(1 << shift))
	}
	return list
}

func TestMoreOfAnySum(t *testing.T) {
	text := longText(64)
	for _, s := range edgeSums() {
		for x := range 256 {
			checkMore(t, s, []byte{byte(x)})
		}
		for size := range len(text) + 1 {
			checkMore(t, s, text[:size])
		}
	}
}

func TestMoreOfNoBytesIsTheSumItself(t *testing.T) {
	for _, s := range edgeSums() {
		if got := crc.More(s, nil); got != s {
			t.Errorf("More(%08x, nil) = %08x", s, got)
		}
		if got := crc.More(s, []byte{}); got != s {
			t.Errorf("More(%08x, empty) = %08x", s, got)
		}
	}
}

func TestNilIsEmpty(t *testing.T) {
	if got := crc.Sum(nil); got != 0 {
		t.Errorf("Sum(nil) = %08x; want 0", got)
	}
	if got := crc.Sum([]byte{}); got != 0 {
		t.Errorf("Sum(empty) = %08x; want 0", got)
	}
}

func TestArgumentAndItsSpareRoomStay(t *testing.T) {
	room := longText(400)
	before := bytes.Clone(room)
	for size := range len(room) + 1 {
		crc.Sum(room[:size])
		crc.More(0xcbf43926, room[:size])
		if !bytes.Equal(room, before) {
			t.Fatalf("a sum of %d bytes changed its argument", size)
		}
	}
}

func TestSpareRoomIsNotRead(t *testing.T) {
	text := longText(40)
	for size := range len(text) + 1 {
		cut := bytes.Clone(text[:size])
		if crc.Sum(text[:size]) != crc.Sum(cut) || crc.More(7, text[:size]) != crc.More(7, cut) {
			t.Errorf("what stands behind %d bytes changes their sum", size)
		}
	}
}

// What was summed before, or is written over afterwards, is not seen in a later sum.
func TestNothingIsKept(t *testing.T) {
	b := []byte("123456789")
	first := crc.Sum(b)
	crc.More(first, longText(1000))
	copy(b, "987654321")
	if got := crc.Sum(b); got != wantMore(0, []byte("987654321")) {
		t.Errorf("Sum of bytes that were written over = %08x", got)
	}
	copy(b, "123456789")
	if again := crc.Sum(b); again != first || again != 0xcbf43926 {
		t.Errorf("Sum = %08x, then %08x; want cbf43926", first, again)
	}
}

// The chapter says that hash/crc32 is not to be used.
func TestNoHashPackageIsUsed(t *testing.T) {
	files, err := filepath.Glob("*.go")
	if err != nil {
		t.Fatal(err)
	}
	for _, name := range files {
		if strings.HasSuffix(name, "_test.go") {
			continue
		}
		tree, err := parser.ParseFile(token.NewFileSet(), name, nil, parser.ImportsOnly)
		if err != nil {
			t.Fatal(err)
		}
		for _, spec := range tree.Imports {
			if strings.HasPrefix(strings.Trim(spec.Path.Value, "\"`"), "hash") {
				t.Errorf("%s imports %s", name, spec.Path.Value)
			}
		}
	}
}

func FuzzMore(f *testing.F) {
	f.Add(uint32(0), []byte("123456789"), 4)
	f.Add(uint32(math.MaxUint32), []byte{0, 0xff, 0x80}, 0)
	f.Add(uint32(0xedb88320), []byte(nil), -1)
	f.Fuzz(func(t *testing.T, s uint32, b []byte, cut int) {
		checkSum(t, b)
		checkMore(t, s, b)
		cut = max(0, min(cut, len(b)))
		if crc.More(crc.More(s, b[:cut]), b[cut:]) != crc.More(s, b) {
			t.Fatalf("More(%08x, % x) hangs on the cut at %d", s, b, cut)
		}
	})
}
