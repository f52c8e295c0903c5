package num_test

import (
	"bytes"
	"math"
	"math/big"
	"strings"
	"testing"

	"daguerre/api"
	"daguerre/num"
)

const maxText = 1 << 20

// wantPut follows the chapter's words in numbers that have no bounds.
func wantPut(n int64) []byte {
	u := new(big.Int).Mul(big.NewInt(n), big.NewInt(2))
	if n < 0 {
		u.Neg(u).Sub(u, big.NewInt(1))
	}
	var out []byte
	for {
		digit := new(big.Int)
		u.DivMod(u, big.NewInt(128), digit)
		if u.Sign() == 0 {
			return append(out, byte(digit.Int64()))
		}
		out = append(out, byte(digit.Int64())+128)
	}
}

// wantGet follows the chapter's words in numbers that have no bounds.
func wantGet(b []byte) (int64, int, api.Errno) {
	if len(b) > 9 && b[9] > 1 && allAtLeast128(b[:9]) {
		return 0, 0, api.ErrForm
	}
	size := 1 + len(b)
	for i, x := range b {
		if x < 128 {
			size = i + 1
			break
		}
	}
	if size > len(b) {
		return 0, 0, api.ErrMore
	}
	u := new(big.Int)
	for i := size - 1; i >= 0; i-- {
		u.Mul(u, big.NewInt(128)).Add(u, big.NewInt(int64(b[i]%128)))
	}
	half, odd := new(big.Int).DivMod(u, big.NewInt(2), new(big.Int))
	if odd.Sign() != 0 {
		half.Neg(half).Sub(half, big.NewInt(1))
	}
	if !half.IsInt64() || !bytes.Equal(wantPut(half.Int64()), b[:size]) {
		return 0, 0, api.ErrForm
	}
	return half.Int64(), size, api.OK
}

func allAtLeast128(b []byte) bool {
	for _, x := range b {
		if x < 128 {
			return false
		}
	}
	return true
}

// edgeNumbers stand at and beside each place where a number takes a byte more.
func edgeNumbers() []int64 {
	list := []int64{0, math.MinInt64, math.MinInt64 + 1, math.MaxInt64, math.MaxInt64 - 1}
	for shift := range 63 {
		p := int64(1) << shift
		list = append(list, p-1, p, p+1, -p-1, -p, -p+1)
	}
	for n := int64(-20000); n <= 20000; n++ {
		list = append(list, n)
	}
	return list
}

func checkGet(t *testing.T, b []byte) {
	t.Helper()
	before := bytes.Clone(b)
	n, k, err := num.Get(b)
	wn, wk, werr := wantGet(b)
	if n != wn || k != wk || err != werr {
		t.Fatalf("Get(% x) = %d, %d, %d; want %d, %d, %d", b, n, k, err, wn, wk, werr)
	}
	if !bytes.Equal(b, before) {
		t.Fatalf("Get(% x) changed its argument", before)
	}
}

func TestPutWritten(t *testing.T) {
	for _, c := range []struct {
		n    int64
		want string
	}{
		{0, "\x00"},
		{-1, "\x01"},
		{1, "\x02"},
		{63, "\x7e"},
		{-64, "\x7f"},
		{64, "\x80\x01"},
		{-65, "\x81\x01"},
		{300, "\xd8\x04"},
		{8191, "\xfe\x7f"},
		{-8192, "\xff\x7f"},
		{8192, "\x80\x80\x01"},
		{math.MaxInt64, "\xfe\xff\xff\xff\xff\xff\xff\xff\xff\x01"},
		{math.MinInt64, "\xff\xff\xff\xff\xff\xff\xff\xff\xff\x01"},
	} {
		if got := num.Put(nil, c.n); string(got) != c.want {
			t.Errorf("Put(nil, %d) = % x; want % x", c.n, got, c.want)
		}
	}
}

func TestPutAndGetAtEdges(t *testing.T) {
	for _, n := range edgeNumbers() {
		want := wantPut(n)
		got := num.Put([]byte("ahead"), n)
		if string(got) != "ahead"+string(want) {
			t.Fatalf("Put(ahead, %d) = % x; want % x behind it", n, got, want)
		}
		for _, tail := range []string{"", "\x00", "\x80", "\xff\xff", strings.Repeat("\xff", 20)} {
			b := append(bytes.Clone(want), tail...)
			if x, k, err := num.Get(b); x != n || k != len(want) || err != api.OK {
				t.Fatalf("Get(% x) = %d, %d, %d; want %d, %d", b, x, k, err, n, len(want))
			}
		}
		for k := range want {
			if x, m, err := num.Get(want[:k]); x != 0 || m != 0 || err != api.ErrMore {
				t.Fatalf("Get(% x) = %d, %d, %d; want ErrMore", want[:k], x, m, err)
			}
		}
	}
}

func TestGetRefuses(t *testing.T) {
	nine := strings.Repeat("\x80", 9)
	full := strings.Repeat("\xff", 9)
	for _, c := range []struct {
		b    string
		want api.Errno
	}{
		{"", api.ErrMore},
		{"\x80", api.ErrMore},
		{nine, api.ErrMore},
		{full, api.ErrMore},
		{"\x80\x00", api.ErrForm},
		{"\x81\x00", api.ErrForm},
		{"\xff\x00", api.ErrForm},
		{"\xff\x80\x00", api.ErrForm},
		{"\x80\x00\x01", api.ErrForm},
		{nine + "\x00", api.ErrForm},
		{full + "\x00", api.ErrForm},
		{nine + "\x02", api.ErrForm},
		{full + "\x02", api.ErrForm},
		{full + "\x7f", api.ErrForm},
		{nine + "\x80", api.ErrForm},
		{full + "\x81", api.ErrForm},
		{full + "\xff", api.ErrForm},
		{nine + "\x80\x01", api.ErrForm},
		{nine + "\x80\x00", api.ErrForm},
		{strings.Repeat("\xff", 1<<16), api.ErrForm},
	} {
		for _, b := range [][]byte{[]byte(c.b), append(make([]byte, 0, 1<<17), c.b...)} {
			if n, k, err := num.Get(b); n != 0 || k != 0 || err != c.want {
				t.Errorf("Get of %d bytes, % .12x: %d, %d, %d; want 0, 0, %d", len(b), b, n, k, err, c.want)
			}
		}
	}
	if n, k, err := num.Get(nil); n != 0 || k != 0 || err != api.ErrMore {
		t.Errorf("Get(nil) = %d, %d, %d; want ErrMore", n, k, err)
	}
}

func TestGetOfAnyShortBytes(t *testing.T) {
	for x := range 256 {
		checkGet(t, []byte{byte(x)})
		for y := range 256 {
			checkGet(t, []byte{byte(x), byte(y)})
		}
	}
}

func TestGetOfAnyLongBytes(t *testing.T) {
	digits := []byte{0x00, 0x01, 0x02, 0x7f, 0x80, 0x81, 0xff}
	for ahead := range 12 {
		for _, fill := range []byte{0x80, 0x95, 0xff} {
			for code := range 7 * 7 * 7 {
				b := bytes.Repeat([]byte{fill}, ahead)
				b = append(b, digits[code%7], digits[code/7%7], digits[code/49])
				checkGet(t, b)
			}
		}
	}
}

func TestTextWritten(t *testing.T) {
	for _, c := range []struct{ s, want string }{
		{"", "\x00"},
		{"a", "\x02a"},
		{"abc", "\x06abc"},
		{"\x00\xff\x80", "\x06\x00\xff\x80"},
		{"ä", "\x04\xc3\xa4"},
		{strings.Repeat("x", 63), "\x7e" + strings.Repeat("x", 63)},
		{strings.Repeat("x", 64), "\x80\x01" + strings.Repeat("x", 64)},
	} {
		got := num.PutText([]byte("ahead"), c.s)
		if string(got) != "ahead"+c.want {
			t.Errorf("PutText(ahead, %q) = % x; want % x behind it", c.s, got, c.want)
		}
		if got := num.PutText(nil, c.s); string(got) != c.want {
			t.Errorf("PutText(nil, %q) = % x; want % x", c.s, got, c.want)
		}
		for _, tail := range []string{"", "\x00", "tail"} {
			if s, k, err := num.GetText([]byte(c.want + tail)); s != c.s || k != len(c.want) || err != api.OK {
				t.Errorf("GetText(% x) = %q, %d, %d", c.want+tail, s, k, err)
			}
		}
		for k := range len(c.want) {
			if s, m, err := num.GetText([]byte(c.want[:k])); s != "" || m != 0 || err != api.ErrMore {
				t.Errorf("GetText(% x) = %q, %d, %d; want ErrMore", c.want[:k], s, m, err)
			}
		}
	}
}

func TestTextAtItsGreatestLength(t *testing.T) {
	s := strings.Repeat("abcdefgh", maxText/8)
	b := num.PutText(nil, s)
	if want := string(wantPut(maxText)) + s; string(b) != want {
		t.Fatalf("PutText of 2^20 bytes: %d bytes; want %d", len(b), len(want))
	}
	if got, k, err := num.GetText(b); got != s || k != len(b) || err != api.OK {
		t.Errorf("GetText of 2^20 bytes: %d bytes, %d, %d", len(got), k, err)
	}
	if got, k, err := num.GetText(b[:len(b)-1]); got != "" || k != 0 || err != api.ErrMore {
		t.Errorf("GetText of 2^20 bytes less one: %d bytes, %d, %d; want ErrMore", len(got), k, err)
	}
	longer := num.PutText(nil, s+"i")
	if want := string(wantPut(maxText+1)) + s + "i"; string(longer) != want {
		t.Fatalf("PutText of 2^20 + 1 bytes: %d bytes; want %d", len(longer), len(want))
	}
	if got, k, err := num.GetText(longer); got != "" || k != 0 || err != api.ErrForm {
		t.Errorf("GetText of 2^20 + 1 bytes: %d bytes, %d, %d; want ErrForm", len(got), k, err)
	}
}

func TestGetTextRefuses(t *testing.T) {
	for _, n := range []int64{-1, -2, -maxText, math.MinInt64, math.MinInt64 + 1, maxText + 1, 1 << 31, 1 << 32, 1<<32 + 1, 1 << 62, math.MaxInt64} {
		for _, tail := range []string{"", "abc"} {
			b := append(wantPut(n), tail...)
			if s, k, err := num.GetText(b); s != "" || k != 0 || err != api.ErrForm {
				t.Errorf("GetText of the length %d: %q, %d, %d; want ErrForm", n, s, k, err)
			}
		}
	}
	for _, c := range []struct {
		b    string
		want api.Errno
	}{
		{"", api.ErrMore},
		{"\x86", api.ErrMore},
		{"\x86\x00abc", api.ErrForm},
		{"\x80\x00", api.ErrForm},
		{strings.Repeat("\xff", 9), api.ErrMore},
		{strings.Repeat("\xff", 10), api.ErrForm},
		{"\x06ab", api.ErrMore},
		{string(wantPut(maxText)), api.ErrMore},
	} {
		if s, k, err := num.GetText([]byte(c.b)); s != "" || k != 0 || err != c.want {
			t.Errorf("GetText(% x) = %q, %d, %d; want %d", c.b, s, k, err, c.want)
		}
	}
	if s, k, err := num.GetText(nil); s != "" || k != 0 || err != api.ErrMore {
		t.Errorf("GetText(nil) = %q, %d, %d; want ErrMore", s, k, err)
	}
}

// A text that would end in the spare room of the list has ended all the same.
func TestGetTextLeavesSpareRoomUnread(t *testing.T) {
	room := []byte("\x06abc")
	if s, k, err := num.GetText(room[:3]); s != "" || k != 0 || err != api.ErrMore {
		t.Errorf("GetText = %q, %d, %d; want ErrMore", s, k, err)
	}
	wide := []byte("\x80\x01")
	if n, k, err := num.Get(wide[:1]); n != 0 || k != 0 || err != api.ErrMore {
		t.Errorf("Get = %d, %d, %d; want ErrMore", n, k, err)
	}
}

func TestGetTextKeepsNothing(t *testing.T) {
	b := []byte("\x06abcdef")
	s, _, _ := num.GetText(b)
	if string(b) != "\x06abcdef" {
		t.Errorf("GetText changed its argument: %q", b)
	}
	copy(b, "\x06xyz")
	if s != "abc" {
		t.Errorf("the text became %q when the bytes were written over", s)
	}
}

func TestFour(t *testing.T) {
	for _, c := range []struct {
		n    uint32
		want string
	}{
		{0, "\x00\x00\x00\x00"},
		{1, "\x00\x00\x00\x01"},
		{0x100, "\x00\x00\x01\x00"},
		{0x01020304, "\x01\x02\x03\x04"},
		{0x80000000, "\x80\x00\x00\x00"},
		{0xfffefdfc, "\xff\xfe\xfd\xfc"},
		{math.MaxUint32, "\xff\xff\xff\xff"},
	} {
		if got := num.Four(c.n); string(got) != c.want {
			t.Errorf("Four(%#x) = % x; want % x", c.n, got, c.want)
		}
	}
}

// writers are the calls that hand out bytes, each with one and the same answer.
func writers() map[string]func([]byte) []byte {
	return map[string]func([]byte) []byte{
		"Put":           func(b []byte) []byte { return num.Put(b, 300) },
		"Put the least": func(b []byte) []byte { return num.Put(b, math.MinInt64) },
		"PutText":       func(b []byte) []byte { return num.PutText(b, "abc") },
		"PutText none":  func(b []byte) []byte { return num.PutText(b, "") },
		"Four":          func([]byte) []byte { return num.Four(0x01020304) },
	}
}

func overwrite(b []byte) {
	b = b[:cap(b)]
	for i := range b {
		b[i] = 0xaa
	}
}

func TestArgumentAndItsSpareRoomStay(t *testing.T) {
	for name, write := range writers() {
		for size := range 8 {
			room := []byte("0123456789abcdefghijklmnopqrstuvwxyz")
			before := string(room)
			answer := write(room[:size])
			if string(room) != before {
				t.Errorf("%s of %d bytes wrote into its argument: %q", name, size, room)
			}
			overwrite(answer)
			if string(room) != before {
				t.Errorf("%s of %d bytes answered its argument's memory", name, size)
			}
		}
	}
}

func TestAnswersShareNothing(t *testing.T) {
	for name, write := range writers() {
		for _, ahead := range []string{"", "x", "a longer beginning"} {
			b := append(make([]byte, 0, 64), ahead...)
			first, second := write(b), write(b)
			want := string(second)
			if string(first) != want {
				t.Errorf("%s answered % x, then % x", name, first, second)
			}
			overwrite(first)
			if string(second) != want || string(write(b)) != want {
				t.Errorf("%s: writing into one answer changed another", name)
			}
		}
	}
}

func TestNilIsEmpty(t *testing.T) {
	for name, write := range writers() {
		if a, b := write(nil), write([]byte{}); !bytes.Equal(a, b) {
			t.Errorf("%s: nil gives % x, empty % x", name, a, b)
		}
	}
	if n, k, err := num.Get([]byte{}); n != 0 || k != 0 || err != api.ErrMore {
		t.Errorf("Get of an empty list = %d, %d, %d; want ErrMore", n, k, err)
	}
	if s, k, err := num.GetText([]byte{}); s != "" || k != 0 || err != api.ErrMore {
		t.Errorf("GetText of an empty list = %q, %d, %d; want ErrMore", s, k, err)
	}
}

func TestLongBeginningsAreKept(t *testing.T) {
	long := bytes.Repeat([]byte("0123456789"), 100000)
	if got := num.Put(long, -1); string(got) != string(long)+"\x01" {
		t.Error("Put behind a million bytes")
	}
	if got := num.PutText(long, "abc"); string(got) != string(long)+"\x06abc" {
		t.Error("PutText behind a million bytes")
	}
}

func FuzzGet(f *testing.F) {
	f.Add([]byte("\xd8\x04abc"))
	f.Add([]byte("\xff\xff\xff\xff\xff\xff\xff\xff\xff\x01"))
	f.Add([]byte("\x06abc"))
	f.Fuzz(func(t *testing.T, b []byte) {
		checkGet(t, b)
		s, k, err := num.GetText(b)
		if err != api.OK && (s != "" || k != 0) {
			t.Fatalf("GetText(% x) = %q, %d beside %d", b, s, k, err)
		}
		if err == api.OK && !bytes.Equal(num.PutText(nil, s), b[:k]) {
			t.Fatalf("GetText(% x) = %q, %d, which PutText writes otherwise", b, s, k)
		}
	})
}
