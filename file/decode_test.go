package file_test

import (
	"bytes"
	"fmt"
	"math"
	"slices"
	"strings"
	"testing"

	"daguerre/api"
	"daguerre/class"
	"daguerre/file"
	"daguerre/num"
)

func TestCutOff(t *testing.T) {
	for what, c := range classes(t) {
		b := sheetOf(c).bytes()
		for k := range b {
			// The rest stands in the spare room, and is not read.
			checkRefused(t, fmt.Sprint(what, " cut at ", k), b[:k], api.ErrForm)
			checkRefused(t, fmt.Sprint(what, " cut at ", k, ", no room"), bytes.Clone(b[:k]), api.ErrForm)
			if k < 200 {
				checkRefused(t, fmt.Sprint(what, " without the first ", k+1), b[k+1:], api.ErrForm)
				checkSound(t, fmt.Sprint(what, " without byte ", k), slices.Delete(bytes.Clone(b), k, k+1))
			}
		}
	}
}

func TestBytesBehind(t *testing.T) {
	for what, c := range classes(t) {
		b := sheetOf(c).bytes()
		if len(b) >= 6000 {
			continue
		}
		for x := range 256 {
			checkRefused(t, fmt.Sprint(what, " and ", x), append(bytes.Clone(b), byte(x)), api.ErrForm)
		}
		for n := 2; n+len(b) <= 6000; n += 97 {
			checkRefused(t, fmt.Sprint(what, " and ", n, " zeros"), append(bytes.Clone(b), make([]byte, n)...), api.ErrForm)
		}
		if 2*len(b) <= 6000 {
			checkRefused(t, what+" twice", slices.Concat(b, b), api.ErrForm)
		}
	}
}

func TestEachByteChanged(t *testing.T) {
	for what, c := range classes(t) {
		b := sheetOf(c).bytes()
		if len(b) > 2500 {
			continue
		}
		taken, step := 0, 1
		if len(b) > 500 {
			step = 17
		}
		for k := range b {
			for x := 1; x < 256; x += step {
				d := bytes.Clone(b)
				d[k] ^= byte(x)
				if checkSound(t, fmt.Sprint(what, " with byte ", k, " turned by ", x), d) {
					taken++
				}
			}
		}
		if taken == 0 {
			t.Errorf("%s: no byte could be another, not even a name's", what)
		}
	}
}

func TestEachByteTwice(t *testing.T) {
	for what, c := range classes(t) {
		b := sheetOf(c).bytes()
		if len(b) > 2500 {
			continue
		}
		for k := range b {
			checkSound(t, fmt.Sprint(what, " with byte ", k, " twice"), slices.Insert(bytes.Clone(b), k, b[k]))
			checkSound(t, fmt.Sprint(what, " with 0 ahead of byte ", k), slices.Insert(bytes.Clone(b), k, 0))
		}
	}
}

func TestNoBytes(t *testing.T) {
	checkRefused(t, "nil", nil, api.ErrForm)
	checkRefused(t, "empty", []byte{}, api.ErrForm)
	checkRefused(t, "empty with room", make([]byte, 0, 100), api.ErrForm)
	checkRefused(t, "empty, with a class in the room", sheetOf(whole()).bytes()[:0], api.ErrForm)
	checkRefused(t, "the opening alone", []byte("JAVA"), api.ErrForm)
	for n := 1; n < 100; n++ {
		checkRefused(t, fmt.Sprint(n, " zeros"), make([]byte, n), api.ErrForm)
		checkRefused(t, fmt.Sprint(n, " zeros behind the opening"), append([]byte("JAVA"), make([]byte, n)...), api.ErrForm)
	}
}

func TestAnotherOpening(t *testing.T) {
	for what, c := range classes(t) {
		for _, opening := range []string{"", "J", "JAV", "java", "Java", "JAVB", "KAVA", "JBVA", "JAWA", "AVAJ", "JAVAJAVA", "JAVA\x00", "\x00JAVA", "\xca\xfe\xba\xbe", "\x00\x00\x00\x00"} {
			s := sheetOf(c)
			s.opening = opening
			if b := s.bytes(); len(b) <= 6000 {
				checkRefused(t, fmt.Sprintf("%s with the opening %q", what, opening), b, api.ErrForm)
			}
		}
	}
}

// Each place is told anew, so that the parts ask for the same texts as before.
func TestPoolInAnotherOrder(t *testing.T) {
	for what, c := range classes(t) {
		s := sheetOf(c)
		n := len(s.pool)
		for i := range min(n, 15) {
			for j := range i {
				to := func(place int64) int64 {
					switch int(place) {
					case i:
						return int64(j)
					case j:
						return int64(i)
					}
					return place
				}
				pool := slices.Clone(s.pool)
				pool[i], pool[j] = pool[j], pool[i]
				if b := s.moved(pool, to).bytes(); len(b) <= 6000 {
					checkRefused(t, fmt.Sprint(what, ": texts ", i, " and ", j, " swapped"), b, api.ErrForm)
				}
			}
		}
		pool := slices.Clone(s.pool)
		slices.Reverse(pool)
		if b := s.moved(pool, func(place int64) int64 { return int64(n) - 1 - place }).bytes(); n > 1 && len(b) <= 6000 {
			checkRefused(t, what+": pool from behind", b, api.ErrForm)
		}
		pool = slices.Clone(s.pool)
		slices.Sort(pool)
		if b := s.moved(pool, func(place int64) int64 { return int64(slices.Index(pool, s.pool[place])) }).bytes(); !slices.Equal(pool, s.pool) && len(b) <= 6000 {
			checkRefused(t, what+": pool sorted", b, api.ErrForm)
		}
	}
}

// asks gives, of each text, which parts ask for it.
func asks(s *sheet) [][]int {
	list := make([][]int, len(s.pool))
	for i, p := range s.parts {
		if p.sort == aPlace {
			list[p.n] = append(list[p.n], i)
		}
	}
	return list
}

// A text stands in the pool again where a part that asks for it would find it missing: all is in order but for that it was there.
func TestTextTwice(t *testing.T) {
	for what, c := range map[string]api.Class{"whole": whole(), "face": face(), "one name": {Name: "Ab", Super: "Ab", Impl: []string{"Ab"}}} {
		tried := 0
		for text, parts := range asks(sheetOf(c)) {
			for k := 1; k < len(parts); k++ {
				s := sheetOf(c)
				at := int64(0) // the texts that were asked for ahead of this part
				for _, p := range s.parts[:parts[k]] {
					if p.sort == aPlace {
						at = max(at, p.n+1)
					}
				}
				pool := slices.Insert(slices.Clone(s.pool), int(at), s.pool[text])
				twice := s.moved(pool, func(place int64) int64 {
					if place >= at {
						return place + 1
					}
					return place
				})
				checkRefused(t, fmt.Sprint(what, ": text ", text, " twice, nobody asks for the second"), twice.bytes(), api.ErrForm)
				twice.parts[parts[k]].n = at
				checkRefused(t, fmt.Sprint(what, ": text ", text, " twice, one part asks"), twice.bytes(), api.ErrForm)
				for _, i := range parts[k:] {
					twice.parts[i].n = at
				}
				checkRefused(t, fmt.Sprint(what, ": text ", text, " twice, all from one on ask"), twice.bytes(), api.ErrForm)
				tried++
			}
		}
		if tried == 0 {
			t.Errorf("%s: none was tried", what)
		}
	}
}

func TestTextThatNobodyAsksFor(t *testing.T) {
	for what, c := range classes(t) {
		s := sheetOf(c)
		for at := range int64(len(s.pool) + 1) {
			for _, text := range []string{"Unasked", "", "Ab", "I", "\xff", "longer than any name"} {
				pool := slices.Insert(slices.Clone(s.pool), int(at), text)
				b := s.moved(pool, func(place int64) int64 {
					if place >= at {
						return place + 1
					}
					return place
				}).bytes()
				if len(b) <= 6000 {
					checkRefused(t, fmt.Sprintf("%s: %q at %d", what, text, at), b, api.ErrForm)
				}
			}
			if at > 20 {
				break
			}
		}
		s.pool = append(s.pool, "Unasked", "Twice")
		if b := s.bytes(); len(b) <= 6000 {
			checkRefused(t, what+": two that nobody asks for", b, api.ErrForm)
		}
	}
}

// farNumbers are of each width, on both sides of 0.
func farNumbers() []int64 {
	list := []int64{math.MinInt64, math.MinInt64 + 1, math.MaxInt64 - 1, math.MaxInt64}
	for _, bit := range []int{1, 2, 3, 6, 7, 8, 12, 13, 16, 20, 31, 32, 33, 47, 60, 62} {
		list = append(list, 1<<bit-1, 1<<bit, -1<<bit, -1<<bit-1)
	}
	return append(list, -1, 0, 1, 2, 5999, 6000, 6001)
}

// Each number of the parts becomes each other one. Of a number that is a name's place or a size, the bytes may become another class's.
func TestEachPartAnother(t *testing.T) {
	for what, c := range map[string]api.Class{"whole": whole(), "face": face(), "two names": {Name: "Ab", Super: "Xy"}} {
		s := sheetOf(c)
		for i, p := range s.parts {
			for _, n := range slices.Concat(farNumbers(), []int64{p.n - 1, p.n + 1, p.n + 256, p.n + 1<<32, int64(len(s.pool)), -p.n, -p.n - 1}) {
				if n == p.n {
					continue
				}
				s.parts[i].n = n
				name := fmt.Sprint(what, ": part ", i, " is ", n, ", not ", p.n)
				outside := p.sort == aPlace && (n < 0 || n >= int64(len(s.pool)))
				noTruth := p.sort == aTruth && n != 0 && n != 1
				if p.sort == aCount || outside || noTruth {
					checkRefused(t, name, s.bytes(), api.ErrForm)
				} else {
					checkSound(t, name, s.bytes())
				}
			}
			s.parts[i] = p
		}
		checkBoth(t, what+" as it was", c)
	}
}

func TestCountOfThePool(t *testing.T) {
	for what, c := range classes(t) {
		s := sheetOf(c)
		size := int64(len(s.pool))
		for _, n := range append(farNumbers(), size-1, size+1, size+2, -size) {
			if n == size {
				continue
			}
			b := slices.Concat([]byte(s.opening), num.Put(nil, n), s.poolBytes(), s.partBytes())
			if len(b) <= 6000 {
				checkRefused(t, fmt.Sprint(what, ": a pool of ", n), b, api.ErrForm)
			}
		}
	}
}

func TestLengthOfAText(t *testing.T) {
	for what, c := range map[string]api.Class{"whole": whole(), "face": face(), "two names": {Name: "Ab", Super: "Xy"}} {
		s := sheetOf(c)
		for i, text := range s.pool {
			for _, n := range append(farNumbers(), int64(len(text))-1, int64(len(text))+1, 1<<20+1) {
				if n == int64(len(text)) {
					continue
				}
				before, behind := sheet{pool: s.pool[:i]}, sheet{pool: s.pool[i+1:]}
				b := slices.Concat([]byte(s.opening), num.Put(nil, int64(len(s.pool))), before.poolBytes(), num.Put(nil, n), []byte(text), behind.poolBytes(), s.partBytes())
				checkRefused(t, fmt.Sprint(what, ": text ", i, " of the length ", n), b, api.ErrForm)
			}
		}
	}
}

// longer gives b with the number that ends at end a byte longer than it need be.
func longer(b []byte, end int) []byte {
	d := slices.Insert(bytes.Clone(b), end, 0)
	d[end-1] |= 0x80
	return d
}

// numbers gives where each number of the bytes begins and ends, the lengths of the texts among them.
func numbers(t *testing.T, s *sheet) [][2]int {
	t.Helper()
	at := len(s.opening)
	var list [][2]int
	next := func(n int64) {
		size := len(num.Put(nil, n))
		list = append(list, [2]int{at, at + size})
		at += size
	}
	next(int64(len(s.pool)))
	for _, x := range s.pool {
		next(int64(len(x)))
		at += len(x)
	}
	for _, p := range s.parts {
		next(p.n)
	}
	if at != len(s.bytes()) {
		t.Fatalf("the numbers end at %d of %d", at, len(s.bytes()))
	}
	return list
}

func TestNumberLongerThanNeedBe(t *testing.T) {
	for what, c := range classes(t) {
		s := sheetOf(c)
		b := s.bytes()
		if len(b) > 2500 {
			continue
		}
		for i, n := range numbers(t, s) {
			name := fmt.Sprint(what, ": number ", i, " of ", n)
			d := longer(b, n[1])
			checkRefused(t, name+", a byte more", d, api.ErrForm)
			checkRefused(t, name+", two bytes more", longer(d, n[1]+1), api.ErrForm)
			checkRefused(t, name+", nothing else", slices.Concat(b[:n[0]], bytes.Repeat([]byte{0xff}, 10), b[n[1]:]), api.ErrForm)
			checkRefused(t, name+", without an end", slices.Concat(b[:n[0]], bytes.Repeat([]byte{0x80}, 40)), api.ErrForm)
		}
	}
}

func TestLimitOfDecode(t *testing.T) {
	b := sheetOf(sized(t, 6000)).bytes()
	if c, err := file.Decode(b); err != api.OK || !class.Eq(c, sized(t, 6000)) {
		t.Errorf("6,000 bytes of a class: %d", err)
	}
	checkRefused(t, "6,001 bytes of a class", sheetOf(sized(t, 6001)).bytes(), api.ErrLimit)
	checkRefused(t, "6,000 bytes of a class and one", append(bytes.Clone(b), 0), api.ErrLimit)
	checkRefused(t, "6,000 bytes, a class's but for one", append(sheetOf(sized(t, 5999)).bytes(), 0), api.ErrForm)
	for _, fill := range []string{"\x00", "\x01", "\x02", "\x80", "\xff", "J", "JAVA", "JAVA\x00", "JAVA\x02\x00"} {
		whole := []byte(strings.Repeat(fill, 20000))
		for n, want := range map[int]api.Errno{5999: api.ErrForm, 6000: api.ErrForm, 6001: api.ErrLimit, 6002: api.ErrLimit, 12000: api.ErrLimit, 20000: api.ErrLimit} {
			checkRefused(t, fmt.Sprintf("%d bytes of %q", n, fill), whole[:n], want)
			checkRefused(t, fmt.Sprintf("%d bytes of %q, no room", n, fill), bytes.Clone(whole[:n]), want)
		}
	}
	checkRefused(t, "very many bytes", make([]byte, 1<<24), api.ErrLimit)
}

// Lists within lists, each as long as what is left seems to allow, end all the same.
func TestListsThatPromiseMuch(t *testing.T) {
	head := append([]byte("JAVA\x02\x00"), 0, 0, 0, 0, 0) // one text, "": Name, Super, no interface, no Impl, no Fields
	for _, each := range []int64{1, 50, 500, 2900, 5000} {
		b := bytes.Clone(head)
		b = append(b, num.Put(nil, 5900)...)
		for len(b) < 5980 {
			b = append(b, 0, 0, 0, 0, 0, 0, 0)
			b = append(b, num.Put(nil, each)...)
		}
		checkRefused(t, fmt.Sprint("methods of ", each, " instructions"), b[:min(len(b), 6000)], api.ErrForm)
	}
	b := []byte("JAVA")
	b = append(b, num.Put(nil, 5994)...)
	b = append(b, make([]byte, 6000-len(b))...)
	checkRefused(t, "a pool of empty texts", b, api.ErrForm)
}

// Bytes at random, near those of a class and not, from a source that begins the same each time.
func TestAnyBytes(t *testing.T) {
	state := uint64(1)
	next := func(n int) int {
		state = state*6364136223846793005 + 1442695040888963407
		return int(state>>33) % n
	}
	var seeds [][]byte
	for _, c := range []api.Class{whole(), face(), {Name: "Ab", Super: "Xy"}, wide()} {
		seeds = append(seeds, sheetOf(c).bytes())
	}
	for range 60_000 {
		b := bytes.Clone(seeds[next(len(seeds))])
		for range 1 + next(4) {
			at := next(len(b))
			switch next(5) {
			case 0:
				b[at] = byte(next(256))
			case 1:
				b[at] = byte(next(30))
			case 2:
				b = slices.Insert(b, at, byte(next(256)))
			case 3:
				b = slices.Delete(b, at, min(len(b), at+1+next(3)))
				b = append(b, 0)
			case 4:
				copy(b[at:], b[next(len(b)):])
			}
		}
		checkSound(t, "bytes at random", b)
	}
}

func FuzzDecode(f *testing.F) {
	for _, c := range []api.Class{whole(), face(), {Name: "Ab", Super: "Xy"}, wide()} {
		f.Add(sheetOf(c).bytes())
	}
	f.Fuzz(func(t *testing.T, b []byte) {
		if len(b) > 6000 {
			checkRefused(t, "a long one", b, api.ErrLimit)
		} else {
			checkSound(t, "any", b)
		}
	})
}
