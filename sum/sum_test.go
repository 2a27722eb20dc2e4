package sum_test

import (
	"hash/crc32"
	"math/bits"
	"slices"
	"strings"
	"testing"
	"unsafe"

	"hoard/sum"
)

// powers are those of the divisor, as the chapter's Words tell them.
var powers = []int{32, 26, 23, 22, 16, 12, 11, 10, 8, 7, 5, 4, 2, 1, 0}

// chance makes numbers by a rule.
type chance uint64

func (c *chance) next() uint32 {
	*c = *c*6364136223846793005 + 1442695040888963407
	return uint32(*c >> 32)
}

// text makes one of n bytes.
func (c *chance) text(n int) string {
	l := make([]byte, n)
	for i := range l {
		l[i] = byte(c.next() >> 24)
	}
	return string(l)
}

// sumOf is the sum as the chapter's Words say it, bit by bit: the text's bits with 32 bits 0 behind, the first 32 turned, divided, what is left turned and read from its lowest bit on.
func sumOf(s string) uint32 {
	var row []byte
	for i := range len(s) {
		for bit := range 8 {
			row = append(row, s[i]>>bit&1)
		}
	}
	row = append(row, make([]byte, 32)...)
	for i := range 32 {
		row[i] ^= 1
	}
	for i := range len(row) - 32 {
		if row[i] == 0 {
			continue
		}
		for _, p := range powers {
			row[i+32-p] ^= 1
		}
	}
	x := uint32(0)
	for i, b := range row[len(row)-32:] {
		x |= uint32(b^1) << i
	}
	return x
}

// texts are short ones and long ones, of each length about those at which a sum could go wrong.
func texts() []string {
	c := chance(7)
	l := []string{"", "a", "abc", "123456789", "ä", "\x00", "\xff", strings.Repeat("\x00", 100), strings.Repeat("\xff", 100)}
	for n := range 70 {
		l = append(l, strings.Repeat("\x00", n), strings.Repeat("\xff", n), c.text(n))
	}
	for _, n := range []int{255, 256, 257, 1000, 4095, 4097} {
		l = append(l, c.text(n))
	}
	return l
}

// turned has the bits of s turned that pattern has, from the bit at on: bits from the lowest to the highest of each byte.
func turned(s string, at int, pattern uint32) string {
	l := []byte(s)
	for ; pattern != 0; pattern &= pattern - 1 {
		bit := at + bits.TrailingZeros32(pattern)
		l[bit/8] ^= 1 << (bit % 8)
	}
	return string(l)
}

// opened holds Open(s) to the text, and true.
func opened(t *testing.T, s, want string) {
	t.Helper()
	if text, is := sum.Open(s); text != want || !is {
		t.Fatalf("Open(%x): %x %v, not %x", s, text, is, want)
	}
}

// refused holds Open(s) to empty, and false.
func refused(t *testing.T, s string) {
	t.Helper()
	if text, is := sum.Open(s); text != "" || is {
		t.Fatalf("Open(%x): %x %v, though it is no sealed text", s, text, is)
	}
}

// P2.1: sums that are known.
func TestKnownSums(t *testing.T) {
	up := make([]byte, 32)
	for i := range up {
		up[i] = byte(i)
	}
	for _, c := range []struct {
		text string
		want uint32
	}{
		{"", 0},
		{"123456789", 0xcbf43926},
		{"a", 0xe8b7be43},
		{"abc", 0x352441c2},
		{"\x00", 0xd202ef8d},
		{"\xff", 0xff000000},
		{"\xff\xff\xff\xff", 0xffffffff},
		{"\x00\x00\x00\x00", 0x2144df1c},
		{strings.Repeat("\x00", 32), 0x190a55ad},
		{strings.Repeat("\xff", 32), 0xff6cab0b},
		{string(up), 0x91267e8a},
		{"The quick brown fox jumps over the lazy dog", 0x414fa339},
	} {
		if x := sum.Of(c.text); x != c.want {
			t.Errorf("Of(%x): %08x, not %08x", c.text, x, c.want)
		}
	}
}

// P2.1: sums of one and two bytes, all of them, and of longer texts are as the Words say.
func TestSumsAsTheWordsSay(t *testing.T) {
	one := func(s string) {
		if x, want := sum.Of(s), sumOf(s); x != want {
			t.Fatalf("Of(%x): %08x, not %08x", s, x, want)
		}
	}
	for a := range 256 {
		one(string([]byte{byte(a)}))
		for b := range 256 {
			one(string([]byte{byte(a), byte(b)}))
		}
	}
	for _, s := range texts() {
		one(s)
	}
}

// P2.1: no part at all, and parts that are empty.
func TestNoPartsAndEmptyOnes(t *testing.T) {
	if x := sum.Of(); x != 0 {
		t.Errorf("no part: %08x", x)
	}
	for _, l := range [][]string{nil, {}, {""}, {"", ""}, make([]string, 1000)} {
		if x := sum.Of(l...); x != 0 {
			t.Errorf("%d empty parts: %08x", len(l), x)
		}
	}
	for _, s := range texts() {
		want := sum.Of(s)
		for _, l := range [][]string{{"", s}, {s, ""}, {"", "", s, "", ""}} {
			if x := sum.Of(l...); x != want {
				t.Errorf("%x with empty parts: %08x, not %08x", s, x, want)
			}
		}
	}
}

// P2.1: wherever a text is cut into parts, the sum is that of the whole, and none hangs on where.
func TestPartsAreOneText(t *testing.T) {
	for _, s := range texts() {
		want := sum.Of(s)
		if x := sum.Of(strings.Split(s, "")...); x != want {
			t.Fatalf("%x by characters: %08x, not %08x", s, x, want)
		}
		for i := range min(len(s), 80) + 1 {
			if x := sum.Of(s[:i], s[i:]); x != want {
				t.Fatalf("%x, cut at %d: %08x, not %08x", s, i, x, want)
			}
			if x := sum.Of(s[:i/2], s[i/2:i], "", s[i:]); x != want {
				t.Fatalf("%x, cut at %d and %d: %08x, not %08x", s, i/2, i, x, want)
			}
		}
	}
	if sum.Of("12345", "6789") == sum.Of("6789", "12345") {
		t.Error("parts the other way round have the same sum")
	}
}

// P2.1: a list that is handed in is as it was, and none of it is kept.
func TestPartsAreNotKept(t *testing.T) {
	l := []string{"12345", "", "6789"}
	for range 2 {
		if x := sum.Of(l...); x != 0xcbf43926 || !slices.Equal(l, []string{"12345", "", "6789"}) {
			t.Errorf("%08x of %q", x, l)
		}
	}
	l[0] = "a"
	l[2] = ""
	if x := sum.Of(l...); x != 0xe8b7be43 {
		t.Errorf("%08x of %q", x, l)
	}
}

// P2.1: four bytes, the highest first.
func TestBytes(t *testing.T) {
	for _, c := range []struct {
		x    uint32
		want string
	}{
		{0, "\x00\x00\x00\x00"},
		{1, "\x00\x00\x00\x01"},
		{255, "\x00\x00\x00\xff"},
		{256, "\x00\x00\x01\x00"},
		{0x01020304, "\x01\x02\x03\x04"},
		{0x7fffffff, "\x7f\xff\xff\xff"},
		{0x80000000, "\x80\x00\x00\x00"},
		{0xcbf43926, "\xcb\xf4\x39\x26"},
		{0xffffffff, "\xff\xff\xff\xff"},
	} {
		if got := sum.Bytes(c.x); got != c.want {
			t.Errorf("Bytes(%08x): %x, not %x", c.x, got, c.want)
		}
	}
	for bit := range 32 {
		got := sum.Bytes(1 << bit)
		if want := turned("\x00\x00\x00\x00", (3-bit/8)*8+bit%8, 1); got != want {
			t.Errorf("Bytes of the bit %d: %x, not %x", bit, got, want)
		}
	}
}

// P2.2: sealed texts, written out.
func TestSealWrittenOut(t *testing.T) {
	for _, c := range []struct{ text, want string }{
		{"", "\x00\x00\x00\x00"},
		{"a", "a\xe8\xb7\xbe\x43"},
		{"123456789", "123456789\xcb\xf4\x39\x26"},
		{"\x00", "\x00\xd2\x02\xef\x8d"},
		{"\x00\x00\x00\x00", "\x00\x00\x00\x00\x21\x44\xdf\x1c"},
	} {
		if got := sum.Seal(c.text); got != c.want {
			t.Errorf("Seal(%x): %x, not %x", c.text, got, c.want)
		}
		opened(t, c.want, c.text)
	}
}

// P2.2, P2.3: of each text: it, and its sum behind it; and it is opened as itself, also when it is sealed itself.
func TestSealAndOpen(t *testing.T) {
	for _, s := range texts() {
		once := sum.Seal(s)
		if want := s + sum.Bytes(sumOf(s)); once != want {
			t.Fatalf("Seal(%x): %x, not %x", s, once, want)
		}
		opened(t, once, s)
		twice := sum.Seal(once)
		opened(t, twice, once)
		opened(t, sum.Seal(twice), twice)
	}
}

// P2.2: what is shorter than a sum is no sealed text, be it a sum's beginning.
func TestOpenTooShort(t *testing.T) {
	for n := range 4 {
		for _, of := range []string{"\x00\x00\x00\x00", "\xff\xff\xff\xff", "abcd", sum.Seal("a")} {
			refused(t, of[:n])
			refused(t, of[len(of)-n:])
		}
	}
}

// P2.2: of texts that are just a sum one is sealed: the text without bytes.
func TestOpenJustASum(t *testing.T) {
	opened(t, "\x00\x00\x00\x00", "")
	for bit := range 32 {
		refused(t, sum.Bytes(1<<bit))
	}
	for _, s := range []string{"\xff\xff\xff\xff", "abcd", sum.Bytes(sum.Of("a")), sum.Bytes(sum.Of("123456789"))} {
		refused(t, s)
	}
}

// P2.2: sums that are wrong: of another text, at another place, the other way round, turned, with something behind, with something wanting.
func TestOpenWrongSums(t *testing.T) {
	for _, s := range []string{"a", "abc", "123456789", "\x00", "\x00\x00\x00\x00\x00", strings.Repeat("ab", 200)} {
		x := sum.Of(s)
		sealed := sum.Seal(s)
		for _, w := range []string{
			s,
			s + sum.Bytes(x+1),
			s + sum.Bytes(x-1),
			s + sum.Bytes(^x),
			s + sum.Bytes(bits.ReverseBytes32(x)),
			s + sum.Bytes(bits.Reverse32(x)),
			s + sum.Bytes(sum.Of(s+"z")),
			s + sum.Bytes(sum.Of(s, sum.Bytes(x))),
			s + "\x00\x00\x00\x00",
			s + "\xff\xff\xff\xff",
			sum.Bytes(x) + s,
			"\x00" + sealed,
			sealed + "\x00",
			sealed + "x",
			sealed + sealed,
			sealed[1:],
			sealed[:len(sealed)-1],
			sealed[:len(sealed)-4],
		} {
			refused(t, w)
		}
	}
}

// P2.3: each pattern of bits that lie within eleven in a row, anywhere in the text.
func TestEachShortPattern(t *testing.T) {
	c := chance(2)
	for _, s := range []string{"\x00\x00", "\xff\xff\xff", "hoard", c.text(12)} {
		sealed := sum.Seal(s)
		for at := range len(s) * 8 {
			wide := min(11, len(s)*8-at)
			for pattern := uint32(1); pattern < 1<<wide; pattern += 2 {
				refused(t, turned(sealed, at, pattern))
			}
		}
	}
}

// P2.3: many patterns of bits that lie within 32 in a row, anywhere in the text: one, two, all, and by a rule.
func TestLongPatterns(t *testing.T) {
	c := chance(3)
	for _, s := range []string{"\x00\x00\x00\x00", "hoard", strings.Repeat("\x00", 40), c.text(64), c.text(300)} {
		sealed := sum.Seal(s)
		for at := range len(s) * 8 {
			wide := min(32, len(s)*8-at)
			all := uint32(1)<<wide - 1
			refused(t, turned(sealed, at, all))
			for other := range wide {
				refused(t, turned(sealed, at, 1|1<<other))
			}
			for range 10 {
				refused(t, turned(sealed, at, c.next()&all|1))
			}
		}
	}
}

// P2.3: the divisor itself has 33 bits, so it is the shortest pattern that is not seen: of 32 there is none, one more is no promise.
func TestTheDivisorIsNotSeen(t *testing.T) {
	s := strings.Repeat("\x00", 10)
	other := s
	for _, p := range powers {
		other = turned(other, 7+32-p, 1)
	}
	if other == s || sum.Of(other) != sum.Of(s) {
		t.Errorf("%x: %08x, not %08x", other, sum.Of(other), sum.Of(s))
	}
}

// P2.3: bits of the sum: one, two, each pattern of two bytes side by side, all, and by a rule.
func TestTurnedSums(t *testing.T) {
	c := chance(5)
	for _, s := range []string{"", "a", "hoard", c.text(100)} {
		sealed := sum.Seal(s)
		first := len(s) * 8
		for at := range 32 {
			for other := range 32 {
				refused(t, turned(sealed, first, 1<<at|1<<other))
			}
		}
		for pattern := uint32(1); pattern < 1<<16; pattern++ {
			refused(t, turned(sealed, first, pattern))
			refused(t, turned(sealed, first+16, pattern))
		}
		refused(t, turned(sealed, first, 0xffffffff))
		for range 1000 {
			refused(t, turned(sealed, first, c.next()|1))
		}
	}
}

// within tells if a's bytes are some of b's.
func within(a, b string) bool {
	at := uintptr(unsafe.Pointer(unsafe.StringData(a)))
	from := uintptr(unsafe.Pointer(unsafe.StringData(b)))
	return at >= from && at < from+uintptr(len(b))
}

// R5: answers are memory of their own.
func TestAnswersAreNew(t *testing.T) {
	s := strings.Repeat("hoard", 20)
	sealed := sum.Seal(s)
	if within(sealed, s) {
		t.Error("Seal answers bytes of what it was handed")
	}
	if text, _ := sum.Open(sealed); within(text, sealed) {
		t.Error("Open answers bytes of what it was handed")
	}
}

// FuzzOpen: of any bytes whatever Open answers what was sealed, or that it is no sealed text; and what is sealed is opened.
func FuzzOpen(f *testing.F) {
	for _, s := range []string{"", "abc", "\x00\x00\x00\x00", "a\xe8\xb7\xbe\x43", "a\xe8\xb7\xbe\x44"} {
		f.Add(s)
	}
	f.Fuzz(func(t *testing.T, s string) {
		if x, want := sum.Of(s), crc32.ChecksumIEEE([]byte(s)); x != want {
			t.Errorf("Of(%x): %08x, not %08x", s, x, want)
		}
		opened(t, sum.Seal(s), s)
		if text, is := sum.Open(s); is && sum.Seal(text) != s {
			t.Errorf("%x was opened as %x, which is sealed as %x", s, text, sum.Seal(text))
		} else if !is {
			refused(t, s)
		}
	})
}
