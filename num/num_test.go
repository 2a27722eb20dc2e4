package num_test

import (
	"math"
	"slices"
	"strings"
	"testing"

	"hoard/api"
	"hoard/num"
)

// reader is Read or ReadDown.
type reader func(s string) (uint64, int, api.Errno)

// turned has each byte of s as 255 less it.
func turned(s string) string {
	l := []byte(s)
	for i, b := range l {
		l[i] = 255 - b
	}
	return string(l)
}

// numbers are all up to 70,000, and those about the places where a number gets one bit more; in their order, each once.
func numbers() []uint64 {
	var l []uint64
	for x := range uint64(70_000) {
		l = append(l, x)
	}
	for shift := range 64 {
		p := uint64(1) << shift
		l = append(l, p-1, p, p+1, p|p>>1, p|0xff, p|0x5a5a5a5a5a5a5a5a>>(63-shift))
	}
	l = append(l, math.MaxUint64-1, math.MaxUint64)
	slices.Sort(l)
	return slices.Compact(l)
}

// bytesOf are a number's bytes as the chapter's Words say them.
func bytesOf(x uint64) string {
	var l []byte
	for ; x > 0; x /= 256 {
		l = append(l, byte(x%256))
	}
	l = append(l, byte(len(l)))
	slices.Reverse(l)
	return string(l)
}

// readOf is what Read has to answer, step by step as P1.2 names it.
func readOf(s string) (uint64, int, api.Errno) {
	if len(s) == 0 {
		return 0, 0, api.ErrShort
	}
	if s[0] > 8 {
		return 0, 0, api.ErrForm
	}
	n := int(s[0])
	if len(s)-1 < n {
		return 0, 0, api.ErrShort
	}
	if n > 0 && s[1] == 0 {
		return 0, 0, api.ErrForm
	}
	x := uint64(0)
	for i := 1; i <= n; i++ {
		x = x*256 + uint64(s[i])
	}
	return x, n + 1, api.OK
}

// check holds both readers to what is asked of the bytes s (upwards).
func check(t *testing.T, s string, x uint64, n int, e api.Errno) {
	t.Helper()
	if gx, gn, ge := num.Read(s); gx != x || gn != n || ge != e {
		t.Errorf("Read(%x): %d %d %v, not %d %d %v", s, gx, gn, ge, x, n, e)
	}
	if gx, gn, ge := num.ReadDown(turned(s)); gx != x || gn != n || ge != e {
		t.Errorf("ReadDown(%x): %d %d %v, not %d %d %v", turned(s), gx, gn, ge, x, n, e)
	}
}

// P1.1: the bytes themselves, written out, at the edges.
func TestBytesAtTheEdges(t *testing.T) {
	for _, c := range []struct {
		x        uint64
		up, down string
	}{
		{0, "\x00", "\xff"},
		{1, "\x01\x01", "\xfe\xfe"},
		{127, "\x01\x7f", "\xfe\x80"},
		{128, "\x01\x80", "\xfe\x7f"},
		{255, "\x01\xff", "\xfe\x00"},
		{256, "\x02\x01\x00", "\xfd\xfe\xff"},
		{65535, "\x02\xff\xff", "\xfd\x00\x00"},
		{65536, "\x03\x01\x00\x00", "\xfc\xfe\xff\xff"},
		{0x010203, "\x03\x01\x02\x03", "\xfc\xfe\xfd\xfc"},
		{math.MaxUint32, "\x04\xff\xff\xff\xff", "\xfb\x00\x00\x00\x00"},
		{math.MaxUint32 + 1, "\x05\x01\x00\x00\x00\x00", "\xfa\xfe\xff\xff\xff\xff"},
		{1 << 56, "\x08\x01\x00\x00\x00\x00\x00\x00\x00", "\xf7\xfe\xff\xff\xff\xff\xff\xff\xff"},
		{0x0123456789abcdef, "\x08\x01\x23\x45\x67\x89\xab\xcd\xef", "\xf7\xfe\xdc\xba\x98\x76\x54\x32\x10"},
		{math.MaxUint64, "\x08\xff\xff\xff\xff\xff\xff\xff\xff", "\xf7\x00\x00\x00\x00\x00\x00\x00\x00"},
	} {
		if got := num.Up(c.x); got != c.up {
			t.Errorf("Up(%d): %x, not %x", c.x, got, c.up)
		}
		if got := num.Down(c.x); got != c.down {
			t.Errorf("Down(%d): %x, not %x", c.x, got, c.down)
		}
		if got := num.Size(c.x); got != len(c.up) {
			t.Errorf("Size(%d): %d, not %d", c.x, got, len(c.up))
		}
	}
}

// P1.1: the same of many numbers.
func TestBytesOfMany(t *testing.T) {
	for _, x := range numbers() {
		want := bytesOf(x)
		if up, down, size := num.Up(x), num.Down(x), num.Size(x); up != want || down != turned(want) || size != len(want) {
			t.Fatalf("%d: %x %x %d, not %x", x, up, down, size, want)
		}
	}
}

// P1.2: right bytes, upwards and downwards.
func TestReadNumbers(t *testing.T) {
	check(t, "\x00", 0, 1, api.OK)
	check(t, "\x01\x01", 1, 2, api.OK)
	check(t, "\x01\xff", 255, 2, api.OK)
	check(t, "\x02\x01\x00", 256, 3, api.OK)
	check(t, "\x03\x01\x02\x03", 0x010203, 4, api.OK)
	check(t, "\x08\x01\x23\x45\x67\x89\xab\xcd\xef", 0x0123456789abcdef, 9, api.OK)
	check(t, "\x08\xff\xff\xff\xff\xff\xff\xff\xff", math.MaxUint64, 9, api.OK)
}

// P1.2: what stands behind is not looked at, be it wrong by itself.
func TestReadWithMoreBehind(t *testing.T) {
	for _, behind := range []string{"\x00", "\x09", "\xff", "\xf6", "\x01\x00", "z", "ä", strings.Repeat("\xff", 300)} {
		check(t, "\x00"+behind, 0, 1, api.OK)
		check(t, "\x01\x80"+behind, 128, 2, api.OK)
		check(t, "\x02\x01\x00"+behind, 256, 3, api.OK)
		check(t, "\x08\xff\xff\xff\xff\xff\xff\xff\xff"+behind, math.MaxUint64, 9, api.OK)
	}
}

// P1.2: nothing at all.
func TestReadNothing(t *testing.T) {
	check(t, "", 0, 0, api.ErrShort)
}

// P1.2: each first byte above 8, with few bytes, none or many behind it.
func TestReadFirstByteTooGreat(t *testing.T) {
	for b := 9; b < 256; b++ {
		first := string([]byte{byte(b)})
		check(t, first, 0, 0, api.ErrForm)
		check(t, first+"\x00", 0, 0, api.ErrForm)
		check(t, first+strings.Repeat("\x01", 300), 0, 0, api.ErrForm)
	}
}

// P1.2: a number that is cut anywhere. That too few follow goes ahead of a leading 0.
func TestReadTooFewBytes(t *testing.T) {
	for n := 1; n <= 8; n++ {
		for have := range n {
			first := string([]byte{byte(n)})
			check(t, first+strings.Repeat("\x07", have), 0, 0, api.ErrShort)
			check(t, first+strings.Repeat("\x00", have), 0, 0, api.ErrShort)
			check(t, first+strings.Repeat("\xff", have), 0, 0, api.ErrShort)
		}
	}
}

// P1.2: a leading 0, with all other bytes there.
func TestReadLeadingZero(t *testing.T) {
	for n := 1; n <= 8; n++ {
		first := string([]byte{byte(n), 0})
		check(t, first+strings.Repeat("\x00", n-1), 0, 0, api.ErrForm)
		check(t, first+strings.Repeat("\xff", n-1), 0, 0, api.ErrForm)
		check(t, first+strings.Repeat("\xff", n+3), 0, 0, api.ErrForm)
	}
}

// P1.2: any bytes whatever: all of up to two, and three- to eleven-byte ones that a rule makes.
func TestReadWhatever(t *testing.T) {
	one := func(s string) {
		x, n, e := readOf(s)
		check(t, s, x, n, e)
	}
	for a := range 256 {
		one(string([]byte{byte(a)}))
		for b := range 256 {
			one(string([]byte{byte(a), byte(b)}))
		}
	}
	edges := []byte{0, 1, 8, 9, 127, 128, 246, 247, 254, 255}
	seed := uint32(1)
	for first := range 12 {
		for _, second := range edges {
			for size := 3; size <= 11; size++ {
				s := []byte{byte(first), second}
				for len(s) < size {
					seed = seed*1664525 + 1013904223
					s = append(s, byte(seed>>24))
				}
				one(string(s))
			}
		}
	}
}

// P1.3: bytes sort as their numbers, downwards the other way round.
func TestOrder(t *testing.T) {
	l := numbers()
	for i := 1; i < len(l); i++ {
		a, b := l[i-1], l[i]
		if !(num.Up(a) < num.Up(b)) {
			t.Fatalf("Up: %d does not stand ahead of %d", a, b)
		}
		if !(num.Down(a) > num.Down(b)) {
			t.Fatalf("Down: %d does not stand behind %d", a, b)
		}
	}
}

// P1.3: order and beginnings of any two of a smaller row, not just of neighbours.
func TestAnyTwo(t *testing.T) {
	var l []uint64
	for i, x := range numbers() {
		if x > 69_000 || i%500 < 2 {
			l = append(l, x)
		}
	}
	for i, a := range l {
		for _, b := range l[i+1:] {
			if !(num.Up(a) < num.Up(b)) || !(num.Down(a) > num.Down(b)) {
				t.Fatalf("%d and %d are in the wrong order", a, b)
			}
			if oneBegins(num.Up(a), num.Up(b)) || oneBegins(num.Down(a), num.Down(b)) {
				t.Fatalf("of %d and %d one begins the other", a, b)
			}
		}
	}
}

// oneBegins tells if one of two texts begins the other.
func oneBegins(a, b string) bool { return strings.HasPrefix(a, b) || strings.HasPrefix(b, a) }

// P1.3: what was written is read as itself, whatever stands behind, another number too.
func TestReadWhatWasWritten(t *testing.T) {
	again := func(x uint64, s string, read reader) {
		t.Helper()
		for _, behind := range []string{"", "\x00", "\xff", "\x09z", s} {
			if y, n, e := read(s + behind); y != x || n != len(s) || e != api.OK {
				t.Fatalf("%d with %x behind: %d %d %v", x, behind, y, n, e)
			}
		}
	}
	for _, x := range numbers() {
		again(x, num.Up(x), num.Read)
		again(x, num.Down(x), num.ReadDown)
	}
}

// P1.3: a row of numbers is read again number by number.
func TestRow(t *testing.T) {
	l := []uint64{0, 1, 255, 256, 0, math.MaxUint64, 65536, 0}
	up, down := "", ""
	for _, x := range l {
		up, down = up+num.Up(x), down+num.Down(x)
	}
	for _, c := range []struct {
		s    string
		read reader
	}{{up, num.Read}, {down, num.ReadDown}} {
		rest := c.s
		for _, x := range l {
			y, n, e := c.read(rest)
			if y != x || n != num.Size(x) || e != api.OK {
				t.Fatalf("%d was read as %d, %d, %v", x, y, n, e)
			}
			rest = rest[n:]
		}
		if rest != "" {
			t.Errorf("%x is left", rest)
		}
	}
}

// FuzzRead: of any bytes whatever both readers answer as P1.2 says, and what they take is written the same again.
func FuzzRead(f *testing.F) {
	for _, s := range []string{"", "\x00", "\x09", "\x01", "\x01\x00", "\x02\x01\x00z", "\x08\xff\xff\xff\xff\xff\xff\xff\xff"} {
		f.Add(s)
	}
	f.Fuzz(func(t *testing.T, s string) {
		x, n, e := readOf(s)
		check(t, s, x, n, e)
		if e == api.OK && num.Up(x) != s[:n] {
			t.Errorf("%x was read as %d, which is written as %x", s[:n], x, num.Up(x))
		}
	})
}
