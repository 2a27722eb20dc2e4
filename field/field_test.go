package field_test

import (
	"math"
	"slices"
	"strings"
	"testing"
	"unsafe"

	"hoard/api"
	"hoard/field"
)

// powers are those of the divisor, as the chapter's Words tell them.
var powers = []int{8, 4, 3, 2, 0}

// product is the product as the chapter's Words say it: of polynomials, power by power, of which is kept what is left by the divisor.
func product(a, b byte) byte {
	var row [15]byte
	for i := range 8 {
		for j := range 8 {
			row[i+j] ^= (a >> i) & (b >> j) & 1
		}
	}
	for top := 14; top >= 8; top-- {
		if row[top] == 0 {
			continue
		}
		for _, p := range powers {
			row[top-8+p] ^= 1
		}
	}
	x := byte(0)
	for i := range 8 {
		x |= row[i] << i
	}
	return x
}

// table has all products, as the Words say them.
func table() *[256][256]byte {
	var l [256][256]byte
	for a := range 256 {
		for b := range 256 {
			l[a][b] = product(byte(a), byte(b))
		}
	}
	return &l
}

// sumOf is the sum of texts of one length, each multiplied by its byte of c, as the Words say it.
func sumOf(c string, l []string) string {
	if len(l) == 0 {
		return ""
	}
	sum := make([]byte, len(l[0]))
	for i, s := range l {
		for j := range len(s) {
			sum[j] ^= product(c[i], s[j])
		}
	}
	return string(sum)
}

// chance makes numbers by a rule.
type chance uint64

func (c *chance) next() uint32 {
	*c = *c*6364136223846793005 + 1442695040888963407
	return uint32(*c >> 32)
}

// below makes a number below n.
func (c *chance) below(n int) int { return int(c.next() % uint32(n)) }

// text makes one of n bytes.
func (c *chance) text(n int) string {
	l := make([]byte, n)
	for i := range l {
		l[i] = byte(c.next() >> 24)
	}
	return string(l)
}

// texts makes n of size bytes each.
func (c *chance) texts(n, size int) []string {
	l := make([]string, n)
	for i := range l {
		l[i] = c.text(size)
	}
	return l
}

// every is a text that has each element once.
func every() string {
	l := make([]byte, 256)
	for i := range l {
		l[i] = byte(i)
	}
	return string(l)
}

// ones is a text that has n times 1.
func ones(n int) string { return strings.Repeat("\x01", n) }

// uneven are rows of texts of which one has another length than the others: a byte more, a byte fewer, wherever it stands.
func uneven() [][]string {
	var rows [][]string
	for _, size := range []int{0, 1, 2, 5, 255, 256} {
		for n := 2; n < 7; n++ {
			for at := range n {
				l := make([]string, n)
				for i := range l {
					l[i] = strings.Repeat("x", size)
				}
				longer, shorter := slices.Clone(l), slices.Clone(l)
				longer[at] += "\x00"
				rows = append(rows, longer)
				if size > 0 {
					shorter[at] = shorter[at][1:]
					rows = append(rows, shorter)
				}
			}
		}
	}
	return append(rows, []string{"", "abc"}, []string{"abc", ""}, []string{"a", "bc"}, []string{"ab", "abc", "a"}, []string{"a", "ab", "a", "ab"})
}

// P4.1: the sum of each pair: a bit is 1 if it is 1 of just one of them.
func TestAdd(t *testing.T) {
	for a := range 256 {
		for b := range 256 {
			want := byte(0)
			for bit := byte(1); bit != 0; bit <<= 1 {
				if (byte(a)&bit == 0) != (byte(b)&bit == 0) {
					want |= bit
				}
			}
			if x := field.Add(byte(a), byte(b)); x != want {
				t.Fatalf("Add(%d, %d): %d, not %d", a, b, x, want)
			}
		}
	}
}

// P4.1: products that are known.
func TestKnownProducts(t *testing.T) {
	for _, c := range []struct{ a, b, want byte }{
		{0, 0, 0}, {0, 1, 0}, {1, 0, 0}, {0, 255, 0}, {255, 0, 0}, {0, 5, 0},
		{1, 1, 1}, {1, 2, 2}, {2, 1, 2}, {1, 255, 255}, {255, 1, 255},
		{2, 64, 128}, {2, 128, 29}, {128, 2, 29}, {4, 128, 58}, {3, 7, 9}, {7, 3, 9},
		{16, 16, 29}, {2, 142, 1}, {3, 244, 1}, {128, 128, 19},
	} {
		if x := field.Mul(c.a, c.b); x != c.want {
			t.Errorf("Mul(%d, %d): %d, not %d", c.a, c.b, x, c.want)
		}
	}
}

// P4.1: the product of each pair is as the Words say; with 0 it is 0, with 1 it is the other one.
func TestMulOfEachPair(t *testing.T) {
	for a := range 256 {
		for b := range 256 {
			if x, want := field.Mul(byte(a), byte(b)), product(byte(a), byte(b)); x != want {
				t.Fatalf("Mul(%d, %d): %d, not %d", a, b, x, want)
			}
		}
		x := byte(a)
		if field.Mul(x, 0) != 0 || field.Mul(0, x) != 0 || field.Mul(x, 1) != x || field.Mul(1, x) != x {
			t.Errorf("%d by 0 and 1: %d %d %d %d", a, field.Mul(x, 0), field.Mul(0, x), field.Mul(x, 1), field.Mul(1, x))
		}
	}
}

// P4.1: the inverse of each element; 0 has none.
func TestInv(t *testing.T) {
	if x, e := field.Inv(0); x != 0 || e != api.ErrZero {
		t.Errorf("Inv(0): %d %v", x, e)
	}
	for _, c := range []struct{ a, want byte }{{1, 1}, {2, 142}, {142, 2}, {3, 244}, {244, 3}, {4, 71}} {
		if x, e := field.Inv(c.a); x != c.want || e != api.OK {
			t.Errorf("Inv(%d): %d %v, not %d", c.a, x, e, c.want)
		}
	}
	of := map[byte]byte{}
	for a := 1; a < 256; a++ {
		x, e := field.Inv(byte(a))
		if product(x, byte(a)) != 1 || e != api.OK {
			t.Errorf("Inv(%d): %d %v", a, x, e)
		}
		if other, is := of[x]; is {
			t.Errorf("%d is the inverse of %d and of %d", x, other, a)
		}
		of[x] = byte(a)
	}
}

// P4.1: the quotient of each pair; by 0 there is none, not of 0 either; of 0 it is 0, by 1 it is the element itself.
func TestDivOfEachPair(t *testing.T) {
	for a := range 256 {
		if x, e := field.Div(byte(a), 0); x != 0 || e != api.ErrZero {
			t.Errorf("Div(%d, 0): %d %v", a, x, e)
		}
		if x, e := field.Div(byte(a), 1); x != byte(a) || e != api.OK {
			t.Errorf("Div(%d, 1): %d %v", a, x, e)
		}
		for b := 1; b < 256; b++ {
			if x, e := field.Div(byte(a), byte(b)); product(x, byte(b)) != byte(a) || e != api.OK {
				t.Fatalf("Div(%d, %d): %d %v", a, b, x, e)
			}
		}
	}
	for b := 1; b < 256; b++ {
		if x, e := field.Div(0, byte(b)); x != 0 || e != api.OK {
			t.Errorf("Div(0, %d): %d %v", b, x, e)
		}
		if x, e := field.Div(byte(b), byte(b)); x != 1 || e != api.OK {
			t.Errorf("Div(%d, %d): %d %v", b, b, x, e)
		}
	}
	if x, e := field.Div(29, 2); x != 128 || e != api.OK {
		t.Errorf("Div(29, 2): %d %v", x, e)
	}
}

// P4.1: powers that are known, of 0 and 1 too.
func TestKnownPowers(t *testing.T) {
	for _, c := range []struct {
		a    byte
		n    int
		want byte
	}{
		{2, 0, 1}, {2, -5, 1}, {2, 1, 2}, {2, 7, 128}, {2, 8, 29}, {2, 254, 142}, {2, 255, 1}, {2, 256, 2}, {2, 510, 1}, {2, 511, 2},
		{0, 0, 1}, {0, -1, 1}, {0, 1, 0}, {0, 3, 0}, {0, 254, 0}, {0, 255, 0}, {0, 256, 0}, {0, 510, 0}, {0, math.MaxInt, 0}, {0, math.MinInt, 1},
		{1, 0, 1}, {1, 1, 1}, {1, 254, 1}, {1, 255, 1}, {1, math.MaxInt, 1}, {1, math.MinInt, 1},
		{3, 2, 5}, {255, 1, 255}, {255, 255, 1}, {255, 256, 255},
	} {
		if x := field.Pow(c.a, c.n); x != c.want {
			t.Errorf("Pow(%d, %d): %d, not %d", c.a, c.n, x, c.want)
		}
	}
}

// P4.1: each element's powers: 1 of n of 0 and below, and then product by product.
func TestPowOfEach(t *testing.T) {
	of := table()
	for a := range 256 {
		for _, n := range []int{math.MinInt, math.MinInt + 1, math.MinInt32, -511, -256, -255, -254, -2, -1, 0} {
			if x := field.Pow(byte(a), n); x != 1 {
				t.Errorf("Pow(%d, %d): %d", a, n, x)
			}
		}
		want := byte(1)
		for n := 1; n < 1100; n++ {
			want = of[want][a]
			if x := field.Pow(byte(a), n); x != want {
				t.Fatalf("Pow(%d, %d): %d, not %d", a, n, x, want)
			}
		}
	}
}

// P4.1: powers of great n, which are told here by squares.
func TestPowOfGreatN(t *testing.T) {
	of := table()
	great := []int{65535, 65536, 65537, 1 << 24, math.MaxInt32 - 1, math.MaxInt32, math.MaxInt / 255 * 255, math.MaxInt/254 - 1, math.MaxInt / 254, math.MaxInt/254 + 1}
	for i := range 300 {
		great = append(great, math.MaxInt-i)
	}
	for a := range 256 {
		for _, n := range great {
			want, square := byte(1), byte(a)
			for left := n; left > 0; left /= 2 {
				if left%2 == 1 {
					want = of[want][square]
				}
				square = of[square][square]
			}
			if x := field.Pow(byte(a), n); x != want {
				t.Fatalf("Pow(%d, %d): %d, not %d", a, n, x, want)
			}
		}
	}
}

// answers has what Mul answers of each pair.
func answers() *[256][256]byte {
	var l [256][256]byte
	for a := range 256 {
		for b := range 256 {
			l[a][b] = field.Mul(byte(a), byte(b))
		}
	}
	return &l
}

// P4.3: sums and products go in any order; each element is its own opposite, 0 and 1 change nothing; what is multiplied is divided again.
func TestFieldOfEachPair(t *testing.T) {
	for i := range 256 {
		a := byte(i)
		if field.Add(a, a) != 0 || field.Add(a, 0) != a || field.Mul(a, 1) != a || field.Mul(a, 0) != 0 {
			t.Errorf("%d with itself, 0 and 1", a)
		}
		for j := range 256 {
			b := byte(j)
			if field.Add(a, b) != field.Add(b, a) || field.Mul(a, b) != field.Mul(b, a) {
				t.Fatalf("%d and %d, the other way round", a, b)
			}
			if a != 0 && b != 0 && field.Mul(a, b) == 0 {
				t.Fatalf("the product of %d and %d is 0", a, b)
			}
			if x, e := field.Div(field.Mul(a, b), b); b != 0 && (x != a || e != api.OK) {
				t.Fatalf("%d by %d, and divided: %d %v", a, b, x, e)
			}
			x, e := field.Div(a, b)
			y, f := field.Inv(b)
			if e != f || e == api.OK && x != field.Mul(a, y) {
				t.Fatalf("%d divided by %d: %d %v; the inverse: %d %v", a, b, x, e, y, f)
			}
		}
	}
}

// P4.3: sums and products go in any grouping, products over sums: of each three elements.
func TestFieldOfEachThree(t *testing.T) {
	mul := answers()
	for a := range 256 {
		for b := range 256 {
			ab := mul[a][b]
			for c := range 256 {
				x, y, z := byte(a), byte(b), byte(c)
				if field.Add(field.Add(x, y), z) != field.Add(x, field.Add(y, z)) {
					t.Fatalf("sums of %d, %d and %d", a, b, c)
				}
				if mul[ab][z] != mul[x][mul[y][z]] {
					t.Fatalf("products of %d, %d and %d", a, b, c)
				}
				if mul[x][field.Add(y, z)] != field.Add(ab, mul[x][z]) {
					t.Fatalf("%d by the sum of %d and %d", a, b, c)
				}
			}
		}
	}
}

// P4.3: the powers of 2 are all elements but 0, each of them once in 255.
func TestPowersOfTwo(t *testing.T) {
	at := map[byte]int{}
	for n := range 255 {
		x := field.Pow(2, n)
		if before, is := at[x]; is || x == 0 {
			t.Errorf("the powers %d and %d of 2 are %d", before, n, x)
		}
		at[x] = n
		if next := field.Pow(2, n+1); next != field.Mul(2, x) {
			t.Errorf("the power %d of 2 is %d, the next one %d", n, x, next)
		}
	}
	if len(at) != 255 || field.Pow(2, 255) != 1 {
		t.Errorf("%d powers of 2, then %d", len(at), field.Pow(2, 255))
	}
}

// P4.2: sums of texts, written out: of none, of one, of empty ones, of more.
func TestPlusWrittenOut(t *testing.T) {
	for _, c := range []struct {
		l    []string
		want string
	}{
		{nil, ""},
		{[]string{}, ""},
		{[]string{""}, ""},
		{[]string{"", "", ""}, ""},
		{[]string{"a"}, "a"},
		{[]string{"\x00"}, "\x00"},
		{[]string{"\xff\x00\x80"}, "\xff\x00\x80"},
		{[]string{"a", "a"}, "\x00"},
		{[]string{"a", "a", "a"}, "a"},
		{[]string{"ab", "ab", "xy"}, "xy"},
		{[]string{"\x01\x02", "\x01\x01"}, "\x00\x03"},
		{[]string{"\x0f\xff", "\xf0\xff", "\x01\x80"}, "\xfe\x80"},
		{[]string{"\x01", "\x02", "\x04", "\x08", "\x10", "\x20", "\x40", "\x80"}, "\xff"},
		{[]string{"ä", "\x00\x00"}, "ä"},
	} {
		if s, e := field.Plus(c.l...); s != c.want || e != api.OK {
			t.Errorf("Plus(%q): %x %v, not %x", c.l, s, e, c.want)
		}
	}
	if s, e := field.Plus(); s != "" || e != api.OK {
		t.Errorf("Plus(): %x %v", s, e)
	}
}

// P4.2: sums of texts by a rule are element by element the sum of all, in whatever order.
func TestPlus(t *testing.T) {
	c := chance(1)
	for n := range 34 {
		for _, size := range []int{0, 1, 2, 7, 8, 9, 64, 255, 256, 257} {
			l := c.texts(n, size)
			want := ""
			if n > 0 {
				sum := make([]byte, size)
				for _, s := range l {
					for i := range sum {
						sum[i] = field.Add(sum[i], s[i])
					}
				}
				want = string(sum)
			}
			if s, e := field.Plus(l...); s != want || e != api.OK {
				t.Fatalf("%d texts of %d bytes: %x %v, not %x", n, size, s, e, want)
			}
			slices.Reverse(l)
			if s, e := field.Plus(l...); s != want || e != api.OK {
				t.Fatalf("%d texts of %d bytes, the last one first: %x %v, not %x", n, size, s, e, want)
			}
		}
	}
}

// P4.2: texts of several lengths have no sum.
func TestPlusUneven(t *testing.T) {
	for _, l := range uneven() {
		if s, e := field.Plus(l...); s != "" || e != api.ErrArg {
			t.Errorf("Plus(%q): %x %v", l, s, e)
		}
	}
}

// P4.2: each element's product with each c; the text by 0 is as long, by 1 itself.
func TestTimes(t *testing.T) {
	r := chance(2)
	all := every()
	long := r.text(1000)
	for c := range 256 {
		for _, s := range []string{"", "\x00", "\x01", "\xff", "ä", all, all + all[:1], long} {
			want := make([]byte, len(s))
			for i := range want {
				want[i] = product(byte(c), s[i])
			}
			if got := field.Times(byte(c), s); got != string(want) {
				t.Fatalf("Times(%d, %x): %x, not %x", c, s, got, want)
			}
		}
	}
	if s := field.Times(0, long); s != strings.Repeat("\x00", 1000) {
		t.Errorf("by 0: %x", s)
	}
	if s := field.Times(1, long); s != long {
		t.Errorf("by 1: %x", s)
	}
	if s := field.Times(2, "\x80\x01"); s != "\x1d\x02" {
		t.Errorf("by 2: %x", s)
	}
}

// P4.2: sums of products, written out: of no text, of one, of empty ones, of more.
func TestSumWrittenOut(t *testing.T) {
	for _, c := range []struct {
		c    string
		l    []string
		want string
	}{
		{"", nil, ""},
		{"", []string{}, ""},
		{"\x05", []string{""}, ""},
		{"\x00\x01\x02", []string{"", "", ""}, ""},
		{"\x00", []string{"abc"}, "\x00\x00\x00"},
		{"\x01", []string{"abc"}, "abc"},
		{"\x02", []string{"\x80\x01"}, "\x1d\x02"},
		{"\x02\x03", []string{"\x01\x02", "\x01\x01"}, "\x01\x07"},
		{"\x03\x02", []string{"\x01\x02", "\x01\x01"}, "\x01\x04"},
		{"\x01\x01", []string{"ab", "ab"}, "\x00\x00"},
		{"\x01\x00", []string{"ab", "xy"}, "ab"},
		{"\x00\x01", []string{"ab", "xy"}, "xy"},
		{"\x00\x00", []string{"ab", "xy"}, "\x00\x00"},
		{"\x02\x8e", []string{"\x8e", "\x02"}, "\x00"},
	} {
		if s, e := field.Sum(c.c, c.l...); s != c.want || e != api.OK {
			t.Errorf("Sum(%x, %x): %x %v, not %x", c.c, c.l, s, e, c.want)
		}
	}
	if s, e := field.Sum(""); s != "" || e != api.OK {
		t.Errorf("Sum of none: %x %v", s, e)
	}
}

// P4.2: sums of products by a rule are as the Words say, and as the other calls have them.
func TestSum(t *testing.T) {
	r := chance(3)
	for n := range 34 {
		for _, size := range []int{0, 1, 2, 9, 64, 255, 256, 257} {
			c, l := r.text(n), r.texts(n, size)
			want := sumOf(c, l)
			if s, e := field.Sum(c, l...); s != want || e != api.OK {
				t.Fatalf("Sum(%x) of %d texts of %d bytes: %x %v, not %x", c, n, size, s, e, want)
			}
			times := make([]string, n)
			for i, s := range l {
				times[i] = field.Times(c[i], s)
			}
			if s, e := field.Plus(times...); s != want || e != api.OK {
				t.Fatalf("Plus of %d Times of %d bytes: %x %v, not %x", n, size, s, e, want)
			}
			plus, _ := field.Plus(l...)
			if s, e := field.Sum(ones(n), l...); s != plus || e != api.OK {
				t.Fatalf("the sum of %d texts of %d bytes by 1: %x %v, not %x", n, size, s, e, plus)
			}
		}
	}
}

// P4.2: one text, all elements, by each c.
func TestSumOfOneText(t *testing.T) {
	for c := range 256 {
		if s, e := field.Sum(string([]byte{byte(c)}), every()); s != sumOf(string([]byte{byte(c)}), []string{every()}) || e != api.OK {
			t.Fatalf("by %d: %x %v", c, s, e)
		}
	}
}

// P4.2: texts of several lengths have no sum, by whatever c.
func TestSumUneven(t *testing.T) {
	for _, l := range uneven() {
		n := len(l)
		for _, c := range []string{ones(n), strings.Repeat("\x00", n), strings.Repeat("\xff", n), ones(n + 1), ones(n - 1), ""} {
			if s, e := field.Sum(c, l...); s != "" || e != api.ErrArg {
				t.Errorf("Sum(%x, %q): %x %v", c, l, s, e)
			}
		}
	}
}

// P4.2: c with other than a byte for each text.
func TestSumOfWrongC(t *testing.T) {
	r := chance(4)
	for n := range 34 {
		for _, size := range []int{0, 1, 2, 34, 256} {
			l := r.texts(n, size)
			for _, other := range []int{0, n - 2, n - 1, n + 1, n + 2, 2 * n, 256, n + 256} {
				if other < 0 || other == n {
					continue
				}
				for _, c := range []string{ones(other), strings.Repeat("\x00", other), r.text(other)} {
					if s, e := field.Sum(c, l...); s != "" || e != api.ErrArg {
						t.Fatalf("c of %d bytes, %d texts of %d: %x %v", other, n, size, s, e)
					}
				}
			}
		}
	}
}

// P4.3: texts are as elements: each is its own opposite, products go over sums, and are undone by the inverse.
func TestTextsAreAsElements(t *testing.T) {
	r := chance(5)
	for c := 1; c < 256; c++ {
		a, b := r.text(50), r.text(50)
		if s, e := field.Plus(a, a); s != strings.Repeat("\x00", 50) || e != api.OK {
			t.Errorf("a text with itself: %x %v", s, e)
		}
		plus, _ := field.Plus(a, b)
		if s, e := field.Plus(field.Times(byte(c), a), field.Times(byte(c), b)); s != field.Times(byte(c), plus) || e != api.OK {
			t.Errorf("a sum by %d: %x %v", c, s, e)
		}
		x, _ := field.Inv(byte(c))
		if s := field.Times(x, field.Times(byte(c), a)); s != a {
			t.Errorf("by %d and by %d: %x, not %x", c, x, s, a)
		}
	}
}

// R5: lists that are handed in are as they were, and none is kept.
func TestListsAreNotKept(t *testing.T) {
	l := []string{"\x01\x02", "\x01\x01"}
	for range 2 {
		if s, e := field.Sum("\x02\x03", l...); s != "\x01\x07" || e != api.OK {
			t.Errorf("Sum: %x %v", s, e)
		}
		if s, e := field.Plus(l...); s != "\x00\x03" || e != api.OK {
			t.Errorf("Plus: %x %v", s, e)
		}
		if !slices.Equal(l, []string{"\x01\x02", "\x01\x01"}) {
			t.Fatalf("the list is another one now: %x", l)
		}
	}
	l[0] = "\x00\x00"
	if s, e := field.Plus(l...); s != "\x01\x01" || e != api.OK {
		t.Errorf("Plus of another text: %x %v", s, e)
	}
}

// within tells if a's bytes are some of b's.
func within(a, b string) bool {
	at := uintptr(unsafe.Pointer(unsafe.StringData(a)))
	from := uintptr(unsafe.Pointer(unsafe.StringData(b)))
	return at >= from && at < from+uintptr(len(b))
}

// R5: answers are memory of their own, also where they are the same as what was handed in.
func TestAnswersAreNew(t *testing.T) {
	s := strings.Repeat("hoard", 20)
	none := strings.Repeat("\x00", len(s))
	one, _ := field.Plus(s)
	two, _ := field.Plus(none, s)
	sum, _ := field.Sum("\x01\x00", s, s)
	for i, got := range []string{one, two, sum, field.Times(1, s)} {
		if got != s {
			t.Errorf("answer %d: %q", i, got)
		}
		if within(got, s) {
			t.Errorf("answer %d is bytes of what was handed in", i)
		}
	}
}

// FuzzSum: of whatever elements and texts Sum, Times and Plus answer as the Words say.
func FuzzSum(f *testing.F) {
	f.Add("", "", 0)
	f.Add("\x02\x03", "\x01\x02\x01\x01", 2)
	f.Add("\x02\x03\x04", "\x01\x02\x01\x01", 2)
	f.Add("\x00\xff", "abcdef", 3)
	f.Fuzz(func(t *testing.T, c, s string, size int) {
		var l []string
		for size > 0 && s != "" {
			n := min(size, len(s))
			l = append(l, s[:n])
			s = s[n:]
		}
		even := len(l) == 0 || len(l[len(l)-1]) == len(l[0])
		got, e := field.Sum(c, l...)
		if even && len(c) == len(l) {
			if want := sumOf(c, l); got != want || e != api.OK {
				t.Errorf("Sum(%x, %x): %x %v, not %x", c, l, got, e, want)
			}
		} else if got != "" || e != api.ErrArg {
			t.Errorf("Sum(%x, %x): %x %v", c, l, got, e)
		}
		got, e = field.Plus(l...)
		if even {
			if want := sumOf(ones(len(l)), l); got != want || e != api.OK {
				t.Errorf("Plus(%x): %x %v, not %x", l, got, e, want)
			}
		} else if got != "" || e != api.ErrArg {
			t.Errorf("Plus(%x): %x %v", l, got, e)
		}
	})
}
