package code_test

import (
	"math"
	"math/bits"
	"runtime"
	"slices"
	"strings"
	"sync"
	"testing"
	"time"
	"unsafe"

	"hoard/api"
	"hoard/code"
)

// product is the product of two elements as the field's Words say it: of polynomials, of which is kept what is left by the divisor.
func product(a, b byte) byte {
	row := 0
	for i := range 8 {
		if a>>i&1 == 1 {
			row ^= int(b) << i
		}
	}
	for top := 14; top >= 8; top-- {
		if row>>top&1 == 1 {
			row ^= 0x11d << (top - 8)
		}
	}
	return byte(row)
}

// mul has all products, inv all inverses (0 of 0, which has none).
var mul, inv = tables()

func tables() (*[256][256]byte, *[256]byte) {
	var l [256][256]byte
	var of [256]byte
	for a := range 256 {
		for b := range 256 {
			l[a][b] = product(byte(a), byte(b))
			if l[a][b] == 1 {
				of[a] = byte(b)
			}
		}
	}
	return &l, &of
}

// size is the least number of bytes that does it, looked for one by one.
func size(k, total int) int {
	n := 0
	for n*k < total {
		n++
	}
	return n
}

// split is the first k parts as the Words say it.
func split(k int, text string) []string {
	n := size(k, len(text))
	text += strings.Repeat("\x00", n*k-len(text))
	l := make([]string, k)
	for i := range l {
		l[i] = text[i*n : (i+1)*n]
	}
	return l
}

// spread is k parts, and r more by the rows of Cauchy(r, k): at row i and column j the inverse of the sum of the elements k + i and j.
func spread(r int, first []string) []string {
	k := len(first)
	l := slices.Clone(first)
	for i := range r {
		sum := make([]byte, len(first[0]))
		for j, s := range first {
			c := inv[byte(k+i)^byte(j)]
			for at := range sum {
				sum[at] ^= mul[c][s[at]]
			}
		}
		l = append(l, string(sum))
	}
	return l
}

// chance makes numbers by a rule.
type chance uint64

func (c *chance) next() uint32 {
	*c = *c*6364136223846793005 + 1442695040888963407
	return uint32(*c >> 32)
}

// below makes a number below n.
func (c *chance) below(n int) int { return int(c.next() % uint32(n)) }

// text makes one of n bytes.
func (c *chance) text(n int) string {
	l := make([]byte, n)
	for i := range l {
		l[i] = byte(c.next() >> 24)
	}
	return string(l)
}

// texts makes n of size bytes each.
func (c *chance) texts(n, size int) []string {
	l := make([]string, n)
	for i := range l {
		l[i] = c.text(size)
	}
	return l
}

// order makes the numbers below n in some order.
func (c *chance) order(n int) []int {
	l := make([]int, n)
	for i := range l {
		l[i] = i
	}
	for i := range l {
		j := i + c.below(n-i)
		l[i], l[j] = l[j], l[i]
	}
	return l
}

// mix puts parts in some order.
func (c *chance) mix(l []api.Part) []api.Part {
	mixed := make([]api.Part, len(l))
	for i, j := range c.order(len(l)) {
		mixed[i] = l[j]
	}
	return mixed
}

// part is that one.
func part(index int, text string) api.Part { return api.Part{Index: index, Text: text} }

// list is these parts.
func list(l ...api.Part) []api.Part { return l }

// parts are those of these Indexes.
func parts(all []string, indexes ...int) []api.Part {
	l := make([]api.Part, len(indexes))
	for i, index := range indexes {
		l[i] = api.Part{Index: index, Text: all[index]}
	}
	return l
}

// every is all parts.
func every(all []string) []api.Part {
	l := make([]api.Part, len(all))
	for i, s := range all {
		l[i] = api.Part{Index: i, Text: s}
	}
	return l
}

// choices are all ways to choose k numbers below n, rising.
func choices(n, k int) [][]int {
	var l [][]int
	for set := range 1 << n {
		if bits.OnesCount(uint(set)) != k {
			continue
		}
		var one []int
		for i := range n {
			if set>>i&1 == 1 {
				one = append(one, i)
			}
		}
		l = append(l, one)
	}
	return l
}

// pairs are all k and r by which a text can be spread.
func pairs() [][2]int {
	var l [][2]int
	for k := 1; k <= api.MaxSpread; k++ {
		for r := 0; k+r <= api.MaxSpread; r++ {
			l = append(l, [2]int{k, r})
		}
	}
	return l
}

// far are numbers far below and far above, bytes of some of which are those of numbers that are near.
var far = []int{math.MinInt, math.MinInt + 1, -1 << 32, math.MinInt32, -1 << 16, -257, -256, -255, -64, -33, -32, 64, 255, 256, 257, 1 << 16, 1<<16 + 1, math.MaxInt32, 1 << 32, 1<<32 + 1, math.MaxInt - 31, math.MaxInt - 1, math.MaxInt}

// wrongK are numbers of first parts that there may not be.
func wrongK() []int { return append([]int{-31, -2, -1, 0, 33, 34, 63}, far...) }

// wrongPairs are k and r by which no text can be spread: one of both may not be, or their sum (which may be a number that is allowed, where they are not).
func wrongPairs() [][2]int {
	l := [][2]int{{-1, 2}, {-1, 33}, {0, 1}, {0, 32}, {33, -1}, {33, -2}, {33, -32}, {64, -32}, {64, -63}, {2, -1}, {3, -1}, {32, -31}, {-31, 32}, {-32, 64}, {16, 17}, {17, 16}, {31, 2}, {2, 31}, {-1, -1}, {-2, -3}, {math.MaxInt, math.MinInt + 2}, {math.MinInt, math.MinInt + 1}, {math.MinInt + 1, math.MaxInt}, {math.MinInt + 33, math.MaxInt}}
	for _, x := range far {
		l = append(l, [2]int{1, x}, [2]int{x, 0}, [2]int{x, 1}, [2]int{32, x}, [2]int{2, x}, [2]int{x, x}, [2]int{x, -1}, [2]int{x, -x}, [2]int{1, -x - 1})
	}
	for k := 1; k <= api.MaxSpread; k++ {
		l = append(l, [2]int{k, -1}, [2]int{k, -2}, [2]int{k, -k}, [2]int{k, 1 - k}, [2]int{k, 33 - k}, [2]int{k, 34 - k}, [2]int{33, -k}, [2]int{-k, 33}, [2]int{-k, 32}, [2]int{0, k})
	}
	return slices.DeleteFunc(l, func(p [2]int) bool { // where one of the rows above hits upon a pair that may be
		return p[0] >= 1 && p[0] <= 32 && p[1] >= 0 && p[1] <= 32 && p[0]+p[1] <= 32
	})
}

// isNone tells if there is no text, beside that error.
func isNone(s string, e, want api.Errno) bool { return s == "" && e == want }

// P6.1: the least number of bytes that does it, of each k.
func TestSize(t *testing.T) {
	for k := 1; k <= api.MaxSpread; k++ {
		for total := range 1100 {
			if n := code.Size(k, total); n != size(k, total) {
				t.Fatalf("Size(%d, %d): %d, not %d", k, total, n, size(k, total))
			}
		}
	}
	for _, c := range [][3]int{{1, 0, 0}, {32, 0, 0}, {1, 1, 1}, {32, 1, 1}, {32, 32, 1}, {32, 33, 2}, {2, 3, 2}, {2, 4, 2}, {2, 5, 3}, {3, 9, 3}, {3, 10, 4}} {
		if n := code.Size(c[0], c[1]); n != c[2] {
			t.Errorf("Size(%d, %d): %d, not %d", c[0], c[1], n, c[2])
		}
	}
}

// P6.1: of great totals too, up to the greatest number.
func TestSizeOfGreatTotals(t *testing.T) {
	for k := 1; k <= api.MaxSpread; k++ {
		for _, from := range []int{1 << 16, math.MaxInt32 - 33, 1<<32 - 33, 1 << 53, math.MaxInt - 98} {
			for i := range 99 {
				total := from + i
				n := code.Size(k, total)
				high, low := bits.Mul64(uint64(n), uint64(k))
				enough := high > 0 || low >= uint64(total)
				high, low = bits.Mul64(uint64(n-1), uint64(k))
				if n < 1 || !enough || high > 0 || low >= uint64(total) {
					t.Fatalf("Size(%d, %d): %d", k, total, n)
				}
			}
		}
	}
}

// P6.1: 0, where k or total may not be, or both.
func TestSizeOfWrongNumbers(t *testing.T) {
	for _, k := range wrongK() {
		for _, total := range []int{0, 1, 2, 31, 32, 33, 100, 1 << 20, math.MaxInt, -1, math.MinInt, k, -k} {
			if n := code.Size(k, total); n != 0 {
				t.Errorf("Size(%d, %d): %d", k, total, n)
			}
		}
	}
	for k := 1; k <= api.MaxSpread; k++ {
		for _, total := range []int{-1, -2, -k, -k - 1, -33, -256, -1000, math.MinInt32, -1 << 32, math.MinInt + 1, math.MinInt} {
			if n := code.Size(k, total); n != 0 {
				t.Errorf("Size(%d, %d): %d", k, total, n)
			}
		}
	}
}

// P6.1: first parts that are known.
func TestSplitWrittenOut(t *testing.T) {
	for _, c := range []struct {
		k    int
		text string
		want []string
	}{
		{1, "", []string{""}},
		{3, "", []string{"", "", ""}},
		{1, "a", []string{"a"}},
		{1, "abc", []string{"abc"}},
		{1, "\x00", []string{"\x00"}},
		{2, "a", []string{"a", "\x00"}},
		{2, "abc", []string{"ab", "c\x00"}},
		{2, "abcd", []string{"ab", "cd"}},
		{3, "abcd", []string{"ab", "cd", "\x00\x00"}},
		{3, "abcde", []string{"ab", "cd", "e\x00"}},
		{4, "abcde", []string{"ab", "cd", "e\x00", "\x00\x00"}},
		{4, "abcdefghi", []string{"abc", "def", "ghi", "\x00\x00\x00"}},
		{5, "abcdef", []string{"ab", "cd", "ef", "\x00\x00", "\x00\x00"}},
		{3, "\x00\x00\x00\x00", []string{"\x00\x00", "\x00\x00", "\x00\x00"}},
		{2, "ä\xff", []string{"ä", "\xff\x00"}},
	} {
		if l, e := code.Split(c.k, c.text); !slices.Equal(l, c.want) || e != api.OK {
			t.Errorf("Split(%d, %q): %q %v, not %q", c.k, c.text, l, e, c.want)
		}
	}
	if l, e := code.Split(32, "a"); !slices.Equal(l, append([]string{"a"}, slices.Repeat([]string{"\x00"}, 31)...)) || e != api.OK {
		t.Errorf("a over 32: %q %v", l, e)
	}
}

// P6.1: the first k parts of texts of all lengths, for each k; and that they are the text.
func TestSplit(t *testing.T) {
	r := chance(1)
	for k := 1; k <= api.MaxSpread; k++ {
		for _, total := range lengths(k) {
			text := r.text(total)
			l, e := code.Split(k, text)
			if !slices.Equal(l, split(k, text)) || e != api.OK {
				t.Fatalf("Split(%d) of %d bytes: %x %v", k, total, l, e)
			}
			if s := strings.Join(l, ""); s[:total] != text || strings.Trim(s[total:], "\x00") != "" {
				t.Fatalf("Split(%d) of %d bytes is together %x", k, total, s)
			}
		}
	}
}

// lengths are those that texts are tried with: none, one, about each multiple of k that is near, and greater ones.
func lengths(k int) []int {
	l := []int{0, 1, 2, 3}
	for n := 1; n <= 3; n++ {
		l = append(l, n*k-1, n*k, n*k+1)
	}
	return append(l, 100, 255, 256, 257, 1000, 31*k+k/2, 32*k)
}

// P6.1: there are no parts, where k may not be.
func TestSplitWrong(t *testing.T) {
	for _, k := range wrongK() {
		for _, text := range []string{"", "a", "abc", strings.Repeat("x", 33)} {
			if l, e := code.Split(k, text); len(l) != 0 || e != api.ErrArg {
				t.Errorf("Split(%d, %q): %q %v", k, text, l, e)
			}
		}
	}
}

// P6.1: parts that are known.
func TestSpreadWrittenOut(t *testing.T) {
	for _, c := range []struct {
		k, r int
		text string
		want []string
	}{
		{1, 0, "", []string{""}},
		{1, 0, "abc", []string{"abc"}},
		{1, 1, "", []string{"", ""}},
		{1, 1, "a", []string{"a", "a"}},
		{1, 2, "\x01", []string{"\x01", "\x01", "\x8e"}},
		{1, 2, "\x02\x00", []string{"\x02\x00", "\x02\x00", "\x01\x00"}},
		{2, 0, "abc", []string{"ab", "c\x00"}},
		{2, 1, "", []string{"", "", ""}},
		{2, 1, "\x01", []string{"\x01", "\x00", "\x8e"}},
		{2, 1, "\x00\x01", []string{"\x00", "\x01", "\xf4"}},
		{2, 1, "\x01\x01", []string{"\x01", "\x01", "\x7a"}},
		{2, 1, "\x02\x01\x03", []string{"\x02\x01", "\x03\x00", "\x00\x8e"}},
		{2, 2, "\x01\x00\x00\x01", []string{"\x01\x00", "\x00\x01", "\x8e\xf4", "\xf4\x8e"}},
		{3, 1, "\x01\x00\x00", []string{"\x01", "\x00", "\x00", "\xf4"}},
		{3, 1, "\x00\x01\x00", []string{"\x00", "\x01", "\x00", "\x8e"}},
		{3, 1, "\x00\x00\x01", []string{"\x00", "\x00", "\x01", "\x01"}},
	} {
		if l, e := code.Spread(c.k, c.r, c.text); !slices.Equal(l, c.want) || e != api.OK {
			t.Errorf("Spread(%d, %d, %q): %q %v, not %q", c.k, c.r, c.text, l, e, c.want)
		}
	}
}

// P6.1: all parts of texts of all lengths, for each k and r; the first k are Split's.
func TestSpread(t *testing.T) {
	c := chance(2)
	for _, p := range pairs() {
		k, r := p[0], p[1]
		for _, total := range []int{0, 1, k - 1, k, k + 1, 3 * k, c.below(300)} {
			text := c.text(total)
			l, e := code.Spread(k, r, text)
			if !slices.Equal(l, spread(r, split(k, text))) || e != api.OK {
				t.Fatalf("Spread(%d, %d) of %d bytes: %x %v", k, r, total, l, e)
			}
			if first, _ := code.Split(k, text); !slices.Equal(l[:k], first) {
				t.Fatalf("Spread(%d, %d) of %d bytes has other first parts than Split", k, r, total)
			}
			for i, s := range l {
				if len(s) != code.Size(k, total) {
					t.Fatalf("Spread(%d, %d) of %d bytes: the part %d has %d", k, r, total, i, len(s))
				}
			}
		}
	}
}

// P6.1: there are no parts, where a text can't be spread so.
func TestSpreadWrong(t *testing.T) {
	for _, p := range wrongPairs() {
		for _, text := range []string{"", "a", "abc", strings.Repeat("x", 33)} {
			if l, e := code.Spread(p[0], p[1], text); len(l) != 0 || e != api.ErrArg {
				t.Errorf("Spread(%d, %d, %q): %q %v", p[0], p[1], text, l, e)
			}
		}
	}
}

// P6.2: texts that are known, and parts.
func TestGatherWrittenOut(t *testing.T) {
	for _, c := range []struct {
		k, r, total int
		l           []api.Part
		want        string
	}{
		{1, 0, 0, list(part(0, "")), ""},
		{1, 0, 3, list(part(0, "abc")), "abc"},
		{1, 1, 1, list(part(1, "a")), "a"},
		{1, 2, 2, list(part(2, "\x01\x00")), "\x02\x00"},
		{2, 0, 3, list(part(1, "c\x00"), part(0, "ab")), "abc"},
		{2, 1, 0, list(part(2, ""), part(0, "")), ""},
		{2, 1, 1, list(part(2, "\x8e"), part(1, "\x00")), "\x01"},
		{2, 1, 2, list(part(2, "\x8e"), part(1, "\x00")), "\x01\x00"},
		{2, 1, 2, list(part(2, "\x8e"), part(0, "\x01")), "\x01\x00"},
		{2, 2, 4, list(part(3, "\xf4\x8e"), part(2, "\x8e\xf4")), "\x01\x00\x00\x01"},
		{2, 1, 3, list(part(0, "ab"), part(1, "cd")), "abc"},
		{2, 1, 2, list(part(0, "a"), part(1, "b"), part(2, "x")), "ab"},
	} {
		if s, e := code.Gather(c.k, c.r, c.total, c.l...); s != c.want || e != api.OK {
			t.Errorf("Gather(%d, %d, %d, %x): %x %v, not %x", c.k, c.r, c.total, c.l, s, e, c.want)
		}
	}
	all, _ := code.Spread(2, 1, "abc")
	if s, e := code.Gather(2, 1, 3, parts(all, 1, 2)...); s != "abc" || e != api.OK {
		t.Errorf("of the parts 1 and 2: %q %v", s, e)
	}
	if s, e := code.Gather(2, 1, 3, parts(all, 1)...); !isNone(s, e, api.ErrFew) {
		t.Errorf("of the part 1 alone: %q %v", s, e)
	}
	for i, want := range []string{"ab", "c\x00", all[2]} {
		for _, l := range [][]api.Part{parts(all, 0, 1), parts(all, 2, 0), parts(all, 1, 2), parts(all, 2, 1, 0, 2)} {
			if s, e := code.Again(2, 1, i, l...); s != want || e != api.OK {
				t.Errorf("Again(2, 1, %d, %x): %x %v, not %x", i, l, s, e, want)
			}
		}
	}
}

// whole tells if of these parts the text is gathered, and each of the wanted ones made again as it is of all.
func whole(t *testing.T, k, r int, text string, all []string, l []api.Part, wanted []int) {
	t.Helper()
	if s, e := code.Gather(k, r, len(text), l...); s != text || e != api.OK {
		t.Fatalf("Gather(%d, %d, %d, %x): %x %v, not %x", k, r, len(text), l, s, e, text)
	}
	for _, i := range wanted {
		if s, e := code.Again(k, r, i, l...); s != all[i] || e != api.OK {
			t.Fatalf("Again(%d, %d, %d, %x): %x %v, not %x", k, r, i, l, s, e, all[i])
		}
	}
}

// P6.3: of any k parts, whichever, in whatever order: all choices, each part.
func TestOfAnyParts(t *testing.T) {
	c := chance(3)
	for _, p := range pairs() {
		k, r := p[0], p[1]
		if k+r > 8 {
			continue
		}
		for _, total := range []int{0, 1, 2*k - 1, 3 * k} {
			text := c.text(total)
			all, e := code.Spread(k, r, text)
			if e != api.OK {
				t.Fatal(k, r, e)
			}
			for _, chosen := range choices(k+r, k) {
				whole(t, k, r, text, all, c.mix(parts(all, chosen...)), c.order(k+r))
			}
		}
	}
}

// P6.3: where there are too many choices, the first k, the last k, and some.
func TestOfManyParts(t *testing.T) {
	c := chance(4)
	for _, p := range pairs() {
		k, r := p[0], p[1]
		n := k + r
		if n <= 8 {
			continue
		}
		text := c.text(1 + c.below(5*k))
		all, e := code.Spread(k, r, text)
		if e != api.OK {
			t.Fatal(k, r, e)
		}
		turned := every(all)
		slices.Reverse(turned)
		for _, l := range [][]api.Part{every(all)[:k], turned[:k], parts(all, c.order(n)[:k]...), parts(all, c.order(n)[:k]...), c.mix(every(all))} {
			whole(t, k, r, text, all, l, []int{0, n - 1, c.below(n), l[0].Index})
		}
	}
}

// P6.2: the text that parts of whatever bytes have, since k parts are always those of one: bytes behind the text, which are not 0, aren't looked at.
func TestBytesBehindTheText(t *testing.T) {
	c := chance(5)
	for _, p := range [][2]int{{1, 0}, {1, 3}, {2, 0}, {2, 2}, {3, 2}, {5, 4}, {7, 1}, {16, 16}, {31, 1}, {32, 0}} {
		k, r := p[0], p[1]
		for _, n := range []int{1, 2, 5} {
			all := spread(r, c.texts(k, n))
			text := strings.Join(all[:k], "")
			for total := max(0, (n-1)*k+1); total <= n*k; total++ {
				l := c.mix(every(all))[:k]
				if s, e := code.Gather(k, r, total, l...); s != text[:total] || e != api.OK {
					t.Fatalf("Gather(%d, %d, %d, %x): %x %v, not %x", k, r, total, l, s, e, text[:total])
				}
			}
			for _, i := range []int{0, k - 1, k + r - 1} {
				l := c.mix(every(all))[:k]
				if s, e := code.Again(k, r, i, l...); s != all[i] || e != api.OK {
					t.Fatalf("Again(%d, %d, %d, %x): %x %v, not %x", k, r, i, l, s, e, all[i])
				}
			}
		}
	}
}

// P6.2: those behind the k least Indexes are of another text: they aren't looked at, not where their own part is asked for either.
func TestTheLeastCount(t *testing.T) {
	c := chance(6)
	for _, p := range [][2]int{{1, 1}, {1, 5}, {2, 1}, {2, 4}, {3, 3}, {4, 2}, {6, 2}, {10, 10}, {1, 31}, {30, 2}, {31, 1}} {
		k, r := p[0], p[1]
		n := k + r
		for range 20 {
			text := c.text(3*k - c.below(k))
			all := spread(r, split(k, text))
			chosen := c.order(n)[:k+1+c.below(r)]
			slices.Sort(chosen)
			l := parts(all, chosen...)
			for i := k; i < len(l); i++ {
				l[i].Text = c.text(3)
			}
			whole(t, k, r, text, all, c.mix(l), append(chosen, 0, n-1, c.below(n)))
		}
	}
}

// P6.2: each of the k least ones counts: where another one stands in its place, it is another text.
func TestEachOfTheLeastCounts(t *testing.T) {
	for _, p := range [][2]int{{1, 2}, {2, 2}, {3, 3}, {5, 1}} {
		k, r := p[0], p[1]
		all := spread(r, split(k, strings.Repeat("hoard", k)))
		for at := range k {
			for first := range r + 1 {
				l := every(all)[first:]
				l[at].Text = "other"
				if s, e := code.Gather(k, r, 5*k, l...); s == strings.Repeat("hoard", k) || len(s) != 5*k || e != api.OK {
					t.Errorf("Gather(%d, %d, %x): %x %v", k, r, l, s, e)
				}
				if s, e := code.Again(k, r, l[at].Index, l...); s != "other" || e != api.OK {
					t.Errorf("Again(%d, %d, %d, %x): %x %v", k, r, l[at].Index, l, s, e)
				}
			}
		}
	}
}

// P6.2: an Index that stands there several times with the same Text counts once, and takes nothing away.
func TestTheSamePartsAgain(t *testing.T) {
	c := chance(7)
	for _, p := range [][2]int{{1, 0}, {1, 2}, {2, 1}, {3, 2}, {4, 4}, {16, 16}, {32, 0}} {
		k, r := p[0], p[1]
		text := c.text(2*k - 1)
		all := spread(r, split(k, text))
		chosen := c.order(k + r)[:k]
		l := parts(all, chosen...)
		for range 3 * k {
			l = append(l, parts(all, chosen[c.below(k)])...)
		}
		whole(t, k, r, text, all, c.mix(l), c.order(k + r)[:1])
		var few []api.Part
		for range 3 * k {
			few = append(few, parts(all, chosen[c.below(k)])...)
		}
		few = slices.DeleteFunc(few, func(p api.Part) bool { return p.Index == chosen[0] })
		if s, e := code.Gather(k, r, len(text), few...); !isNone(s, e, api.ErrFew) {
			t.Errorf("Gather(%d, %d, %d, %x): %x %v", k, r, len(text), few, s, e)
		}
		if s, e := code.Again(k, r, chosen[0], few...); !isNone(s, e, api.ErrFew) {
			t.Errorf("Again(%d, %d, %d, %x): %x %v", k, r, chosen[0], few, s, e)
		}
	}
}

// lists are parts of which nothing can be gathered, and some of which can.
func lists() [][]api.Part {
	return [][]api.Part{nil, {}, {part(0, "a")}, {part(-1, "a")}, {part(0, "a"), part(1, "bc")}, {part(0, "a"), part(0, "b")}, {part(0, "a"), part(1, "b")}, {part(0, "")}, {part(0, "a"), part(1, "b"), part(2, "c")}}
}

// P6.2: ErrArg, ahead of all that is wrong with the parts.
func TestGatherArg(t *testing.T) {
	for _, l := range lists() {
		for _, p := range wrongPairs() {
			for _, total := range []int{0, 1, -1} {
				if s, e := code.Gather(p[0], p[1], total, l...); !isNone(s, e, api.ErrArg) {
					t.Fatalf("Gather(%d, %d, %d, %x): %x %v", p[0], p[1], total, l, s, e)
				}
			}
		}
		for _, total := range []int{-1, -2, -32, -256, math.MinInt32, -1 << 32, math.MinInt + 1, math.MinInt} {
			for _, p := range [][2]int{{1, 0}, {1, 1}, {2, 1}, {3, 0}, {32, 0}, {16, 16}} {
				if s, e := code.Gather(p[0], p[1], total, l...); !isNone(s, e, api.ErrArg) {
					t.Fatalf("Gather(%d, %d, %d, %x): %x %v", p[0], p[1], total, l, s, e)
				}
			}
		}
	}
}

// P6.2: ErrArg, ahead of all that is wrong with the parts: an index that is none, too.
func TestAgainArg(t *testing.T) {
	for _, l := range lists() {
		for _, p := range wrongPairs() {
			for _, index := range []int{0, 1, -1, p[0]} {
				if s, e := code.Again(p[0], p[1], index, l...); !isNone(s, e, api.ErrArg) {
					t.Fatalf("Again(%d, %d, %d, %x): %x %v", p[0], p[1], index, l, s, e)
				}
			}
		}
		for _, p := range [][2]int{{1, 0}, {1, 1}, {2, 0}, {2, 1}, {3, 0}, {32, 0}, {16, 16}, {1, 31}} {
			n := p[0] + p[1]
			for _, index := range append([]int{-1, -2, -n, n, n + 1, n + 256, 33}, far...) {
				if s, e := code.Again(p[0], p[1], index, l...); !isNone(s, e, api.ErrArg) {
					t.Fatalf("Again(%d, %d, %d, %x): %x %v", p[0], p[1], index, l, s, e)
				}
			}
		}
	}
}

// refused tells if both calls answer that error, in whatever order the parts are; the total is that of parts of 3 bytes.
func refused(t *testing.T, c *chance, k, r int, l []api.Part, want api.Errno) {
	t.Helper()
	turned := slices.Clone(l)
	slices.Reverse(turned)
	for _, l := range [][]api.Part{l, turned, c.mix(l), c.mix(l)} {
		if s, e := code.Gather(k, r, 3*k, l...); !isNone(s, e, want) {
			t.Fatalf("Gather(%d, %d, %d, %x): %x %v, not %v", k, r, 3*k, l, s, e, want)
		}
		for _, index := range []int{0, k - 1, k + r - 1} {
			if s, e := code.Again(k, r, index, l...); !isNone(s, e, want) {
				t.Fatalf("Again(%d, %d, %d, %x): %x %v, not %v", k, r, index, l, s, e, want)
			}
		}
	}
}

// counted are how many parts are handed in: none, fewer than k, k, and more.
func counted(k, r int) []int {
	l := []int{0, 1, k - 1, k, k + 1, k + r - 1, k + r}
	slices.Sort(l)
	return slices.DeleteFunc(slices.Compact(l), func(n int) bool { return n > k+r })
}

// P6.2: one that is no part, beside whichever others, few or enough.
func TestPartsThatAreNone(t *testing.T) {
	c := chance(8)
	for _, p := range [][2]int{{1, 0}, {1, 1}, {2, 0}, {2, 1}, {3, 2}, {8, 8}, {32, 0}, {1, 31}, {31, 1}} {
		k, r := p[0], p[1]
		all := spread(r, c.texts(k, 3))
		for _, n := range counted(k, r) {
			for _, index := range append([]int{-1, -2, -k, -k - r, k + r, k + r + 1, 256, 256 + k}, far...) {
				if index >= 0 && index < k+r {
					continue
				}
				none := api.Part{Index: index, Text: all[0]}
				refused(t, &c, k, r, append(every(all)[:n], none), api.ErrPart)
			}
		}
	}
}

// P6.2: one of another length than the others, ahead of parts that are too few.
func TestPartsOfUnlikeLengths(t *testing.T) {
	c := chance(9)
	for _, p := range [][2]int{{1, 1}, {2, 0}, {2, 1}, {3, 2}, {8, 8}, {32, 0}, {1, 31}, {31, 1}} {
		k, r := p[0], p[1]
		all := spread(r, c.texts(k, 3))
		for _, n := range counted(k, r) {
			if n < 2 {
				continue
			}
			for at := range n {
				for _, other := range []string{"", "ab", "abcd", all[at][:2], all[at] + "\x00", strings.Repeat("x", 259)} {
					l := every(all)[:n]
					l[at].Text = other
					refused(t, &c, k, r, l, api.ErrPart)
				}
			}
		}
	}
}

// P6.2: an Index that stands there with two Texts, also behind the k least ones, also beside parts that are too few.
func TestPartsThatDiffer(t *testing.T) {
	c := chance(10)
	for _, p := range [][2]int{{1, 0}, {1, 1}, {2, 0}, {2, 1}, {3, 2}, {8, 8}, {32, 0}, {1, 31}, {31, 1}} {
		k, r := p[0], p[1]
		all := spread(r, c.texts(k, 3))
		for _, n := range counted(k, r) {
			for at := range n {
				for _, other := range []string{string([]byte{all[at][0] ^ 1}) + all[at][1:], all[at][:2] + string([]byte{all[at][2] ^ 0x80}), "", "ab", all[at] + "\x00"} {
					l := append(every(all)[:n], api.Part{Index: at, Text: other})
					refused(t, &c, k, r, l, api.ErrPart)
					refused(t, &c, k, r, append(l, parts(all, at)...), api.ErrPart)
				}
			}
		}
	}
}

// P6.2: fewer than k parts, ahead of parts that have not as many bytes as they should.
func TestFewParts(t *testing.T) {
	c := chance(11)
	for _, p := range pairs() {
		k, r := p[0], p[1]
		for _, n := range []int{0, 1, k / 2, k - 1} {
			if n >= k {
				continue
			}
			for _, size := range []int{0, 1, 3, 4} {
				all := spread(r, c.texts(k, size))
				l := c.mix(every(all))[:n]
				refused(t, &c, k, r, l, api.ErrFew)
				if n > 0 {
					refused(t, &c, k, r, slices.Repeat(l, k), api.ErrFew)
				}
			}
		}
	}
}

// P6.2: a list that is nil is one without elements, and of that there are too few.
func TestNoParts(t *testing.T) {
	for _, p := range pairs() {
		for _, total := range []int{0, 1, math.MaxInt} {
			for _, l := range [][]api.Part{nil, {}} {
				if s, e := code.Gather(p[0], p[1], total, l...); !isNone(s, e, api.ErrFew) {
					t.Errorf("Gather(%d, %d, %d): %q %v", p[0], p[1], total, s, e)
				}
				if s, e := code.Again(p[0], p[1], 0, l...); !isNone(s, e, api.ErrFew) {
					t.Errorf("Again(%d, %d, 0): %q %v", p[0], p[1], s, e)
				}
			}
		}
	}
}

// P6.2: parts that are enough, but of other lengths than a text of so many bytes has; Again asks for no total, and makes them again.
func TestPartsOfAnotherTotal(t *testing.T) {
	c := chance(12)
	for _, p := range [][2]int{{1, 0}, {1, 1}, {2, 0}, {2, 1}, {3, 2}, {8, 8}, {32, 0}, {1, 31}, {31, 1}} {
		k, r := p[0], p[1]
		for _, n := range []int{0, 1, 2, 3, 10} {
			all := spread(r, c.texts(k, n))
			text := strings.Join(all[:k], "")
			for _, total := range []int{0, 1, (n-2)*k + 1, (n - 1) * k, (n-1)*k + 1, n * k, n*k + 1, (n + 1) * k, n*k + 256, 1 << 20, math.MaxInt32, 1 << 32, 1<<32*k + n*k, math.MaxInt - 1, math.MaxInt} {
				if total < 0 {
					continue
				}
				want, e := "", api.ErrPart
				if total > (n-1)*k && total <= n*k {
					want, e = text[:total], api.OK
				}
				for _, l := range [][]api.Part{every(all), c.mix(every(all))[:k]} {
					if s, f := code.Gather(k, r, total, l...); s != want || f != e {
						t.Fatalf("Gather(%d, %d, %d, %x): %x %v, not %x %v", k, r, total, l, s, f, want, e)
					}
				}
			}
			if s, e := code.Again(k, r, k+r-1, c.mix(every(all))[:k]...); s != all[k+r-1] || e != api.OK {
				t.Fatalf("Again(%d, %d) of %d bytes: %q %v", k, r, n, s, e)
			}
		}
	}
}

// fault is the error of parts, as the promise says it, in its order.
func fault(k, r int, l []api.Part) api.Errno {
	at := map[int]string{}
	for _, p := range l {
		if p.Index < 0 || p.Index >= k+r || len(p.Text) != len(l[0].Text) {
			return api.ErrPart
		}
		if s, is := at[p.Index]; is && s != p.Text {
			return api.ErrPart
		}
		at[p.Index] = p.Text
	}
	if len(at) < k {
		return api.ErrFew
	}
	return api.OK
}

// asked holds both calls against the promise, whatever they are handed: where parts are told they are those of which the k least ones are.
func asked(t *testing.T, k, r, total, index int, l []api.Part) {
	t.Helper()
	may := k >= 1 && k <= 32 && r >= 0 && r <= 32 && k+r <= 32
	wantGather, wantAgain := api.ErrArg, api.ErrArg
	if may {
		e := fault(k, r, l)
		if total >= 0 {
			wantGather = e
			if e == api.OK && len(l[0].Text) != code.Size(k, total) {
				wantGather = api.ErrPart
			}
		}
		if index >= 0 && index < k+r {
			wantAgain = e
		}
	}
	text, e := code.Gather(k, r, total, l...)
	again, f := code.Again(k, r, index, l...)
	if e != wantGather || f != wantAgain || e != api.OK && text != "" || f != api.OK && again != "" {
		t.Fatalf("k %d, r %d, total %d, index %d, %x: %x %v, %x %v, not %v %v", k, r, total, index, l, text, e, again, f, wantGather, wantAgain)
	}
	if !may || fault(k, r, l) != api.OK {
		return
	}
	first := make([]string, k)
	for i := range first {
		first[i], _ = code.Again(k, r, i, l...)
		if len(first[i]) != len(l[0].Text) {
			t.Fatalf("k %d, r %d, %x: the part %d is %x", k, r, l, i, first[i])
		}
	}
	all := spread(r, first)
	sorted := slices.SortedFunc(slices.Values(l), func(a, b api.Part) int { return a.Index - b.Index })
	for _, p := range slices.Compact(sorted)[:k] {
		if all[p.Index] != p.Text {
			t.Fatalf("k %d, r %d, %x: the first ones are %x, of which the part %d is another one", k, r, l, first, p.Index)
		}
	}
	if e == api.OK && text != strings.Join(first, "")[:total] {
		t.Fatalf("k %d, r %d, total %d, %x: %x, not of %x", k, r, total, l, text, first)
	}
	if f == api.OK && again != all[index] {
		t.Fatalf("k %d, r %d, index %d, %x: %x, not %x", k, r, index, l, again, all[index])
	}
}

// P6.2: whatever is handed in, by chance: each error alone, several at once, and none.
func TestWhateverIsHandedIn(t *testing.T) {
	c := chance(13)
	for range 30000 {
		k, r := c.below(5), c.below(4)-c.below(8)/7
		size := c.below(3)
		var l []api.Part
		for range c.below(k + 4) {
			p := api.Part{Index: c.below(max(k+r, 1)), Text: c.text(size)}
			switch c.below(24) {
			case 0:
				p.Index = c.below(9) - 2
			case 1:
				p.Text += "x"
			case 2, 3, 4:
				if len(l) > 0 {
					p = l[c.below(len(l))]
				}
			}
			l = append(l, p)
		}
		asked(t, k, r, size*k-c.below(k+2)+c.below(8)/7, c.below(k+4)-c.below(8)/7, l)
	}
}

// FuzzParts: whatever is handed in, both calls answer as the promise says.
func FuzzParts(f *testing.F) {
	f.Add(2, 1, 3, 2, 2, "\x01c\x00\x02xy")
	f.Add(1, 0, 0, 0, 0, "\x00")
	f.Add(3, 2, 9, 4, 3, "\x04abc\x00def\x02ghi\x03jkl")
	f.Add(32, 0, 1, 31, 1, "")
	f.Fuzz(func(t *testing.T, k, r, total, index, size int, s string) {
		var l []api.Part
		for size >= 0 && s != "" {
			n := min(size, len(s)-1)
			l = append(l, api.Part{Index: int(int8(s[0])), Text: s[1 : 1+n]})
			s = s[1+n:]
		}
		asked(t, k, r, total, index, l)
	})
}

// R5: lists that are handed in are as they were, and none is kept.
func TestListsAreNotKept(t *testing.T) {
	all := spread(3, split(3, "abcdefgh"))
	l := parts(all, 5, 1, 4, 1, 3, 5)
	before := slices.Clone(l)
	for range 3 {
		whole(t, 3, 3, "abcdefgh", all, l, []int{0, 1, 2, 3, 4, 5})
		if !slices.Equal(l, before) {
			t.Fatalf("the list is another one now: %x", l)
		}
	}
	for i := range l {
		l[i] = api.Part{Index: i % 3, Text: "xyz"}
	}
	if s, e := code.Gather(3, 3, 9, l...); s != "xyzxyzxyz" || e != api.OK {
		t.Errorf("of other parts: %q %v", s, e)
	}
	one, _ := code.Spread(2, 2, "abcd")
	two, _ := code.Spread(2, 2, "abcd")
	want := slices.Clone(two)
	for i := range one {
		one[i] = "x"
	}
	three, _ := code.Spread(2, 2, "abcd")
	if !slices.Equal(two, want) || !slices.Equal(three, want) {
		t.Errorf("an answer is changed by another one: %q, %q, not %q", two, three, want)
	}
	one, _ = code.Split(2, "abcd")
	if one = append(one, "x"); !slices.Equal(one, []string{"ab", "cd", "x"}) {
		t.Errorf("%q", one)
	}
}

// within tells if a's bytes are some of b's.
func within(a, b string) bool {
	at := uintptr(unsafe.Pointer(unsafe.StringData(a)))
	from := uintptr(unsafe.Pointer(unsafe.StringData(b)))
	return at >= from && at < from+uintptr(len(b))
}

// R5: answers are memory of their own, also where they are the same as what was handed in.
func TestAnswersAreNew(t *testing.T) {
	for _, p := range [][2]int{{1, 0}, {1, 1}, {2, 0}, {2, 1}, {4, 4}} {
		k, r := p[0], p[1]
		text := strings.Repeat("hoards..", 4*k)
		first, _ := code.Split(k, text)
		all, _ := code.Spread(k, r, text)
		for i, s := range slices.Concat(first, all) {
			if within(s, text) {
				t.Errorf("k %d, r %d: the part %d is bytes of what was handed in", k, r, i)
			}
		}
		gathered, _ := code.Gather(k, r, len(text), every(all)...)
		if gathered != text {
			t.Fatalf("k %d, r %d: %q", k, r, gathered)
		}
		answers := []string{gathered}
		for i := range all {
			s, _ := code.Again(k, r, i, every(all)...)
			if s != all[i] {
				t.Fatalf("k %d, r %d: the part %d is %q", k, r, i, s)
			}
			answers = append(answers, s)
		}
		for i, s := range answers {
			for _, handed := range all {
				if within(s, handed) {
					t.Errorf("k %d, r %d: answer %d is bytes of what was handed in", k, r, i)
				}
			}
		}
	}
}

// R6: the same answers, however often they are asked, and by however many at one time.
func TestAskedAtOneTime(t *testing.T) {
	c := chance(14)
	text := c.text(1000)
	all := spread(8, split(8, text))
	l := c.mix(every(all))[:8]
	var askers sync.WaitGroup
	for range 16 {
		askers.Add(1)
		go func() {
			defer askers.Done()
			for i := range 20 {
				got, e := code.Spread(8, 8, text)
				if !slices.Equal(got, all) || e != api.OK {
					t.Errorf("Spread: %x %v", got, e)
				}
				if s, e := code.Gather(8, 8, 1000, l...); s != text || e != api.OK {
					t.Errorf("Gather: %x %v", s, e)
				}
				if s, e := code.Again(8, 8, i%16, l...); s != all[i%16] || e != api.OK {
					t.Errorf("Again(%d): %x %v", i%16, s, e)
				}
			}
		}()
	}
	askers.Wait()
}

// LANGUAGE's rule on goroutines: all are joined when a call has answered, so no more of them are there behind many calls than ahead.
func TestNobodyIsLeft(t *testing.T) {
	text := strings.Repeat("hoard", 100)
	all := spread(16, split(16, text))
	before := runtime.NumGoroutine()
	for range 20 {
		code.Spread(16, 16, text)
		code.Gather(16, 16, len(text), every(all)[16:]...)
		code.Again(16, 16, 3, every(all)[16:]...)
		code.Gather(16, 16, 3, every(all)[16:]...)
	}
	for range 200 { // one that is done may still be counted for a moment
		if runtime.NumGoroutine() <= before {
			return
		}
		time.Sleep(5 * time.Millisecond)
	}
	t.Errorf("%d goroutines are there, ahead %d", runtime.NumGoroutine(), before)
}
