package wire_test

import (
	"math"
	"slices"
	"strings"
	"testing"
	"unsafe"

	"hoard/api"
	"hoard/num"
	"hoard/wire"
)

// chance makes numbers by a rule.
type chance uint64

func (c *chance) next() uint32 {
	*c = *c*6364136223846793005 + 1442695040888963407
	return uint32(*c >> 32)
}

// below makes a number below n.
func (c *chance) below(n int) int { return int(c.next() % uint32(n)) }

// text makes one of n bytes.
func (c *chance) text(n int) string {
	l := make([]byte, n)
	for i := range l {
		l[i] = byte(c.next() >> 24)
	}
	return string(l)
}

// number makes one of 0 to 64 bits.
func (c *chance) number() uint64 {
	x := uint64(c.next())<<32 | uint64(c.next())
	return x >> c.below(65)
}

// answer is what one call answers: what it has not stays zero.
type answer struct {
	num  uint64
	text string
	is   bool
	n    int
}

// step is one call of a reader.
type step struct {
	kind rune // 'n' Num, 't' Text, 'b' Bool, 'c' Count, 'r' Rest, 'e' End
	over uint64
	most int
}

// do makes the call of r.
func (s step) do(r *wire.Reader) answer {
	switch s.kind {
	case 'n':
		return answer{num: r.Num(s.over)}
	case 't':
		return answer{text: r.Text(s.most)}
	case 'b':
		return answer{is: r.Bool()}
	case 'c':
		return answer{n: r.Count(s.most)}
	case 'r':
		return answer{text: r.Rest()}
	}
	r.End()
	return answer{}
}

// model is a reader as the chapter's Words say it.
type model struct {
	left  string
	fault api.Errno
}

// do is what the call has to answer: P3.2 and P3.3, in the order in which they name their errors.
func (m *model) do(s step) answer {
	if m.fault != api.OK {
		return answer{}
	}
	x, n, e := num.Read(m.left)
	behind := uint64(len(m.left) - n)
	var a answer
	took := n
	switch s.kind {
	case 'n':
		if e == api.OK && x > s.over {
			e = api.ErrOver
		}
		a.num = x
	case 't', 'c':
		if e == api.OK && (s.most < 0 || x > uint64(s.most)) {
			e = api.ErrLong
		}
		if e == api.OK && x > behind {
			e = api.ErrShort
		}
		if e == api.OK && s.kind == 't' {
			a.text = m.left[n : n+int(x)]
			took = n + int(x)
		} else {
			a.n = int(x)
		}
	case 'b':
		e = api.ErrForm
		if m.left == "" {
			e = api.ErrShort
		} else if m.left[0] < 2 {
			e = api.OK
			a.is = m.left[0] == 1
		}
		took = 1
	case 'r':
		e = api.OK
		a.text = m.left
		took = len(m.left)
	case 'e':
		e = api.OK
		if m.left != "" {
			e = api.ErrForm
		}
		took = 0
	}
	if e != api.OK {
		m.fault = e
		return answer{}
	}
	m.left = m.left[took:]
	return a
}

// all are one call of each kind, with no bound that could be in the way.
func all() []step {
	return []step{{'n', math.MaxUint64, 0}, {'t', 0, math.MaxInt}, {'b', 0, 0}, {'c', 0, math.MaxInt}, {'r', 0, 0}, {'e', 0, 0}}
}

// num1, text1, bool1, count1 are one call each.
func num1(over uint64) step { return step{'n', over, 0} }
func text1(most int) step   { return step{'t', 0, most} }
func bool1() step           { return step{'b', 0, 0} }
func count1(most int) step  { return step{'c', 0, most} }

// takes holds one call of a reader of s to its answer, and to what is left behind it.
func takes(t *testing.T, s string, do step, want answer, left string) {
	t.Helper()
	r := wire.New(s)
	if a := do.do(r); a != want || r.Err() != api.OK {
		t.Errorf("%x, %c %d %d: %v %v, not %v", s, do.kind, do.over, do.most, a, r.Err(), want)
	}
	if rest := r.Rest(); rest != left || r.End() != api.OK {
		t.Errorf("%x, %c %d %d: %x is left, not %x", s, do.kind, do.over, do.most, rest, left)
	}
}

// fails holds one call of a reader of s to nothing and the fault; and all calls behind it too, whatever stands there.
func fails(t *testing.T, s string, do step, e api.Errno) {
	t.Helper()
	r := wire.New(s)
	if a := do.do(r); a != (answer{}) || r.Err() != e {
		t.Errorf("%x, %c %d %d: %v %v, not %v", s, do.kind, do.over, do.most, a, r.Err(), e)
	}
	stays(t, r, e)
}

// stays holds r to its fault, call by call.
func stays(t *testing.T, r *wire.Reader, e api.Errno) {
	t.Helper()
	for range 2 {
		for _, s := range all() {
			if a := s.do(r); a != (answer{}) || r.Err() != e || r.End() != e {
				t.Errorf("%c behind a fault: %v %v %v, not %v", s.kind, a, r.Err(), r.End(), e)
			}
		}
	}
}

// P3.1: the bytes of numbers, written out.
func TestNums(t *testing.T) {
	for _, c := range []struct {
		l    []uint64
		want string
	}{
		{nil, ""},
		{[]uint64{}, ""},
		{[]uint64{0}, "\x00"},
		{[]uint64{1}, "\x01\x01"},
		{[]uint64{0, 0, 0}, "\x00\x00\x00"},
		{[]uint64{5, 300}, "\x01\x05\x02\x01\x2c"},
		{[]uint64{300, 5}, "\x02\x01\x2c\x01\x05"},
		{[]uint64{255, 0, 256}, "\x01\xff\x00\x02\x01\x00"},
		{[]uint64{math.MaxUint64, 1 << 56}, "\x08\xff\xff\xff\xff\xff\xff\xff\xff\x08\x01\x00\x00\x00\x00\x00\x00\x00"},
	} {
		if got := wire.Nums(c.l...); got != c.want {
			t.Errorf("Nums(%d): %x, not %x", c.l, got, c.want)
		}
	}
	if got := wire.Nums(); got != "" {
		t.Errorf("Nums(): %x", got)
	}
}

// P3.1: the bytes of texts, written out; a text's length is a number itself, of one byte and more.
func TestTexts(t *testing.T) {
	long := strings.Repeat("x", 65536)
	for _, c := range []struct {
		l    []string
		want string
	}{
		{nil, ""},
		{[]string{}, ""},
		{[]string{""}, "\x00"},
		{[]string{"", "", ""}, "\x00\x00\x00"},
		{[]string{"a"}, "\x01\x01a"},
		{[]string{"a", ""}, "\x01\x01a\x00"},
		{[]string{"", "a"}, "\x00\x01\x01a"},
		{[]string{"ab", "c"}, "\x01\x02ab\x01\x01c"},
		{[]string{"\x00\xff"}, "\x01\x02\x00\xff"},
		{[]string{"ä"}, "\x01\x02\xc3\xa4"},
		{[]string{long[:255], "z"}, "\x01\xff" + long[:255] + "\x01\x01z"},
		{[]string{long[:256], "z"}, "\x02\x01\x00" + long[:256] + "\x01\x01z"},
		{[]string{long[:65535]}, "\x02\xff\xff" + long[:65535]},
		{[]string{long}, "\x03\x01\x00\x00" + long},
	} {
		if got := wire.Texts(c.l...); got != c.want {
			t.Errorf("Texts(%.20q): %.20x, not %.20x", c.l, got, c.want)
		}
	}
	if got := wire.Texts(); got != "" {
		t.Errorf("Texts(): %x", got)
	}
}

// P3.1: a truth's byte.
func TestBool(t *testing.T) {
	if no, yes := wire.Bool(false), wire.Bool(true); no != "\x00" || yes != "\x01" {
		t.Errorf("%x %x", no, yes)
	}
}

// P3.1: all that are handed in together are the same as one by one; the lists are as they were.
func TestOneBehindTheOther(t *testing.T) {
	c := chance(1)
	for range 200 {
		var nums []uint64
		var texts []string
		ofNums, ofTexts := "", ""
		for range c.below(20) {
			x, s := c.number(), c.text(c.below(300))
			nums, texts = append(nums, x), append(texts, s)
			ofNums, ofTexts = ofNums+num.Up(x), ofTexts+num.Up(uint64(len(s)))+s
		}
		sameNums, sameTexts := slices.Clone(nums), slices.Clone(texts)
		if wire.Nums(nums...) != ofNums || wire.Texts(texts...) != ofTexts {
			t.Fatalf("%d %q", nums, texts)
		}
		if !slices.Equal(nums, sameNums) || !slices.Equal(texts, sameTexts) {
			t.Fatal("a list that was handed in is another one now")
		}
	}
}

// P3.2: numbers just at most, one above, and of most 0.
func TestNumAtMost(t *testing.T) {
	for _, x := range []uint64{0, 1, 5, 255, 256, 300, 65536, 1<<63 - 1, 1 << 63, math.MaxUint64 - 1, math.MaxUint64} {
		s := num.Up(x)
		takes(t, s, num1(x), answer{num: x}, "")
		takes(t, s+"behind", num1(x), answer{num: x}, "behind")
		takes(t, s+"\x09", num1(math.MaxUint64), answer{num: x}, "\x09")
		if x > 0 {
			fails(t, s, num1(x-1), api.ErrOver)
			fails(t, s+"\x01\x01", num1(x-1), api.ErrOver)
			fails(t, s, num1(0), api.ErrOver)
		}
	}
}

// P3.2: what is no number, ahead of most.
func TestNumFaults(t *testing.T) {
	for _, most := range []uint64{0, 4, math.MaxUint64} {
		fails(t, "", num1(most), api.ErrShort)
		fails(t, "\x09", num1(most), api.ErrForm)
		fails(t, "\xff\x01\x01", num1(most), api.ErrForm)
		fails(t, "\x01", num1(most), api.ErrShort)
		fails(t, "\x02\x01", num1(most), api.ErrShort)
		fails(t, "\x02\x00", num1(most), api.ErrShort)
		fails(t, "\x01\x00", num1(most), api.ErrForm)
		fails(t, "\x02\x00\x05", num1(most), api.ErrForm)
	}
}

// P3.2: each byte as a truth, alone and with more behind; nothing is short.
func TestBoolOfEachByte(t *testing.T) {
	for b := range 256 {
		s := string([]byte{byte(b)})
		for _, behind := range []string{"", "\x00", "\x01", "\xff", "z"} {
			if b < 2 {
				takes(t, s+behind, bool1(), answer{is: b == 1}, behind)
			} else {
				fails(t, s+behind, bool1(), api.ErrForm)
			}
		}
	}
	fails(t, "", bool1(), api.ErrShort)
}

// P3.2: texts just at most, one byte longer, and just as long as is left, one byte longer.
func TestTextAtMost(t *testing.T) {
	for _, n := range []int{0, 1, 2, 127, 128, 255, 256, 257, 65535, 65536} {
		text := strings.Repeat("x", n)
		s := num.Up(uint64(n)) + text
		takes(t, s, text1(n), answer{text: text}, "")
		takes(t, s, text1(n+1), answer{text: text}, "")
		takes(t, s, text1(math.MaxInt), answer{text: text}, "")
		takes(t, s+"\x01\x05", text1(n), answer{text: text}, "\x01\x05")
		fails(t, s, text1(n-1), api.ErrLong)
		fails(t, s, text1(-1), api.ErrLong)
		fails(t, s, text1(math.MinInt), api.ErrLong)
		fails(t, num.Up(uint64(n)+1)+text, text1(n+1), api.ErrShort)
		fails(t, num.Up(uint64(n)+1)+text, text1(n), api.ErrLong)
		if n > 0 {
			fails(t, s[:len(s)-1], text1(n), api.ErrShort)
			fails(t, s[:len(s)-n], text1(n), api.ErrShort)
			fails(t, s, text1(0), api.ErrLong)
		}
	}
}

// P3.2: counts just at most, one above, and as many as bytes are left behind, one more; nothing but the number is taken.
func TestCountAtMost(t *testing.T) {
	for _, n := range []int{0, 1, 2, 127, 128, 255, 256, 257, 65535, 65536} {
		behind := strings.Repeat("\x09", n)
		s := num.Up(uint64(n)) + behind
		takes(t, s, count1(n), answer{n: n}, behind)
		takes(t, s, count1(n+1), answer{n: n}, behind)
		takes(t, s, count1(math.MaxInt), answer{n: n}, behind)
		takes(t, s+"z", count1(n), answer{n: n}, behind+"z")
		fails(t, s, count1(n-1), api.ErrLong)
		fails(t, s, count1(-1), api.ErrLong)
		fails(t, s, count1(math.MinInt), api.ErrLong)
		fails(t, num.Up(uint64(n)+1)+behind, count1(n+1), api.ErrShort)
		fails(t, num.Up(uint64(n)+1)+behind, count1(n), api.ErrLong)
		if n > 0 {
			fails(t, s[:len(s)-1], count1(n), api.ErrShort)
			fails(t, s[:len(s)-n], count1(n), api.ErrShort)
			fails(t, s, count1(0), api.ErrLong)
		}
	}
}

// P3.2: what is no number goes ahead of a most that is below 0; lengths that no int has are too long, or short.
func TestLengthFaults(t *testing.T) {
	for _, call := range []func(int) step{text1, count1} {
		for _, most := range []int{math.MinInt, -1, 0, 9, math.MaxInt} {
			fails(t, "", call(most), api.ErrShort)
			fails(t, "\x09", call(most), api.ErrForm)
			fails(t, "\x01", call(most), api.ErrShort)
			fails(t, "\x02\x00", call(most), api.ErrShort)
			fails(t, "\x01\x00", call(most), api.ErrForm)
			fails(t, "\x01\x00abc", call(most), api.ErrForm)
		}
		for _, x := range []uint64{1 << 62, math.MaxInt64} {
			fails(t, num.Up(x)+"abc", call(math.MaxInt), api.ErrShort)
			fails(t, num.Up(x)+"abc", call(int(x-1)), api.ErrLong)
			fails(t, num.Up(x)+"abc", call(-1), api.ErrLong)
		}
		for _, x := range []uint64{1 << 63, 1<<63 + 1, math.MaxUint64 - 8, math.MaxUint64 - 1, math.MaxUint64} {
			fails(t, num.Up(x)+"abc", call(math.MaxInt), api.ErrLong)
			fails(t, num.Up(x)+"abc", call(0), api.ErrLong)
			fails(t, num.Up(x)+"abc", call(-1), api.ErrLong)
			fails(t, num.Up(x)+"abc", call(math.MinInt), api.ErrLong)
		}
	}
}

// P3.3: Rest takes all, once; of nothing it is nothing, and no fault.
func TestRest(t *testing.T) {
	for _, s := range []string{"", "\x00", "\x09", "rest", "\xff\xff", strings.Repeat("\x09", 1000)} {
		r := wire.New(s)
		if rest := r.Rest(); rest != s || r.Err() != api.OK {
			t.Errorf("%x: %x %v", s, rest, r.Err())
		}
		if rest := r.Rest(); rest != "" || r.Err() != api.OK || r.End() != api.OK {
			t.Errorf("%x: %x is left, %v", s, rest, r.Err())
		}
	}
	r := wire.New("\x01\x05\x01\x01arest")
	if x, s, rest := r.Num(5), r.Text(1), r.Rest(); x != 5 || s != "a" || rest != "rest" || r.End() != api.OK {
		t.Errorf("%d %q %q %v", x, s, rest, r.Err())
	}
}

// P3.3: Err tells what is wrong, takes nothing, and makes no fault of what is left.
func TestErr(t *testing.T) {
	r := wire.New("\x01\x05\x02")
	for range 3 {
		if e := r.Err(); e != api.OK {
			t.Fatal(e)
		}
	}
	if x := r.Num(5); x != 5 || r.Err() != api.OK {
		t.Errorf("%d %v", x, r.Err())
	}
	if is := r.Bool(); is || r.Err() != api.ErrForm || r.Err() != api.ErrForm {
		t.Errorf("%v %v", is, r.Err())
	}
}

// P3.3: End of nothing is fine, again and again, and what is wanted behind it is short; bytes that are left are a fault, which stays.
func TestEnd(t *testing.T) {
	r := wire.New("")
	if r.End() != api.OK || r.End() != api.OK || r.Rest() != "" || r.Err() != api.OK {
		t.Errorf("nothing: %v", r.Err())
	}
	if r.Bool(); r.Err() != api.ErrShort || r.End() != api.ErrShort {
		t.Errorf("a truth behind the end: %v", r.Err())
	}
	for _, s := range []string{"\x00", "\x01", "\x01\x05", "a", "\x09", "rest"} {
		r := wire.New(s)
		if e := r.End(); e != api.ErrForm || r.Err() != api.ErrForm {
			t.Errorf("%x: %v %v", s, e, r.Err())
		}
		stays(t, r, api.ErrForm)
	}
	r = wire.New("\x01\x05\x00")
	if x, e := r.Num(5), r.End(); x != 5 || e != api.ErrForm || r.Num(5) != 0 {
		t.Errorf("%d %v", x, e)
	}
	stays(t, r, api.ErrForm)
}

// P3.2, P3.3: the first fault stays, though others come behind it; and nothing of what it stood at is taken, be it right for another call.
func TestFirstFaultStays(t *testing.T) {
	faults := []struct {
		s  string
		do step
		e  api.Errno
	}{
		{"\x01\x05", num1(4), api.ErrOver},
		{"\x01\x02ab", text1(1), api.ErrLong},
		{"\x01\x02ab", text1(-1), api.ErrLong},
		{"\x01\x02ab", count1(1), api.ErrLong},
		{"\x01\x02a", text1(2), api.ErrShort},
		{"\x01\x02a", count1(2), api.ErrShort},
		{"\x02\x01\x00", bool1(), api.ErrForm},
		{"a", step{'e', 0, 0}, api.ErrForm},
		{"\x09", num1(9), api.ErrForm},
		{"", bool1(), api.ErrShort},
	}
	for _, f := range faults {
		fails(t, f.s, f.do, f.e)
		for _, ahead := range []string{"", "\x01\x07", "\x01\x07\x01\x07"} {
			r := wire.New(ahead + f.s)
			for range len(ahead) / 2 {
				if x := r.Num(7); x != 7 {
					t.Errorf("%d", x)
				}
			}
			f.do.do(r)
			for _, g := range faults {
				if a := g.do.do(r); a != (answer{}) || r.Err() != f.e {
					t.Errorf("%x, %c, then %c: %v %v, not %v", f.s, f.do.kind, g.do.kind, a, r.Err(), f.e)
				}
			}
			stays(t, r, f.e)
		}
	}
}

// P3.3, R3: a nil reader, and one that New did not make.
func TestNilAndNotMade(t *testing.T) {
	stays(t, nil, api.ErrNil)
	var zero wire.Reader
	stays(t, &zero, api.ErrNil)
	stays(t, new(wire.Reader), api.ErrNil)
	if zero != (wire.Reader{}) {
		t.Error("something was done to a reader that New did not make")
	}
	for _, f := range []step{num1(0), text1(-1), text1(0), count1(-1), count1(0)} {
		if a := f.do(nil); a != (answer{}) {
			t.Errorf("%c of nil: %v", f.kind, a)
		}
		if a := f.do(&zero); a != (answer{}) {
			t.Errorf("%c of a reader that New did not make: %v", f.kind, a)
		}
	}
	if r := wire.New(""); r == nil || r.Err() != api.OK {
		t.Error("a reader of nothing is one too")
	}
}

// R6: what is done to one reader is not seen in another one of the same bytes.
func TestTwoReaders(t *testing.T) {
	s := "\x01\x05\x01\x01a\x01"
	a, b := wire.New(s), wire.New(s)
	if x, e := a.Num(5), a.End(); x != 5 || e != api.ErrForm {
		t.Errorf("%d %v", x, e)
	}
	if x, text, is := b.Num(5), b.Text(1), b.Bool(); x != 5 || text != "a" || !is || b.End() != api.OK {
		t.Errorf("%d %q %v %v", x, text, is, b.Err())
	}
	if e := a.Err(); e != api.ErrForm {
		t.Error(e)
	}
}

// within tells if a's bytes are some of b's.
func within(a, b string) bool {
	at := uintptr(unsafe.Pointer(unsafe.StringData(a)))
	from := uintptr(unsafe.Pointer(unsafe.StringData(b)))
	return at >= from && at < from+uintptr(len(b))
}

// R5: answers are memory of their own.
func TestAnswersAreNew(t *testing.T) {
	long := strings.Repeat("hoard", 20)
	s := wire.Texts(long) + long
	if within(wire.Texts(long), long) {
		t.Error("Texts answers bytes of what it was handed")
	}
	r := wire.New(s)
	text, rest := r.Text(100), r.Rest()
	if text != long || rest != long {
		t.Fatalf("%q %q", text, rest)
	}
	if within(text, s) || within(rest, s) {
		t.Error("a reader answers bytes of what New was handed")
	}
}

// brick is one that was written, and the call that reads it.
type brick struct {
	bytes string
	do    step
	want  answer
}

// bricks makes some, by a rule; with a count stand as many truths as it says.
func bricks(c *chance) []brick {
	var l []brick
	for range c.below(8) + 1 {
		switch c.below(4) {
		case 0:
			x := c.number()
			l = append(l, brick{wire.Nums(x), num1(x), answer{num: x}})
		case 1:
			s := c.text(c.below(20) * c.below(20))
			l = append(l, brick{wire.Texts(s), text1(len(s)), answer{text: s}})
		case 2:
			is := c.below(2) == 1
			l = append(l, brick{wire.Bool(is), bool1(), answer{is: is}})
		case 3:
			n := c.below(4)
			l = append(l, brick{wire.Nums(uint64(n)), count1(n), answer{n: n}})
			for range n {
				l = append(l, brick{wire.Bool(true), bool1(), answer{is: true}})
			}
		}
	}
	return l
}

// P3.4: what was written is read as itself, nothing is left, and what stands behind is.
func TestBack(t *testing.T) {
	c := chance(4)
	for range 2000 {
		l := bricks(&c)
		s := ""
		for _, b := range l {
			s += b.bytes
		}
		for _, behind := range []string{"", "\x00", "\x09", "behind"} {
			r := wire.New(s + behind)
			for i, b := range l {
				if a := b.do.do(r); a != b.want || r.Err() != api.OK {
					t.Fatalf("%x, brick %d, %c: %v %v, not %v", s, i, b.do.kind, a, r.Err(), b.want)
				}
			}
			if rest := r.Rest(); rest != behind || r.End() != api.OK {
				t.Fatalf("%x: %x is left, %v", s, rest, r.Err())
			}
		}
	}
}

// P3.4: what is cut off anywhere is short: bricks ahead of the cut are read as themselves, or short is told.
func TestCutAnywhere(t *testing.T) {
	c := chance(5)
	for range 300 {
		l := bricks(&c)
		s := ""
		for _, b := range l {
			s += b.bytes
		}
		for cut := range len(s) {
			r := wire.New(s[:cut])
			for i, b := range l {
				if a := b.do.do(r); a != b.want && a != (answer{}) || r.Err() == api.OK && a != b.want {
					t.Fatalf("%x, cut at %d, brick %d, %c: %v %v", s, cut, i, b.do.kind, a, r.Err())
				}
			}
			if r.Err() != api.ErrShort || r.End() != api.ErrShort {
				t.Fatalf("%x, cut at %d: %v", s, cut, r.Err())
			}
		}
	}
}

// P3.2, P3.3: texts of up to two bytes, all of them, under each kind of call.
func TestWhatever(t *testing.T) {
	var calls []step
	for _, most := range []int{math.MinInt, -1, 0, 1, 2, math.MaxInt} {
		calls = append(calls, text1(most), count1(most), num1(uint64(most)))
	}
	calls = append(calls, all()...)
	one := func(s string) {
		for _, do := range calls {
			m := &model{left: s}
			r := wire.New(s)
			want := m.do(do)
			if a := do.do(r); a != want || r.Err() != m.fault {
				t.Fatalf("%x, %c %d %d: %v %v, not %v %v", s, do.kind, do.over, do.most, a, r.Err(), want, m.fault)
			}
			if rest := r.Rest(); rest != m.do(step{'r', 0, 0}).text {
				t.Fatalf("%x, %c: %x is left", s, do.kind, rest)
			}
		}
	}
	one("")
	for a := range 256 {
		one(string([]byte{byte(a)}))
		for b := range 256 {
			one(string([]byte{byte(a), byte(b)}))
		}
	}
}

// FuzzReader: of any bytes whatever, under any calls, a reader answers as the chapter says.
func FuzzReader(f *testing.F) {
	f.Add("", "\x05")
	f.Add("\x01\x05\x02\x01\x2c\x01\x01a\x00\x01rest", "\x00\x00\x01\x01\x02\x04\x05")
	f.Add("\x01\x02ab\x02", "\x03\x01\x02")
	f.Add("\x01\x02\x00\x01", "\x03\x02\x02\x05")
	f.Add("\x01\x02ab", "\x0d")
	kinds := []rune("ntbcre")
	mosts := []int{math.MaxInt, 0, 1, 2, 300, -1, math.MinInt}
	f.Fuzz(func(t *testing.T, s, calls string) {
		r, m := wire.New(s), &model{left: s}
		for i, c := range []byte(calls) {
			most := mosts[int(c)/len(kinds)%len(mosts)]
			do := step{kinds[int(c)%len(kinds)], uint64(most), most}
			want := m.do(do)
			if a := do.do(r); a != want || r.Err() != m.fault {
				t.Fatalf("%x, call %d, %c %d: %v %v, not %v %v", s, i, do.kind, most, a, r.Err(), want, m.fault)
			}
		}
	})
}
