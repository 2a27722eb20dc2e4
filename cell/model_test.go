package cell_test

import (
	"encoding/hex"
	"fmt"
	"math"
	"math/big"
	"strings"
	"testing"

	"hoard/api"
	"hoard/cell"
)

// kinds are all there are, in their order.
var kinds = []uint8{api.CellCount, api.CellBucket, api.CellObject, api.CellUpload, api.CellPart, api.CellPin}

// wide are numbers far from all that may be, such too whose lowest bits are one that may be.
var wide = []int{math.MinInt, math.MinInt + 1, -1 << 48, 1 - 1<<32, -1 << 31, 1 - 1<<16, -4096, -256, -64, -2, -1, 1 << 16, 1<<16 + 1, 1 << 31, 1 << 32, 1<<32 + 1, 1<<32 + 64, 1 << 48, 1 << 62, math.MaxInt - 1, math.MaxInt}

// numbers are such as N and Stamp may be, rising; notNumbers are such as they may not be.
var numbers = []uint64{0, 1, 2, 127, 128, 255, 256, 257, 1<<16 - 1, 1 << 16, 1<<32 - 1, 1 << 32, 0x010203040506, 1<<48 - 1, 1 << 48}
var notNumbers = []uint64{1<<48 + 1, 1<<48 + 2, 1<<49 - 1, 1 << 49, 1 << 56, 1<<56 + 1, 1 << 63, 1<<63 + 1, math.MaxUint64 - 1, math.MaxUint64}

// chance makes numbers by a rule.
type chance uint64

func (c *chance) next() uint32 {
	*c = *c*6364136223846793005 + 1442695040888963407
	return uint32(*c >> 32)
}

// below makes a number below n.
func (c *chance) below(n int) int { return int(c.next() % uint32(n)) }

// text makes one of n bytes.
func (c *chance) text(n int) string {
	l := make([]byte, n)
	for i := range l {
		l[i] = byte(c.next() >> 24)
	}
	return string(l)
}

// number makes one of 0 to 48 bits.
func (c *chance) number() uint64 {
	x := uint64(c.next())<<32 | uint64(c.next())
	return x >> (16 + c.below(49))
}

// body makes one that may be.
func (c *chance) body() api.Body {
	if c.below(2) == 0 {
		n := c.below(65)
		return api.Body{Len: n, Inline: c.text(n)}
	}
	var b api.Body
	for range 1 + c.below(8) {
		p := api.Piece{Row: c.below(4096) >> c.below(12), Stamp: c.number(), Len: 1 + c.below(4096)>>c.below(12)}
		b.Pieces = append(b.Pieces, p)
		b.Len += p.Len
	}
	return b
}

// cell makes one that may be.
func (c *chance) cell() api.Cell {
	x := api.Cell{Kind: kinds[c.below(len(kinds))]}
	switch x.Kind {
	case api.CellObject:
		if x.Gone = c.below(4) == 0; !x.Gone {
			x.Body = c.body()
		}
	case api.CellUpload:
		x.Name = c.text(c.below(201))
	case api.CellPart:
		x.Body = c.body()
	default:
		x.N = c.number()
	}
	return x
}

// one is a byte as a text.
func one(b byte) string { return string([]byte{b}) }

// with is s with another byte at a place.
func with(s string, place int, b byte) string { return s[:place] + one(b) + s[place+1:] }

// number is the bytes of one, as layer 1 has them.
func number(x uint64) string {
	s := ""
	for ; x > 0; x >>= 8 {
		s = one(byte(x)) + s
	}
	return one(byte(len(s))) + s
}

// all is the bytes of numbers, one behind the other.
func all(l ...uint64) string {
	s := ""
	for _, x := range l {
		s += number(x)
	}
	return s
}

// text is the bytes of one, as layer 3 has them.
func text(s string) string { return number(uint64(len(s))) + s }

// inline is a body that has its bytes in itself.
func inline(s string) api.Body { return api.Body{Len: len(s), Inline: s} }

// pieces is a body of pieces.
func pieces(l ...api.Piece) api.Body {
	b := api.Body{Pieces: l}
	for _, p := range l {
		b.Len += p.Len
	}
	return b
}

// lens is a body of that Len, of pieces of these.
func lens(size int, l ...int) api.Body {
	b := api.Body{Len: size}
	for i, n := range l {
		b.Pieces = append(b.Pieces, api.Piece{Row: i, Stamp: uint64(300 + i), Len: n})
	}
	return b
}

// many is a body of n pieces, of size bytes together: all of one byte but the last one.
func many(n, size int) api.Body {
	b := api.Body{Len: size}
	for i := range n {
		b.Pieces = append(b.Pieces, api.Piece{Row: i % 4096, Stamp: uint64(i), Len: 1})
	}
	b.Pieces[n-1].Len = size - n + 1
	return b
}

// copied is a cell that shares no list with c.
func copied(c api.Cell) api.Cell {
	c.Body.Pieces = append([]api.Piece(nil), c.Body.Pieces...)
	return c
}

// same is whether two cells are, field by field.
func same(a, b api.Cell) bool {
	if a.Kind != b.Kind || a.N != b.N || a.Gone != b.Gone || a.Name != b.Name {
		return false
	}
	if a.Body.Len != b.Body.Len || a.Body.Inline != b.Body.Inline || len(a.Body.Pieces) != len(b.Body.Pieces) {
		return false
	}
	for i, p := range a.Body.Pieces {
		if q := b.Body.Pieces[i]; p.Row != q.Row || p.Stamp != q.Stamp || p.Len != q.Len {
			return false
		}
	}
	return true
}

// zero is whether a body is.
func zero(b api.Body) bool { return b.Len == 0 && b.Inline == "" && len(b.Pieces) == 0 }

// maybeBody is a body that may be, as the chapter's Words say it. The sum is of numbers without a bound.
func maybeBody(b api.Body) bool {
	if b.Len < 0 || b.Len > 32768 {
		return false
	}
	if len(b.Pieces) == 0 {
		return b.Len == len(b.Inline) && len(b.Inline) < 65
	}
	if b.Inline != "" || len(b.Pieces) > 512 {
		return false
	}
	sum := new(big.Int)
	for _, p := range b.Pieces {
		if p.Row < 0 || p.Row > 4095 || p.Stamp > 1<<48 || p.Len <= 0 {
			return false
		}
		sum.Add(sum, big.NewInt(int64(p.Len)))
	}
	return sum.Cmp(big.NewInt(int64(b.Len))) == 0
}

// maybe is a cell that may be, as the Words say it.
func maybe(c api.Cell) bool {
	n, gone, name, body := c.N == 0, !c.Gone, c.Name == "", zero(c.Body)
	switch c.Kind {
	case 1, 2, 6:
		n = c.N <= 1<<48
	case 3:
		gone = true
		if !c.Gone {
			body = maybeBody(c.Body)
		}
	case 4:
		name = len(c.Name) < 201
	case 5:
		body = maybeBody(c.Body)
	default:
		return false
	}
	return n && gone && name && body
}

// bytesOfBody are a body's bytes, as the Words say them, whether or not it may be.
func bytesOfBody(b api.Body) string {
	if len(b.Pieces) == 0 {
		return number(uint64(b.Len)) + "\x00" + text(b.Inline)
	}
	var s strings.Builder
	s.WriteString(number(uint64(b.Len)) + "\x01" + number(uint64(len(b.Pieces))))
	for _, p := range b.Pieces {
		s.WriteString(all(uint64(p.Row), p.Stamp, uint64(p.Len)))
	}
	return s.String()
}

// bytesOf are a cell's bytes, as the Words say them, whether or not it may be.
func bytesOf(c api.Cell) string {
	s := number(uint64(c.Kind))
	switch c.Kind {
	case 1, 2, 6:
		s += number(c.N)
	case 3:
		if c.Gone {
			return s + "\x01"
		}
		s += "\x00" + bytesOfBody(c.Body)
	case 4:
		s += text(c.Name)
	case 5:
		s += bytesOfBody(c.Body)
	}
	return s
}

// scan goes over a text; bad: something was not there.
type scan struct {
	left string
	bad  bool
}

// number takes one. Bytes of which the first is 0 are none.
func (s *scan) number() uint64 {
	if s.bad || s.left == "" || s.left[0] > 8 || len(s.left) <= int(s.left[0]) || s.left[0] > 0 && s.left[1] == 0 {
		s.bad = true
		return 0
	}
	size := int(s.left[0])
	x := uint64(0)
	for _, b := range []byte(s.left[1 : 1+size]) {
		x = x*256 + uint64(b)
	}
	s.left = s.left[1+size:]
	return x
}

// small takes a number that is not above a bound that is above all that may be.
func (s *scan) small() int {
	x := s.number()
	s.bad = s.bad || x > 1<<20
	if s.bad {
		return 0
	}
	return int(x)
}

// truth takes one.
func (s *scan) truth() bool {
	if s.bad || s.left == "" || s.left[0] > 1 {
		s.bad = true
		return false
	}
	is := s.left[0] == 1
	s.left = s.left[1:]
	return is
}

// text takes one.
func (s *scan) text() string {
	n := s.small()
	if s.bad || n > len(s.left) {
		s.bad = true
		return ""
	}
	x := s.left[:n]
	s.left = s.left[n:]
	return x
}

// body takes one.
func (s *scan) body() api.Body {
	b := api.Body{Len: s.small()}
	if !s.truth() {
		b.Inline = s.text()
		return b
	}
	n := s.small()
	s.bad = s.bad || n == 0
	for ; n > 0 && !s.bad; n-- {
		row := s.small()
		stamp := s.number()
		b.Pieces = append(b.Pieces, api.Piece{Row: row, Stamp: stamp, Len: s.small()})
	}
	return b
}

// cellOf is the cell whose bytes s is, read from the front to the end, if there is one that may be.
func cellOf(s string) (api.Cell, bool) {
	r := &scan{left: s}
	kind := r.small()
	if kind > 6 {
		return api.Cell{}, false
	}
	c := api.Cell{Kind: uint8(kind)}
	switch kind {
	case 1, 2, 6:
		c.N = r.number()
	case 3:
		if c.Gone = r.truth(); !c.Gone {
			c.Body = r.body()
		}
	case 4:
		c.Name = r.text()
	case 5:
		c.Body = r.body()
	}
	if r.bad || r.left != "" || !maybe(c) {
		return api.Cell{}, false
	}
	return c, true
}

// brief is what a message says of a thing, which may have many pieces.
func brief(x any) string {
	s := fmt.Sprintf("%+v", x)
	if text, is := x.(string); is {
		s = hex.EncodeToString([]byte(text))
	}
	if len(s) > 300 {
		s = s[:300] + ".."
	}
	return s
}

// seenBody holds MayBody to what b is, and May, Encode and Decode of the cells that have it.
func seenBody(t *testing.T, b api.Body) {
	t.Helper()
	if got, want := cell.MayBody(b), maybeBody(b); got != want {
		t.Errorf("MayBody(%s): %v", brief(b), got)
	}
	for _, kind := range kinds {
		seen(t, api.Cell{Kind: kind, Body: b})
		seen(t, api.Cell{Kind: kind, Body: b, Gone: true})
	}
}

// mayBody holds MayBody to whether b may be.
func mayBody(t *testing.T, b api.Body, want bool) {
	t.Helper()
	if got := cell.MayBody(b); got != want || maybeBody(b) != want {
		t.Errorf("MayBody(%s): %v, not %v", brief(b), got, want)
	}
	seenBody(t, b)
}

// seen holds May and Encode of a cell to what it is, and Decode of what its bytes would be.
func seen(t *testing.T, c api.Cell) {
	t.Helper()
	may := maybe(c)
	if got := cell.May(c); got != may {
		t.Errorf("May(%s): %v", brief(c), got)
	}
	want, e := "", api.ErrArg
	if may {
		want, e = bytesOf(c), api.OK
	}
	if got, is := cell.Encode(c); got != want || is != e {
		t.Errorf("Encode(%s): %s %v, not %s %v", brief(c), brief(got), is, brief(want), e)
	}
	decodes(t, bytesOf(c))
}

// decodes holds Decode of a text to what it is.
func decodes(t *testing.T, s string) {
	t.Helper()
	want, is := cellOf(s)
	e := api.ErrForm
	if is {
		e = api.OK
	}
	got, gotE := cell.Decode(s)
	if !same(got, want) || gotE != e || !is && got.Body.Pieces != nil {
		t.Errorf("Decode(%s): %s %v, not %s %v", brief(s), brief(got), gotE, brief(want), e)
	}
}

// noCell holds Decode of a text to ErrForm.
func noCell(t *testing.T, s string) {
	t.Helper()
	if c, is := cellOf(s); is {
		t.Errorf("%s is %s", brief(s), brief(c))
	}
	decodes(t, s)
}

// encodes holds Encode of a cell to bytes that are written out, and Decode of these to the cell.
func encodes(t *testing.T, c api.Cell, want string) {
	t.Helper()
	if got, e := cell.Encode(c); got != want || e != api.OK {
		t.Errorf("Encode(%s): %s %v, not %s", brief(c), brief(got), e, brief(want))
	}
	if got, e := cell.Decode(want); !same(got, c) || e != api.OK {
		t.Errorf("Decode(%s): %s %v, not %s", brief(want), brief(got), e, brief(c))
	}
	if !cell.May(c) {
		t.Errorf("May(%s): false", brief(c))
	}
}

// refuses holds May and Encode of a cell to one that may not be, and Decode of what its bytes would be.
func refuses(t *testing.T, c api.Cell) {
	t.Helper()
	if cell.May(c) || maybe(c) {
		t.Errorf("May(%s): true", brief(c))
	}
	if got, e := cell.Encode(c); got != "" || e != api.ErrArg {
		t.Errorf("Encode(%s): %s %v", brief(c), brief(got), e)
	}
	decodes(t, bytesOf(c))
}

// bodies are such as may be, with what is at its bounds.
func bodies() []api.Body {
	return []api.Body{
		{},
		{Pieces: []api.Piece{}},
		inline("a"),
		inline("\x00"),
		inline("\x01\x01\x01"),
		inline(strings.Repeat("\xff", 63)),
		inline(strings.Repeat("i", 64)),
		pieces(api.Piece{Len: 1}),
		pieces(api.Piece{Row: 4095, Stamp: 1 << 48, Len: 32768}),
		pieces(api.Piece{Row: 7, Stamp: 300, Len: 100}, api.Piece{Row: 2, Stamp: 301, Len: 20}),
		pieces(api.Piece{Row: 255, Stamp: 255, Len: 255}, api.Piece{Row: 256, Stamp: 256, Len: 256}, api.Piece{Row: 255, Stamp: 255, Len: 255}),
		pieces(api.Piece{Row: 5, Stamp: 1, Len: 32767}, api.Piece{Row: 5, Stamp: 1, Len: 1}),
		many(3, 64),
		many(12, 300),
	}
}

// samples are cells that may be, of each kind, with what is at its bounds.
func samples() []api.Cell {
	var l []api.Cell
	for _, n := range numbers {
		l = append(l, api.Cell{Kind: api.CellCount, N: n}, api.Cell{Kind: api.CellBucket, N: n}, api.Cell{Kind: api.CellPin, N: n})
	}
	for _, s := range []string{"", "a", "\x00", "\xff\x00", "\x01\x01\x01", strings.Repeat("n", 127), strings.Repeat("\x00", 199), strings.Repeat("\xff", 200)} {
		l = append(l, api.Cell{Kind: api.CellUpload, Name: s})
	}
	for _, b := range bodies() {
		l = append(l, api.Cell{Kind: api.CellObject, Body: b}, api.Cell{Kind: api.CellPart, Body: b})
	}
	return append(l, api.Cell{Kind: api.CellObject, Gone: true}, api.Cell{Kind: api.CellObject, Gone: true, Body: api.Body{Pieces: []api.Piece{}}})
}
