package cell_test

import (
	"math"
	"slices"
	"strings"
	"testing"
	"unsafe"

	"hoard/api"
	"hoard/cell"
)

// P14.1: bodies of each Len about the bounds, with as many bytes in themselves, one fewer, one more, none.
func TestInline(t *testing.T) {
	for n := range 600 {
		s := strings.Repeat("b", n)
		mayBody(t, api.Body{Len: n, Inline: s}, n <= 64)
		mayBody(t, api.Body{Len: n, Inline: s, Pieces: []api.Piece{}}, n <= 64)
		mayBody(t, api.Body{Len: n + 1, Inline: s}, false)
		mayBody(t, api.Body{Len: n - 1, Inline: s}, false)
		mayBody(t, api.Body{Len: -n, Inline: s}, n == 0)
		mayBody(t, api.Body{Len: n}, n == 0)
		mayBody(t, api.Body{Inline: s}, n == 0)
	}
	for _, n := range []int{1 << 8, 1<<8 + 64, 1<<15 - 1, 1 << 15, 1<<15 + 1, 1 << 16, 1<<16 + 64} {
		mayBody(t, api.Body{Len: n, Inline: strings.Repeat("b", n)}, false)
		mayBody(t, api.Body{Len: n & 255, Inline: strings.Repeat("b", n)}, false)
	}
	for b := range 256 {
		mayBody(t, inline(one(byte(b))), true)
		mayBody(t, inline(strings.Repeat(one(byte(b)), 64)), true)
	}
}

// P14.1: bodies of one piece and of several, whose Len is at its bounds and beyond, and whose pieces have so many bytes, or not.
func TestLen(t *testing.T) {
	for _, n := range []int{1, 2, 3, 63, 64, 65, 255, 256, 1 << 14, 32766, 32767, 32768, 32769, 32770, 65535, 65536} {
		may := n <= 32768
		mayBody(t, lens(n, n), may)
		mayBody(t, lens(n-1, n), false)
		mayBody(t, lens(n+1, n), false)
		mayBody(t, lens(-n, n), false)
		mayBody(t, lens(-n, -n), false)
		mayBody(t, lens(0, n), false)
		mayBody(t, lens(n+1, n, 1), n < 32768)
		mayBody(t, lens(n+1, 1, n), n < 32768)
		mayBody(t, lens(n, n, 1), false)
		mayBody(t, lens(n, 1, n), false)
		mayBody(t, lens(n+2, n, 1), false)
		mayBody(t, lens(2*n+5, n, 2, n, 3), 2*n+5 <= 32768)
	}
	for _, n := range wide {
		mayBody(t, api.Body{Len: n}, false)
		mayBody(t, api.Body{Len: n, Inline: "a"}, false)
		mayBody(t, lens(n, 1), false)
		mayBody(t, lens(n, n), false)
		mayBody(t, lens(n, n-1, 1), false)
		mayBody(t, lens(n, 32768), false)
	}
}

// P14.1: a body has its bytes in itself or in pieces, never both.
func TestBoth(t *testing.T) {
	for _, n := range []int{1, 2, 63, 64, 65, 100} {
		s := strings.Repeat("b", n)
		mayBody(t, api.Body{Len: n, Inline: s, Pieces: lens(n, n).Pieces}, false)
		mayBody(t, api.Body{Len: 2 * n, Inline: s, Pieces: lens(n, n).Pieces}, false)
		mayBody(t, api.Body{Len: n + 1, Inline: "b", Pieces: lens(n, n).Pieces}, false)
		mayBody(t, api.Body{Len: n, Inline: "b", Pieces: lens(n, n).Pieces}, false)
		mayBody(t, api.Body{Len: n, Inline: "\x00", Pieces: lens(n, n).Pieces}, false)
		mayBody(t, api.Body{Len: n, Inline: s, Pieces: []api.Piece{{}}}, false)
	}
	mayBody(t, api.Body{Pieces: []api.Piece{{}}}, false)
	mayBody(t, api.Body{Pieces: make([]api.Piece, 512)}, false)
}

// P14.1: as many pieces as may be, one fewer, and more.
func TestMany(t *testing.T) {
	for _, n := range []int{1, 2, 255, 256, 257, 510, 511, 512, 513, 514, 767, 768, 1023, 1024, 1025, 4096, 32768} {
		mayBody(t, many(n, n), n <= 512)
		mayBody(t, many(n, 32768), n <= 512)
		mayBody(t, many(n, n+1), n <= 512 && n < 32768)
	}
	for _, n := range []int{1<<16 + 1, 1<<16 + 512, 1 << 17} {
		b := many(n, n)
		mayBody(t, b, false)
		b.Len = n & 0xffff
		mayBody(t, b, false)
	}
	b := many(512, 32768)
	b.Len--
	mayBody(t, b, false)
	b.Len += 2
	mayBody(t, b, false)
}

// P14.1: each of a piece's fields at its bounds and beyond, in each place of a body of one, two, three and of as many as may be.
func TestPieces(t *testing.T) {
	rows := append([]int{0, 1, 2, 255, 256, 4094, 4095, 4096, 4097, 8191, 8192}, wide...)
	stamps := append(slices.Clone(numbers), notNumbers...)
	for _, n := range []int{1, 2, 3, 512} {
		for _, place := range slices.Compact([]int{0, n / 2, n - 1}) {
			for _, row := range rows {
				b := many(n, 2*n)
				b.Pieces[place].Row = row
				mayBody(t, b, 0 <= row && row <= 4095)
			}
			for _, stamp := range stamps {
				b := many(n, 2*n)
				b.Pieces[place].Stamp = stamp
				mayBody(t, b, stamp <= 1<<48)
			}
			for _, size := range append([]int{0, 1, 2, 3, 64, 255, 256}, wide...) {
				b := many(n, 2*n)
				b.Pieces[place].Len = size
				b.Len = 0
				for _, p := range b.Pieces {
					b.Len += p.Len
				}
				mayBody(t, b, 1 <= size && size <= 256)
			}
		}
	}
	for row := range 4200 {
		if b := pieces(api.Piece{Row: row, Len: 9}); cell.MayBody(b) != (row < 4096) {
			t.Errorf("Row %d", row)
		}
	}
}

// P14.1: two pieces may be in one row, and be the same; their order is free.
func TestPiecesAlike(t *testing.T) {
	p, q := api.Piece{Row: 5, Stamp: 9, Len: 3}, api.Piece{Row: 4, Stamp: 8, Len: 3}
	mayBody(t, pieces(p, p), true)
	mayBody(t, pieces(p, q, p), true)
	mayBody(t, pieces(q, p), true)
	mayBody(t, pieces(p, q), true)
	mayBody(t, pieces(api.Piece{Row: 5, Stamp: 9, Len: 1}, api.Piece{Row: 5, Stamp: 1 << 48, Len: 2}), true)
}

// P14.1: Lens whose sum is a Len that may be, modulo what a number holds, or with some below 1.
func TestSums(t *testing.T) {
	const most = math.MaxInt
	for _, n := range []int{0, 1, 2, 64, 100, 32767, 32768} {
		for _, l := range [][]int{
			{most, most, n + 2},
			{n + 2, most, most},
			{most, n + 2, most},
			{most, 1, math.MinInt, n},
			{1 << 62, 1 << 62, 1 << 62, 1 << 62, n},
			{n, 1 << 62, 1 << 62, 1 << 62, 1 << 62},
			{1 << 32, n},
			{1<<32 + n},
			{1 << 31, 1 << 31, n},
			{most},
			{most, 1},
			{most, most},
			{-1, n + 1},
			{n + 1, -1},
			{math.MinInt, math.MinInt, n},
			{-n - 1, 2*n + 1},
			{n, 0},
			{0, n},
			{0},
			{0, 0, n, 0},
			{1, n, -1},
			{n + 5, 1, -6},
			{1<<16 + n},
			{1 << 15, 1 << 15, n},
		} {
			b := lens(n, l...)
			mayBody(t, b, n > 0 && len(l) == 1 && l[0] == n)
		}
		var l []int
		for range 511 {
			l = append(l, 1<<62)
		}
		mayBody(t, lens(n, append(l, 1<<62+n)...), false)
	}
}

// P14.1: pieces that are together as long as the body, and then one more that may be or not; and ones of which the sum is passed, with something wrong behind it.
func TestPassed(t *testing.T) {
	for n := 1; n <= 20; n++ {
		l := lens(n, slices.Repeat([]int{1}, n)...)
		mayBody(t, l, true)
		for _, more := range []api.Piece{{}, {Len: 1}, {Len: -1}, {Row: -1, Len: 1}, {Row: -1}, {Stamp: math.MaxUint64}, {Len: math.MaxInt}, {Len: math.MinInt}} {
			for place := range n + 1 {
				b := api.Body{Len: n, Pieces: slices.Insert(slices.Clone(l.Pieces), place, more)}
				mayBody(t, b, false)
			}
		}
		for place := range n {
			b := api.Body{Len: n, Pieces: slices.Delete(slices.Clone(l.Pieces), place, place+1)}
			mayBody(t, b, false)
		}
	}
}

// P14.1: cells of each kind, and of kinds that are none, with each choice of what is set.
func TestMayKinds(t *testing.T) {
	one := lens(2, 2).Pieces
	for kind := range 256 {
		for set := range 64 {
			c := api.Cell{Kind: uint8(kind)}
			if set&1 != 0 {
				c.N = 7
			}
			if set&2 != 0 {
				c.Gone = true
			}
			if set&4 != 0 {
				c.Name = "n"
			}
			if set&8 != 0 {
				c.Body.Len = 2
			}
			if set&16 != 0 {
				c.Body.Inline = "xy"
			}
			if set&32 != 0 {
				c.Body.Pieces = one
			}
			body := set == 0 || set == 8+16 || set == 8+32
			want := map[int]bool{1: set|1 == 1, 2: set|1 == 1, 3: set == 2 || body, 4: set|4 == 4, 5: body, 6: set|1 == 1}[kind]
			if got := cell.May(c); got != want {
				t.Errorf("May(%+v): %v", c, got)
			}
			seen(t, c)
		}
	}
}

// P14.1: each field that a kind has not is set to something, all else may be.
func TestMayHasNot(t *testing.T) {
	hasN := func(kind uint8) bool { return kind < 3 || kind == 6 }
	for _, c := range samples() {
		seen(t, c)
		if !cell.May(c) {
			t.Errorf("May(%+v): false", c)
		}
		for _, n := range append(slices.Clone(numbers[1:]), notNumbers...) {
			if other := c; !hasN(c.Kind) {
				other.N = n
				refuses(t, other)
			}
		}
		if other := c; c.Kind != api.CellObject {
			other.Gone = true
			refuses(t, other)
		}
		for _, s := range []string{"a", "\x00", "\xff", strings.Repeat("n", 200), strings.Repeat("n", 201)} {
			if other := c; c.Kind != api.CellUpload {
				other.Name = s
				refuses(t, other)
			}
		}
		for _, b := range append(bodies()[2:], api.Body{Len: 1}, api.Body{Len: -1}, api.Body{Inline: "a"}, api.Body{Pieces: []api.Piece{{}}}, lens(0, 1), lens(1, 0)) {
			if other := c; hasN(c.Kind) || c.Kind == api.CellUpload || c.Gone {
				other.Body = b
				refuses(t, other)
			}
		}
	}
}

// P14.1: each field that a kind has is at its bounds, and beyond them.
func TestMayHas(t *testing.T) {
	for _, kind := range []uint8{api.CellCount, api.CellBucket, api.CellPin} {
		for _, n := range numbers {
			encodes(t, api.Cell{Kind: kind, N: n}, number(uint64(kind))+number(n))
		}
		for _, n := range notNumbers {
			refuses(t, api.Cell{Kind: kind, N: n})
		}
		for bit := range 64 {
			for _, n := range []uint64{1 << bit, 1<<bit + 1, 1<<bit - 1, ^uint64(1 << bit)} {
				seen(t, api.Cell{Kind: kind, N: n})
			}
		}
	}
	for n := range 700 {
		for _, letter := range []string{"a", "\x00", "\xff"} {
			c := api.Cell{Kind: api.CellUpload, Name: strings.Repeat(letter, n)}
			if n <= 200 {
				encodes(t, c, number(4)+text(c.Name))
			} else {
				refuses(t, c)
			}
		}
	}
	for _, n := range []int{1<<16 + 1, 1<<16 + 200, 1 << 20} {
		refuses(t, api.Cell{Kind: api.CellUpload, Name: strings.Repeat("a", n)})
	}
	for _, kind := range []uint8{api.CellObject, api.CellPart} {
		for _, b := range bodies() {
			c := api.Cell{Kind: kind, Body: b}
			encodes(t, c, bytesOf(c))
		}
		for _, b := range []api.Body{lens(120, 100, 21), lens(120, 100, 19), lens(121, 100, 20), {Len: 1}, {Inline: "a"}, inline(strings.Repeat("i", 65)), {Pieces: []api.Piece{{}}}, many(513, 513), lens(32769, 32769)} {
			refuses(t, api.Cell{Kind: kind, Body: b})
		}
	}
}

// P14.1: of a Gone object the body is zero, whatever else it could be.
func TestGone(t *testing.T) {
	encodes(t, api.Cell{Kind: api.CellObject, Gone: true}, "\x01\x03\x01")
	encodes(t, api.Cell{Kind: api.CellObject, Gone: true, Body: api.Body{Pieces: []api.Piece{}}}, "\x01\x03\x01")
	for _, b := range append(bodies()[2:], api.Body{Len: 1}, api.Body{Len: -1}, api.Body{Len: 32769}, api.Body{Inline: "a"}, api.Body{Pieces: []api.Piece{{}}}) {
		refuses(t, api.Cell{Kind: api.CellObject, Gone: true, Body: b})
	}
	for _, kind := range kinds {
		seen(t, api.Cell{Kind: kind, Gone: true})
	}
}

// P14.2: the bytes of cells, written out.
func TestEncode(t *testing.T) {
	encodes(t, api.Cell{Kind: api.CellCount}, "\x01\x01\x00")
	encodes(t, api.Cell{Kind: api.CellCount, N: 5}, "\x01\x01\x01\x05")
	encodes(t, api.Cell{Kind: api.CellCount, N: 255}, "\x01\x01\x01\xff")
	encodes(t, api.Cell{Kind: api.CellCount, N: 256}, "\x01\x01\x02\x01\x00")
	encodes(t, api.Cell{Kind: api.CellCount, N: 1<<48 - 1}, "\x01\x01\x06\xff\xff\xff\xff\xff\xff")
	encodes(t, api.Cell{Kind: api.CellCount, N: 1 << 48}, "\x01\x01\x07\x01\x00\x00\x00\x00\x00\x00")
	encodes(t, api.Cell{Kind: api.CellBucket}, "\x01\x02\x00")
	encodes(t, api.Cell{Kind: api.CellBucket, N: 300}, "\x01\x02\x02\x01\x2c")
	encodes(t, api.Cell{Kind: api.CellBucket, N: 0x010203040506}, "\x01\x02\x06\x01\x02\x03\x04\x05\x06")
	encodes(t, api.Cell{Kind: api.CellObject, Gone: true}, "\x01\x03\x01")
	encodes(t, api.Cell{Kind: api.CellObject}, "\x01\x03\x00\x00\x00\x00")
	encodes(t, api.Cell{Kind: api.CellObject, Body: inline("ab")}, "\x01\x03\x00\x01\x02\x00\x01\x02ab")
	encodes(t, api.Cell{Kind: api.CellObject, Body: inline("\x00")}, "\x01\x03\x00\x01\x01\x00\x01\x01\x00")
	long := strings.Repeat("\xfe", 64)
	encodes(t, api.Cell{Kind: api.CellObject, Body: inline(long)}, "\x01\x03\x00\x01\x40\x00\x01\x40"+long)
	encodes(t, api.Cell{Kind: api.CellObject, Body: pieces(api.Piece{Row: 7, Stamp: 300, Len: 100}, api.Piece{Row: 2, Stamp: 301, Len: 20})},
		"\x01\x03\x00\x01\x78\x01\x01\x02\x01\x07\x02\x01\x2c\x01\x64\x01\x02\x02\x01\x2d\x01\x14")
	encodes(t, api.Cell{Kind: api.CellObject, Body: pieces(api.Piece{Len: 1})}, "\x01\x03\x00\x01\x01\x01\x01\x01\x00\x00\x01\x01")
	encodes(t, api.Cell{Kind: api.CellObject, Body: pieces(api.Piece{Row: 4095, Stamp: 1 << 48, Len: 32768})},
		"\x01\x03\x00\x02\x80\x00\x01\x01\x01\x02\x0f\xff\x07\x01\x00\x00\x00\x00\x00\x00\x02\x80\x00")
	encodes(t, api.Cell{Kind: api.CellUpload}, "\x01\x04\x00")
	encodes(t, api.Cell{Kind: api.CellUpload, Name: "a"}, "\x01\x04\x01\x01a")
	encodes(t, api.Cell{Kind: api.CellUpload, Name: "\x00\xff"}, "\x01\x04\x01\x02\x00\xff")
	name := strings.Repeat("n", 200)
	encodes(t, api.Cell{Kind: api.CellUpload, Name: name}, "\x01\x04\x01\xc8"+name)
	encodes(t, api.Cell{Kind: api.CellPart}, "\x01\x05\x00\x00\x00")
	encodes(t, api.Cell{Kind: api.CellPart, Body: inline("ab")}, "\x01\x05\x01\x02\x00\x01\x02ab")
	encodes(t, api.Cell{Kind: api.CellPart, Body: pieces(api.Piece{Row: 256, Stamp: 9, Len: 257})}, "\x01\x05\x02\x01\x01\x01\x01\x01\x02\x01\x00\x01\x09\x02\x01\x01")
	ones := ""
	for range 511 {
		ones += "\x01\x03\x01\x04\x01\x01"
	}
	most := slices.Repeat([]api.Piece{{Row: 3, Stamp: 4, Len: 1}}, 512)
	most[511] = api.Piece{Row: 0x123, Stamp: 0x4567, Len: 32768 - 511}
	encodes(t, api.Cell{Kind: api.CellPart, Body: pieces(most...)}, "\x01\x05\x02\x80\x00\x01\x02\x02\x00"+ones+"\x02\x01\x23\x02\x45\x67\x02\x7e\x01")
	encodes(t, api.Cell{Kind: api.CellPin}, "\x01\x06\x00")
	encodes(t, api.Cell{Kind: api.CellPin, N: 1 << 40}, "\x01\x06\x06\x01\x00\x00\x00\x00\x00")
}

// P14.2: numbers of few and of many bytes, in each place where one stands.
func TestEncodeNumbers(t *testing.T) {
	for bit := range 49 {
		for _, n := range []uint64{1 << bit, 1<<bit - 1} {
			for _, kind := range []uint8{api.CellCount, api.CellBucket, api.CellPin} {
				encodes(t, api.Cell{Kind: kind, N: n}, "\x01"+one(kind)+number(n))
			}
			encodes(t, api.Cell{Kind: api.CellPart, Body: pieces(api.Piece{Row: 1, Stamp: n, Len: 2})}, "\x01\x05\x01\x02\x01\x01\x01\x01\x01"+number(n)+"\x01\x02")
		}
	}
	for n := 1; n <= 32768; n = n + 1 + n/50 {
		row := n % 4096
		encodes(t, api.Cell{Kind: api.CellPart, Body: pieces(api.Piece{Row: row, Len: n})}, "\x01\x05"+number(uint64(n))+"\x01\x01\x01"+number(uint64(row))+"\x00"+number(uint64(n)))
	}
	for n := 1; n <= 512; n++ {
		b := many(n, 600)
		c := api.Cell{Kind: api.CellObject, Body: b}
		encodes(t, c, bytesOf(c))
	}
}

// P14.2: no text, texts of one byte and of two, of three that begin as a cell does: all of them.
func TestDecodeShort(t *testing.T) {
	noCell(t, "")
	for a := range 256 {
		noCell(t, one(byte(a)))
		for b := range 256 {
			s := one(byte(a)) + one(byte(b))
			noCell(t, s)
			decodes(t, "\x01"+s)
		}
	}
}

// P14.2: all that Encode tells, cut short, with something behind it or ahead of it, with another byte at each place, with one put in or taken out.
func TestDecodeNearly(t *testing.T) {
	for _, c := range samples() {
		s := bytesOf(c)
		for n := range len(s) {
			noCell(t, s[:n])
			decodes(t, s[n:])
			decodes(t, s[:n]+s[n+1:])
			for _, b := range []byte{0, 1, 2, 3, 7, 8, 9, 254, 255} {
				decodes(t, s[:n]+one(b)+s[n:])
			}
			for b := range 256 {
				decodes(t, with(s, n, byte(b)))
			}
		}
		for b := range 256 {
			noCell(t, s+one(byte(b)))
		}
		noCell(t, s+s)
		for _, other := range []string{"\x00", "\x00\x00\x00", "\x01\x01\x00", "\x01\x03\x01", "\x00\x00\x01\x01"} {
			noCell(t, s+other)
			noCell(t, other+s)
		}
	}
}

// P14.2: the same of a cell of as many pieces as may be, at some of its places.
func TestDecodeNearlyMost(t *testing.T) {
	s := bytesOf(api.Cell{Kind: api.CellPart, Body: many(512, 32768)})
	for n := 0; n < len(s); n += 7 {
		noCell(t, s[:n])
		for _, b := range []byte{0, 1, 2, 3, 9, 254, 255} {
			decodes(t, with(s, n, b))
		}
		decodes(t, s[:n]+s[n+1:])
	}
	noCell(t, s[:len(s)-1])
	noCell(t, s+"\x00")
}

// P14.2: a truth that is neither 0 nor 1.
func TestDecodeTruth(t *testing.T) {
	for b := range 256 {
		for _, s := range []string{
			"\x01\x03" + one(byte(b)),
			"\x01\x03" + one(byte(b)) + "\x00\x00\x00",
			"\x01\x03\x00\x00" + one(byte(b)) + "\x00",
			"\x01\x03\x00\x01\x01" + one(byte(b)) + "\x01\x01a",
			"\x01\x03\x00\x01\x01" + one(byte(b)) + "\x01\x01\x00\x00\x01\x01",
			"\x01\x05\x00" + one(byte(b)) + "\x00",
			"\x01\x05\x01\x01" + one(byte(b)) + "\x01\x01a",
			"\x01\x05\x01\x01" + one(byte(b)) + "\x01\x01\x00\x00\x01\x01",
		} {
			decodes(t, s)
			if b > 1 {
				noCell(t, s)
			}
		}
	}
}

// P14.2: a Gone object has nothing behind that.
func TestDecodeGone(t *testing.T) {
	for _, b := range bodies() {
		noCell(t, "\x01\x03\x01"+bytesOfBody(b))
		noCell(t, "\x01\x05\x01"+bytesOfBody(b))
		noCell(t, "\x01\x05\x00"+bytesOfBody(b))
	}
	noCell(t, "\x01\x03\x01\x00")
	noCell(t, "\x01\x03\x01\x00\x00\x00")
	noCell(t, "\x01\x03\x00")
	noCell(t, "\x01\x05\x01")
}

// P14.2: kinds that are none, such too whose lowest bits are one, with what each kind has behind it.
func TestDecodeKinds(t *testing.T) {
	var l []uint64
	for kind := range uint64(600) {
		l = append(l, kind)
	}
	for bit := range 64 {
		for kind := range uint64(7) {
			l = append(l, 1<<bit+kind, 1<<bit-1)
		}
	}
	for _, kind := range l {
		for _, s := range []string{"", "\x00", "\x01\x05", "\x01", "\x00\x00\x00\x00", "\x00\x01\x02\x00\x01\x02ab", "\x01\x01a", "\x00\x00\x00", "\x01\x02\x00\x01\x02ab", "\x01\x01\x01\x01\x01\x00\x00\x01\x01"} {
			decodes(t, number(kind)+s)
			if kind < 1 || kind > 6 {
				noCell(t, number(kind)+s)
			}
		}
	}
}

// P14.2: numbers that have a byte 0 first, or more bytes than there may be, in each place where one stands.
func TestDecodeLongNumbers(t *testing.T) {
	for _, kind := range kinds {
		for _, ahead := range []string{"\x02\x00", "\x03\x00\x00", "\x08\x00\x00\x00\x00\x00\x00\x00", "\x09\x00\x00\x00\x00\x00\x00\x00\x00", "\x02\x01", "\x08\x01\x00\x00\x00\x00\x00\x00"} {
			for _, behind := range []string{"\x00", "\x01\x05", "\x01", "\x00\x00\x00", "\x00\x00\x00\x00"} {
				noCell(t, ahead+one(kind)+behind)
			}
		}
	}
	for _, long := range []string{"\x02\x00\x01", "\x03\x00\x00\x01", "\x08\x00\x00\x00\x00\x00\x00\x00\x01", "\x01\x00", "\x02\x00\x00", "\x09\x00\x00\x00\x00\x00\x00\x00\x00\x01", "\x09\x01\x01\x01\x01\x01\x01\x01\x01\x01", "\xff\x01"} {
		for _, kind := range kinds {
			noCell(t, "\x01"+one(kind)+long)
			noCell(t, "\x01"+one(kind)+long+"a")
		}
		for _, s := range [][2]string{
			{"\x01\x05", "\x00\x01\x01a"},
			{"\x01\x05", "\x00\x00"},
			{"\x01\x05\x01\x01\x00", "a"},
			{"\x01\x05\x00\x00", ""},
			{"\x01\x05\x01\x01\x01", "\x00\x00\x01\x01"},
			{"\x01\x05\x01\x01\x01\x01\x01", "\x00\x01\x01"},
			{"\x01\x05\x01\x01\x01\x01\x01\x00", "\x01\x01"},
			{"\x01\x05\x01\x01\x01\x01\x01\x00\x00", ""},
		} {
			noCell(t, s[0]+long+s[1])
			noCell(t, strings.Replace(s[0], "\x05", "\x03\x00", 1)+long+s[1])
		}
	}
}

// P14.2: counts and lengths that are beyond what is there, or beyond what may be, in each place where one stands.
func TestDecodeBeyond(t *testing.T) {
	var l []uint64
	for _, n := range []uint64{0, 1, 2, 63, 64, 65, 200, 201, 255, 256, 511, 512, 513, 4095, 4096, 32768, 32769, 1 << 16, 1 << 20, 1<<31 - 1, 1 << 31, 1 << 32, 1<<32 + 1, 1<<32 + 2, 1 << 48, 1<<48 + 1, 1<<62 + 1, 1<<63 - 1, 1 << 63, 1<<63 + 1, math.MaxUint64 - 1, math.MaxUint64} {
		l = append(l, n)
	}
	for _, n := range l {
		for _, kind := range kinds {
			decodes(t, all(uint64(kind), n))
			decodes(t, all(uint64(kind), n)+"ab")
			decodes(t, all(uint64(kind), n)+strings.Repeat("a", 300))
			decodes(t, all(uint64(kind), n)+strings.Repeat("a", int(n%1024)))
		}
		for _, ahead := range []string{"\x01\x05", "\x01\x03\x00"} {
			for _, m := range l {
				decodes(t, ahead+number(n)+"\x00"+number(m)+strings.Repeat("a", int(m%1024)))
				decodes(t, ahead+number(n)+"\x01\x01\x01"+all(0, 0, m))
				decodes(t, ahead+number(n)+"\x01\x01\x02"+all(0, 0, 1)+all(0, 0, m))
				decodes(t, ahead+number(2)+"\x01"+number(n)+all(0, 0, 2)+all(0, 0, m))
			}
			decodes(t, ahead+all(2)+"\x01"+number(n)+all(0, 0, 2))
			decodes(t, ahead+all(2)+"\x01"+number(n)+all(0, 0, 1)+all(0, 0, 1))
			decodes(t, ahead+all(n)+"\x01"+number(n)+strings.Repeat(all(0, 0, 1), int(n%1024)))
			decodes(t, ahead+all(2)+"\x01\x01\x01"+all(n, 0, 2))
			decodes(t, ahead+all(2)+"\x01\x01\x01"+all(0, n, 2))
			decodes(t, ahead+all(2)+"\x01\x01\x01"+all(0, 0, n))
			decodes(t, ahead+all(2)+"\x00"+number(n))
			decodes(t, ahead+all(n)+"\x00"+number(2)+"ab")
		}
	}
}

// P14.2: a body in pieces has one or more, and one in itself has its bytes: no other form is one's of no bytes.
func TestDecodeForms(t *testing.T) {
	for _, ahead := range []string{"\x01\x05", "\x01\x03\x00"} {
		noCell(t, ahead+"\x00\x01\x00")
		noCell(t, ahead+"\x00\x01\x00\x00")
		noCell(t, ahead+"\x00\x01\x01\x01\x00\x00\x00")
		noCell(t, ahead+"\x01\x01\x01\x00")
		noCell(t, ahead+"\x01\x01\x01\x02\x00\x00\x01\x01\x00\x00\x00")
		noCell(t, ahead+"\x01\x01\x00\x00")
		noCell(t, ahead+"\x00\x00\x01\x01a")
		noCell(t, ahead+"\x01\x02\x00\x01\x01a")
		noCell(t, ahead+"\x01\x01\x00\x01\x02ab")
		sixtyfive := strings.Repeat("a", 65)
		noCell(t, ahead+"\x01\x41\x00\x01\x41"+sixtyfive)
		noCell(t, ahead+"\x01\x40\x00\x01\x41"+sixtyfive)
		noCell(t, ahead+"\x01\x41\x00\x01\x40"+sixtyfive[1:])
		noCell(t, ahead+number(513)+"\x01"+number(513)+strings.Repeat(all(0, 0, 1), 513))
		noCell(t, ahead+number(512)+"\x01"+number(513)+strings.Repeat(all(0, 0, 1), 512))
		noCell(t, ahead+number(512)+"\x01"+number(511)+strings.Repeat(all(0, 0, 1), 512))
	}
}

// P14.2: texts by chance, all of few bytes, so that many are nearly a cell.
func TestDecodeChance(t *testing.T) {
	c := chance(14)
	hits := 0
	for range 300000 {
		s := "\x01" + one(byte(c.below(8)))
		if c.below(30) == 0 {
			s = ""
		}
		for range c.below(14) {
			s += one("\x00\x00\x00\x01\x01\x01\x01\x02\x02\x03\x07\xff"[c.below(12)])
		}
		decodes(t, s)
		if _, is := cellOf(s); is {
			hits++
		}
	}
	if hits < 5000 {
		t.Errorf("just %d cells", hits)
	}
	for range 30000 {
		s := bytesOf(c.cell())
		for range 1 + c.below(3) {
			s = with(s, c.below(min(len(s), 20)), one("\x00\x01\x02\x03\x04\x05\x06\xff"[c.below(8)])[0])
		}
		decodes(t, s)
	}
}

// P14.2, R1: long texts of one byte, and of bytes by chance, end.
func TestDecodeLong(t *testing.T) {
	c := chance(1)
	for b := range 256 {
		noCell(t, strings.Repeat(one(byte(b)), 1<<12))
		noCell(t, "\x01\x05\x02\x80\x00\x01\x02\x02\x00"+strings.Repeat(one(byte(b)), 1<<12))
		noCell(t, "\x01\x04"+strings.Repeat(one(byte(b)), 1<<12))
		noCell(t, c.text(1<<12))
	}
	noCell(t, strings.Repeat("\x01", 1<<22))
	noCell(t, "\x01\x04\x04\x00\x3f\xff\xfa"+strings.Repeat("n", 1<<22))
}

// alters are cells that differ from c in one thing alone.
func alters(c api.Cell) []api.Cell {
	var l []api.Cell
	add := func(change func(x *api.Cell)) {
		x := copied(c)
		change(&x)
		l = append(l, x)
	}
	for bit := range 8 {
		add(func(x *api.Cell) { x.Kind ^= 1 << bit })
	}
	for bit := range 64 {
		add(func(x *api.Cell) { x.N ^= 1 << bit })
		add(func(x *api.Cell) { x.Body.Len ^= 1 << bit })
	}
	add(func(x *api.Cell) { x.Gone = !x.Gone })
	for _, s := range []string{"\x00", "a"} {
		add(func(x *api.Cell) { x.Name += s })
		add(func(x *api.Cell) { x.Name = s + x.Name + s })
		add(func(x *api.Cell) { x.Body.Inline += s })
		add(func(x *api.Cell) { x.Body.Inline = s + x.Body.Inline + s })
	}
	if n := len(c.Name); n > 0 {
		add(func(x *api.Cell) { x.Name = x.Name[:n-1] })
		add(func(x *api.Cell) { x.Name = with(x.Name, n-1, ^x.Name[n-1]) })
		add(func(x *api.Cell) { x.Name = with(x.Name, 0, 32^x.Name[0]) })
	}
	if n := len(c.Body.Inline); n > 0 {
		add(func(x *api.Cell) { x.Body.Inline = x.Body.Inline[:n-1] })
		add(func(x *api.Cell) { x.Body.Inline = with(x.Body.Inline, n-1, ^x.Body.Inline[n-1]) })
		add(func(x *api.Cell) { x.Body.Inline = with(x.Body.Inline, 0, 32^x.Body.Inline[0]) })
	}
	add(func(x *api.Cell) { x.Body.Pieces = append(x.Body.Pieces, api.Piece{}) })
	add(func(x *api.Cell) { x.Body.Pieces = append(x.Body.Pieces, api.Piece{Row: 1, Stamp: 2, Len: 3}) })
	for i := range c.Body.Pieces {
		for bit := range 64 {
			add(func(x *api.Cell) { x.Body.Pieces[i].Row ^= 1 << bit })
			add(func(x *api.Cell) { x.Body.Pieces[i].Stamp ^= 1 << bit })
			add(func(x *api.Cell) { x.Body.Pieces[i].Len ^= 1 << bit })
		}
		add(func(x *api.Cell) { x.Body.Pieces = slices.Delete(x.Body.Pieces, i, i+1) })
		add(func(x *api.Cell) { x.Body.Pieces = slices.Insert(x.Body.Pieces, i, api.Piece{}) })
		add(func(x *api.Cell) {
			x.Body.Pieces[0], x.Body.Pieces[i] = x.Body.Pieces[i], x.Body.Pieces[0]
		})
	}
	return l
}

// sames holds Same of two cells to what they are, each way.
func sames(t *testing.T, a, b api.Cell, want bool) {
	t.Helper()
	if got, back := cell.Same(a, b), cell.Same(b, a); got != want || back != want {
		t.Errorf("Same(%s, %s): %v, the other way %v", brief(a), brief(b), got, back)
	}
}

// P14.1: cells that differ in one thing alone, also such as may not be.
func TestSame(t *testing.T) {
	full := api.Cell{Kind: 9, N: math.MaxUint64, Gone: true, Name: "n", Body: api.Body{Len: -7, Inline: "i", Pieces: []api.Piece{{Row: -1, Stamp: math.MaxUint64, Len: -2}, {Row: 5, Stamp: 6, Len: 7}}}}
	for _, c := range append(samples(), api.Cell{}, full, api.Cell{Kind: 255, Body: api.Body{Inline: "a", Pieces: []api.Piece{{}}}}, api.Cell{Name: "x", N: 4}) {
		sames(t, c, c, true)
		sames(t, c, copied(c), true)
		for _, other := range alters(c) {
			sames(t, c, other, same(c, other))
		}
	}
	l := samples()
	for _, a := range l {
		for _, b := range l {
			sames(t, a, b, same(a, b))
		}
	}
	if n := len(alters(full)); n < 200 {
		t.Errorf("just %d", n)
	}
}

// P14.1, R4: Pieces that are nil and ones without elements are the same; one that is zero is none of these.
func TestSameEmpty(t *testing.T) {
	for _, c := range []api.Cell{{}, {Kind: api.CellObject}, {Kind: api.CellObject, Gone: true}, {Kind: api.CellPart, Body: inline("a")}, {Kind: 77, N: 1, Body: api.Body{Len: 5}}} {
		empty, spare, zero := c, c, c
		empty.Body.Pieces = []api.Piece{}
		spare.Body.Pieces = make([]api.Piece, 0, 5)
		zero.Body.Pieces = []api.Piece{{}}
		sames(t, c, empty, true)
		sames(t, c, spare, true)
		sames(t, empty, spare, true)
		sames(t, c, zero, false)
		sames(t, empty, zero, false)
		a, e := cell.Encode(c)
		b, f := cell.Encode(empty)
		if a != b || e != f || cell.May(c) != cell.May(empty) || cell.MayBody(c.Body) != cell.MayBody(empty.Body) {
			t.Errorf("%v: no Pieces are not the same as nil", c)
		}
	}
}

// rows holds Rows of those of pieces in these rows to a list; the cell is of any kind.
func rows(t *testing.T, want []int, l ...int) {
	t.Helper()
	for kind := range 9 {
		c := api.Cell{Kind: uint8(kind), Gone: kind == 2}
		for i, row := range l {
			c.Body.Pieces = append(c.Body.Pieces, api.Piece{Row: row, Stamp: uint64(i), Len: i})
		}
		if got := cell.Rows(c); !slices.Equal(got, want) {
			t.Errorf("Rows of %v: %v, not %v", l, got, want)
		}
	}
}

// P14.1: rows out of order, rows that are there twice, rows that may not be, none.
func TestRows(t *testing.T) {
	rows(t, nil)
	rows(t, []int{0}, 0)
	rows(t, []int{0}, 0, 0, 0)
	rows(t, []int{2, 7}, 7, 2)
	rows(t, []int{2, 7}, 2, 7)
	rows(t, []int{2, 7}, 7, 2, 7, 2, 2)
	rows(t, []int{1, 2, 3, 4, 5}, 5, 3, 1, 2, 4)
	rows(t, []int{0, 4095}, 4095, 0, 4095)
	rows(t, []int{9, 10, 100}, 100, 9, 10)
	rows(t, []int{math.MinInt, -2, -1, 0, 4096, 1 << 32, math.MaxInt}, 0, -1, math.MaxInt, 1<<32, -2, math.MinInt, 4096, 0, -1)
	for _, c := range []api.Cell{{}, {Body: inline("a")}, {Body: api.Body{Len: 5}}, {Kind: api.CellObject, Gone: true}, {Body: api.Body{Pieces: []api.Piece{}}}} {
		if l := cell.Rows(c); len(l) != 0 {
			t.Errorf("Rows(%v): %v", c, l)
		}
	}
}

// P14.1: rows by chance, held to a list that is kept in order by hand.
func TestRowsChance(t *testing.T) {
	c := chance(3)
	for range 3000 {
		var l, want []int
		for range c.below(40) {
			row := c.below(4096) >> c.below(12)
			l = append(l, row)
			if at, there := slices.BinarySearch(want, row); !there {
				want = slices.Insert(want, at, row)
			}
		}
		rows(t, want, l...)
	}
	var down, up []int
	for i := range 4096 {
		down, up = append(down, 4095-i, 4095-i), append(up, i)
	}
	rows(t, up, down...)
}

// within is whether the bytes of part lie in those of s.
func within(part, s string) bool {
	from := uintptr(unsafe.Pointer(unsafe.StringData(s)))
	at := uintptr(unsafe.Pointer(unsafe.StringData(part)))
	return part != "" && at >= from && at < from+uintptr(len(s))
}

// R5: what is answered shares nothing with what is handed in, nor with what was answered before.
func TestNew(t *testing.T) {
	for _, c := range samples() {
		s := strings.Clone(bytesOf(c))
		first, e := cell.Decode(s)
		second, f := cell.Decode(s)
		if e != api.OK || f != api.OK {
			t.Fatal(e, f)
		}
		if within(first.Name, s) || within(first.Body.Inline, s) {
			t.Errorf("Decode(%x) shares a text", s)
		}
		for i := range first.Body.Pieces {
			first.Body.Pieces[i] = api.Piece{Row: -1}
		}
		if !same(second, c) {
			t.Errorf("Decode(%x) shares its pieces", s)
		}
		if coded, _ := cell.Encode(c); within(c.Name, coded) || within(c.Body.Inline, coded) || within(coded, c.Name) || within(coded, c.Body.Inline) {
			t.Errorf("Encode(%v) shares a text", c)
		}
		l, m := cell.Rows(c), cell.Rows(c)
		for i := range l {
			l[i] = -1
		}
		if slices.Contains(m, -1) {
			t.Errorf("Rows(%v) shares its list", c)
		}
	}
}

// R5: no call changes what it is handed, also not what stands behind a list's end.
func TestUnchanged(t *testing.T) {
	unlike := api.Cell{Kind: api.CellPart, Body: lens(9, 3, 99)}
	for _, c := range append(samples(), unlike, api.Cell{Kind: api.CellObject, Body: lens(33, 5, 7, 2, 9, 9, 1)}) {
		spare := append(slices.Clone(c.Body.Pieces), api.Piece{Row: 71, Stamp: 72, Len: 73}, api.Piece{Row: 74})
		was := slices.Clone(spare)
		c.Body.Pieces = spare[:len(c.Body.Pieces)]
		kept := copied(c)
		cell.MayBody(c.Body)
		cell.May(c)
		cell.Encode(c)
		cell.Same(c, c)
		cell.Rows(c)
		if !same(c, kept) || !slices.Equal(spare, was) {
			t.Errorf("%v was changed: %v", kept, spare)
		}
	}
}

// R5, R6: what was encoded stays, whatever becomes of the cell; and each call answers as it did before.
func TestKept(t *testing.T) {
	b := lens(20, 8, 12)
	c := api.Cell{Kind: api.CellPart, Body: b}
	want := bytesOf(c)
	for range 3 {
		encodes(t, c, want)
		rows(t, []int{3, 4}, 4, 3)
	}
	b.Pieces[0].Len = 9
	refuses(t, c)
	b.Pieces[1].Len = 11
	if s, e := cell.Encode(c); s == want || e != api.OK {
		t.Errorf("%x %v", s, e)
	}
}

// P14.3: cells by chance are read as they were written, and other ones have other bytes.
func TestRoundTrip(t *testing.T) {
	c := chance(7)
	found := map[string]api.Cell{}
	for range 60000 {
		x := c.cell()
		seen(t, x)
		s, e := cell.Encode(x)
		y, f := cell.Decode(s)
		if e != api.OK || f != api.OK || !cell.Same(x, y) {
			t.Fatalf("%v: %v, %v %v", x, y, e, f)
		}
		if z, is := found[s]; is && !same(x, z) {
			t.Errorf("%v and %v have the same bytes", x, z)
		}
		found[s] = x
	}
	for _, a := range samples() {
		for _, b := range samples() {
			s, _ := cell.Encode(a)
			if u, _ := cell.Encode(b); (s == u) != same(a, b) || s != u && strings.HasPrefix(s, u) {
				t.Errorf("%v: %x, %v: %x", a, s, b, u)
			}
		}
	}
}

// P14.3: cells that differ in one thing have other bytes, or may not be.
func TestAlters(t *testing.T) {
	for _, c := range samples() {
		s, _ := cell.Encode(c)
		for _, other := range alters(c) {
			seen(t, other)
			if u, e := cell.Encode(other); u == s && e == api.OK && !same(other, c) {
				t.Errorf("%v and %v have the same bytes", c, other)
			}
		}
	}
}

// P14.3: of all short texts those that are a cell's are its bytes, and the others are told.
func TestAllShort(t *testing.T) {
	const letters = "\x00\x01\x02\x03\x04\x05\x06\xff"
	hits := 0
	var grow func(s string)
	grow = func(s string) {
		decodes(t, s)
		if c, e := cell.Decode(s); e == api.OK {
			hits++
			encodes(t, c, s)
		}
		for i := 0; len(s) < 7 && i < len(letters); i++ {
			grow(s + letters[i:i+1])
		}
	}
	for i := range len(letters) {
		grow("\x01" + letters[i:i+1])
	}
	if hits < 50 {
		t.Errorf("just %d cells", hits)
	}
}
