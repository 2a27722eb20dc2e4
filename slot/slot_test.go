package slot_test

import (
	"encoding/hex"
	"fmt"
	"hash/crc32"
	"math"
	"slices"
	"strconv"
	"strings"
	"testing"
	"unsafe"

	"hoard/api"
	"hoard/rack"
	"hoard/slot"
)

// chance makes numbers by a rule.
type chance uint64

func (c *chance) next() uint32 {
	*c = *c*6364136223846793005 + 1442695040888963407
	return uint32(*c >> 32)
}

// below makes a number below n.
func (c *chance) below(n int) int { return int(c.next() % uint32(n)) }

// text makes one of n bytes.
func (c *chance) text(n int) string {
	l := make([]byte, n)
	for i := range l {
		l[i] = byte(c.next() >> 24)
	}
	return string(l)
}

// zeros is n bytes 0.
func zeros(n int) string { return strings.Repeat("\x00", n) }

// whole is what a sector has that has that text.
func whole(text string) string { return text + zeros(64-len(text)) }

// number is the bytes of one, as layer 1 has them.
func number(x uint64) string {
	s := ""
	for ; x > 0; x >>= 8 {
		s = string([]byte{byte(x)}) + s
	}
	return string([]byte{byte(len(s))}) + s
}

// crc is the sum of s, the highest byte first.
func crc(s string) string {
	x := crc32.ChecksumIEEE([]byte(s))
	return string([]byte{byte(x >> 24), byte(x >> 16), byte(x >> 8), byte(x)})
}

// counted is s behind a byte that tells how many bytes it has.
func counted(s string) string { return string([]byte{byte(len(s))}) + s }

// sealed is the sector that says s.
func sealed(s string) string { return whole(counted(s + crc(s))) }

// says is what a root's bytes say.
func says(x api.Root) string {
	return number(x.Gen) + number(x.Next) + number(uint64(x.Head.Row)) + number(x.Head.Stamp) + number(uint64(x.Head.Len))
}

// bytesOf is a root's bytes, as the Words have them, whether it may be or not.
func bytesOf(x api.Root) string { return sealed(says(x)) }

// may is whether a root may be.
func may(x api.Root) bool {
	if x.Gen < 1 || x.Gen > 1<<48 || x.Next < 1 || x.Next > 1<<48 {
		return false
	}
	h := x.Head
	if h.Row == 0 && h.Stamp == 0 && h.Len == 0 {
		return true
	}
	return 0 <= h.Row && h.Row <= 4096 && 1 <= h.Stamp && h.Stamp <= 1<<48 && 1 <= h.Len && h.Len <= 12*448
}

// numberAt is the number at the front of s, and what stands behind it; false, if none stands there as it must.
func numberAt(s string) (x uint64, behind string, is bool) {
	if s == "" || s[0] > 8 || len(s) <= int(s[0]) || s[0] > 0 && s[1] == 0 {
		return 0, "", false
	}
	n := 1 + int(s[0])
	for _, b := range []byte(s[1:n]) {
		x = x<<8 | uint64(b)
	}
	return x, s[n:], true
}

// rootIn is the root whose bytes these are, read from the front to the end; false, if they are none's that may be.
func rootIn(s string) (api.Root, bool) {
	if len(s) != 64 || s[0] < 4 || s[0] > 63 {
		return api.Root{}, false
	}
	said, behind := s[1:1+s[0]], s[1+s[0]:]
	said, end := said[:len(said)-4], said[len(said)-4:]
	if crc(said) != end || behind != zeros(len(behind)) {
		return api.Root{}, false
	}
	var l [5]uint64
	for i := range l {
		is := false
		if l[i], said, is = numberAt(said); !is {
			return api.Root{}, false
		}
	}
	x := api.Root{Gen: l[0], Next: l[1], Head: api.Piece{Row: int(l[2]), Stamp: l[3], Len: int(l[4])}}
	return x, said == "" && may(x)
}

// bare is a root of that Gen, without a Head.
func bare(gen uint64) api.Root { return api.Root{Gen: gen, Next: gen%1000 + 4} }

// some is a root of that Gen, with a Head.
func some(gen uint64) api.Root {
	n := gen % 1000
	return api.Root{Gen: gen, Next: 7*n + 3, Head: api.Piece{Row: int(n), Stamp: 7*n + 2, Len: int(300 + gen%9)}}
}

// geo is one of a row and not a sector more.
func geo(drives, parity int) api.Geo {
	return api.Geo{Drives: drives, Parity: parity, Sectors: 14, Tail: 2}
}

// far are numbers far above and far below all that may be, such too whose lowest bits are a number that may be.
var far = []int{math.MinInt, math.MinInt + 1, -1 << 48, 1 - 1<<32, -1 << 31, -4096, -256, 1 << 16, 1 << 31, 1<<32 + 1, 1 << 48, math.MaxInt - 1, math.MaxInt}

// gens, rows and lens are numbers that may be, the least and the greatest ones among them.
var (
	gens = []uint64{1, 2, 3, 255, 256, 257, 65535, 65536, 1<<32 - 1, 1 << 32, 1<<40 + 5, 1<<48 - 1, 1 << 48}
	rows = []int{0, 1, 2, 255, 256, 383, 4094, 4095, 4096}
	lens = []int{1, 2, 255, 256, 448, 449, 5375, 5376}
)

// noGens, noRows and noLens are numbers that may not be.
var (
	noGens = []uint64{0, 1<<48 + 1, 1<<48 + 2, 1<<56 + 1, 1 << 63, math.MaxUint64 - 1, math.MaxUint64}
	noRows = append([]int{-1, -2, 4097, 4098, 8192}, far...)
	noLens = append([]int{0, -1, -2, 5377, 5378, 8192}, far...)
)

// wrongs are roots that may not be, each by one thing alone, and by several.
func wrongs() []api.Root {
	var l []api.Root
	add := func(change func(x *api.Root)) {
		for _, x := range []api.Root{some(1), some(6), {Gen: 1 << 48, Next: 1 << 48, Head: api.Piece{Row: 4096, Stamp: 1 << 48, Len: 5376}}} {
			change(&x)
			l = append(l, x)
		}
	}
	for _, n := range noGens {
		add(func(x *api.Root) { x.Gen = n })
		add(func(x *api.Root) { x.Gen, x.Head = n, api.Piece{} })
		add(func(x *api.Root) { x.Next = n })
		add(func(x *api.Root) { x.Next, x.Head = n, api.Piece{} })
		add(func(x *api.Root) { x.Head.Stamp = n })
		add(func(x *api.Root) { x.Gen, x.Next, x.Head.Stamp = n, n, n })
	}
	for _, n := range noRows {
		add(func(x *api.Root) { x.Head.Row = n })
		add(func(x *api.Root) { x.Head = api.Piece{Row: n} })
	}
	for _, n := range noLens {
		add(func(x *api.Root) { x.Head.Len = n })
		add(func(x *api.Root) { x.Head.Row, x.Head.Len = 0, n })
	}
	for _, h := range []api.Piece{{Row: 1}, {Row: 4096}, {Stamp: 1}, {Stamp: 1 << 48}, {Len: 1}, {Len: 5376}, {Len: -1}, {Row: 1, Stamp: 1}, {Row: 1, Len: 1}, {Row: -1, Stamp: 1, Len: 1}, {Row: -1, Stamp: math.MaxUint64, Len: -1}} {
		add(func(x *api.Root) { x.Head = h })
	}
	return append(l, api.Root{}, api.Root{Gen: 1}, api.Root{Next: 1}, api.Root{Head: some(1).Head})
}

// fresh makes a rack that fits a geo.
func fresh(t *testing.T, g api.Geo) *rack.Rack {
	t.Helper()
	return sized(t, g.Drives, g.Sectors)
}

// sized makes a rack.
func sized(t *testing.T, drives, sectors int) *rack.Rack {
	t.Helper()
	r, e := rack.New(drives, sectors)
	if r == nil || e != api.OK {
		t.Fatalf("rack.New(%d, %d): %v", drives, sectors, e)
	}
	return r
}

// full makes a rack that fits, in all of whose sectors something stands.
func full(t *testing.T, g api.Geo) *rack.Rack {
	t.Helper()
	r := fresh(t, g)
	for d := range g.Drives {
		for s := range g.Sectors {
			put(t, r, d, s, strings.Repeat(string([]byte{byte(128 + 16*d + s)}), 64))
		}
	}
	return r
}

// put writes a sector.
func put(t *testing.T, r *rack.Rack, d, s int, text string) {
	t.Helper()
	is(t, "rack's Write", r.Write(d, s, text), api.OK)
}

// lay gives a drive a root, in the slot in which it stands.
func lay(t *testing.T, r *rack.Rack, d int, x api.Root) {
	t.Helper()
	put(t, r, d, int(x.Gen%2), bytesOf(x))
}

// is holds an error to another one.
func is(t *testing.T, what string, e, want api.Errno) {
	t.Helper()
	if e != want {
		t.Errorf("%s: %v, not %v", what, e, want)
	}
}

// state is all that is told of a rack without changing it.
func state(r *rack.Rack) string {
	var b strings.Builder
	tell := func(x int) { b.WriteString(strconv.Itoa(x) + " ") }
	for d := range r.Drives() {
		tell(int(r.Writes(d)))
		b.WriteString(r.All(d))
		for s := range r.Sectors() {
			_, e := r.Read(d, s)
			tell(int(e))
		}
	}
	return b.String()
}

// same holds a rack to another one.
func same(t *testing.T, what string, r, want *rack.Rack) {
	t.Helper()
	if state(r) != state(want) {
		t.Errorf("%s: the rack has not what it must have", what)
	}
}

// writes holds Write to what it answers.
func writes(t *testing.T, r *rack.Rack, g api.Geo, x api.Root, want api.Errno) {
	t.Helper()
	if e := slot.Write(r, g, x); e != want {
		t.Errorf("%+v, Write of %+v: %v, not %v", g, x, e, want)
	}
}

// votes holds Vote to a root, and to the drives that have it; nothing is done by it.
func votes(t *testing.T, r *rack.Rack, g api.Geo, want api.Root, has ...bool) {
	t.Helper()
	before := state(r)
	if x, l, e := slot.Vote(r, g); x != want || !slices.Equal(l, has) || e != api.OK {
		t.Errorf("%+v, Vote: %+v %v %v, not %+v %v", g, x, l, e, want, has)
	}
	if state(r) != before {
		t.Errorf("%+v: Vote changes something", g)
	}
}

// fails holds Vote to an error, beside which there is nothing, and by which nothing is done.
func fails(t *testing.T, r *rack.Rack, g api.Geo, want api.Errno) {
	t.Helper()
	before := state(r)
	if x, l, e := slot.Vote(r, g); x != (api.Root{}) || len(l) != 0 || e != want {
		t.Errorf("%+v, Vote: %+v %v %v, not %v", g, x, l, e, want)
	}
	if state(r) != before {
		t.Errorf("%+v: Vote changes something", g)
	}
}

// yes is as many truths as drives that have it, all of them true.
func yes(drives int) []bool { return slices.Repeat([]bool{true}, drives) }

// encodes holds Encode and Decode to a root that may be and its bytes.
func encodes(t *testing.T, x api.Root, bytes string) {
	t.Helper()
	if s, e := slot.Encode(x); s != bytes || e != api.OK {
		t.Errorf("Encode of %+v: %x %v, not %x", x, s, e, bytes)
	}
	if y, e := slot.Decode(bytes); y != x || e != api.OK {
		t.Errorf("Decode of %x: %+v %v, not %+v", bytes, y, e, x)
	}
}

// noRoot holds Decode to ErrForm.
func noRoot(t *testing.T, s string) {
	t.Helper()
	if x, e := slot.Decode(s); x != (api.Root{}) || e != api.ErrForm {
		t.Errorf("Decode of %x: %+v %v", s, x, e)
	}
}

// P11.1: roots' bytes, byte by byte.
func TestBytes(t *testing.T) {
	for _, x := range []struct {
		root  api.Root
		bytes string
	}{
		{api.Root{Gen: 1, Next: 5}, "0b01010105000000faf9deed"},
		{api.Root{Gen: 2, Next: 9, Head: api.Piece{Row: 1, Stamp: 5, Len: 30}}, "0e0102010901010105011ed0d33d3a"},
		{api.Root{Gen: 256, Next: 1 << 48, Head: api.Piece{Row: 0, Stamp: 1, Len: 1}}, "1402010007010000000000000001010101e354f36c"},
		{api.Root{Gen: 1 << 48, Next: 1 << 48, Head: api.Piece{Row: 4096, Stamp: 1 << 48, Len: 5376}}, "220701000000000000070100000000000002100007010000000000000215008b83ddc7"},
	} {
		s, err := hex.DecodeString(x.bytes)
		if err != nil {
			t.Fatal(err)
		}
		encodes(t, x.root, whole(string(s)))
	}
}

// P11.1: roots whose numbers are all that may be, the bounds among them; with a Head, and without.
func TestWhatMayBe(t *testing.T) {
	holds := func(x api.Root) {
		t.Helper()
		encodes(t, x, bytesOf(x))
		if s, _ := slot.Encode(x); len(s) != api.SectorSize {
			t.Errorf("%+v: %d bytes", x, len(s))
		}
	}
	for _, gen := range gens {
		for _, next := range gens {
			holds(api.Root{Gen: gen, Next: next})
			for _, stamp := range gens {
				for _, row := range rows {
					for _, n := range lens {
						holds(api.Root{Gen: gen, Next: next, Head: api.Piece{Row: row, Stamp: stamp, Len: n}})
					}
				}
			}
		}
	}
	for row := range api.MaxSectors + 1 {
		holds(api.Root{Gen: 1, Next: 1, Head: api.Piece{Row: row, Stamp: 1, Len: 1}})
	}
	for n := range api.MaxDrives * api.ShardSize {
		holds(api.Root{Gen: 1, Next: 1, Head: api.Piece{Stamp: 1, Len: n + 1}})
	}
}

// P11.1: roots that may not be have no bytes, and what would be their bytes is none's.
func TestWhatMayNotBe(t *testing.T) {
	for _, x := range wrongs() {
		if may(x) {
			t.Fatalf("%+v may be", x)
		}
		if s, e := slot.Encode(x); s != "" || e != api.ErrArg {
			t.Errorf("Encode of %+v: %x %v", x, s, e)
		}
		if len(says(x)) <= 59 {
			noRoot(t, bytesOf(x))
		}
	}
}

// P11.1: bytes that are cut off, or have something behind them.
func TestShortAndLong(t *testing.T) {
	for _, x := range []api.Root{bare(1), some(2), {Gen: 1 << 48, Next: 1 << 48, Head: api.Piece{Row: 4096, Stamp: 1 << 48, Len: 5376}}} {
		s := bytesOf(x)
		for n := range len(s) {
			noRoot(t, s[:n])
			noRoot(t, s[n+1:])
			noRoot(t, zeros(n)+s[:64-n-1])
		}
		for n := 1; n < 200; n++ {
			noRoot(t, s+zeros(n))
			noRoot(t, zeros(n)+s)
			noRoot(t, s+strings.Repeat("x", n))
		}
		noRoot(t, s+s)
		noRoot(t, strings.Repeat(s, 1<<14))
		noRoot(t, strings.TrimRight(s, "\x00"))
	}
	for n := range 200 {
		noRoot(t, zeros(n))
		noRoot(t, strings.Repeat("\xff", n))
		noRoot(t, strings.Repeat("\x01", n))
	}
}

// P11.1: bytes of which one is another one, whichever it is: the count, what is said, the sum, or one of those behind.
func TestOtherByte(t *testing.T) {
	for _, x := range []api.Root{bare(1), some(2), some(300), {Gen: 1 << 48, Next: 1 << 48, Head: api.Piece{Row: 4096, Stamp: 1 << 48, Len: 5376}}} {
		for i := range 64 {
			for b := range 256 {
				l := []byte(bytesOf(x))
				if l[i] != byte(b) {
					l[i] = byte(b)
					noRoot(t, string(l))
				}
			}
		}
	}
}

// P11.1: bytes whose sum is right, but whose count is another one, or that say something else than a root's numbers, each written as layer 3 writes it.
func TestOtherForm(t *testing.T) {
	x := some(2)
	l := []string{number(x.Gen), number(x.Next), number(uint64(x.Head.Row)), number(x.Head.Stamp), number(uint64(x.Head.Len))}
	with := func(i int, s string) string {
		m := slices.Clone(l)
		m[i] = s
		return sealed(strings.Join(m, ""))
	}
	if with(0, l[0]) != bytesOf(x) {
		t.Fatal("another root")
	}
	for i, s := range l {
		for n := len(s); n <= 8; n++ { // bytes 0 ahead of the number's own, up to eight bytes
			noRoot(t, with(i, counted(zeros(n+1-len(s))+s[1:])))
		}
		noRoot(t, with(i, "\x01\x00"))
		noRoot(t, with(i, counted(zeros(9-len(s))+s)))
		noRoot(t, with(i, counted(strings.Repeat("\x01", 9))))
		noRoot(t, with(i, counted(strings.Repeat("\xff", 8))))
		noRoot(t, with(i, counted("\x01"+zeros(8-len(s))+s[1:]))) // far above, with such lowest bits
		decodes(t, with(i, ""))
		decodes(t, with(i, s+s))
		decodes(t, with(i, s[:len(s)-1]))
		decodes(t, with(i, s+"\x00"))
		decodes(t, with(i, "\x00"+s))
		for first := range 256 {
			decodes(t, with(i, string([]byte{byte(first)})+s[1:]))
		}
	}
	said := strings.Join(l, "")
	for n := range said {
		noRoot(t, sealed(said[:n]))
		noRoot(t, sealed(said[n+1:]))
	}
	for b := range 256 {
		noRoot(t, sealed(said+string([]byte{byte(b)})))
	}
	for n := 1; n < 40; n++ {
		noRoot(t, sealed(said+zeros(n)))
	}
	noRoot(t, sealed(said+number(1)))
	noRoot(t, sealed(strings.Join(l[:4], "")))
	noRoot(t, sealed(""))
}

// P11.1: bytes that a root's would be, if the count told another number, the sum were written otherwise, or something else stood behind.
func TestOtherEnds(t *testing.T) {
	for _, x := range []api.Root{bare(1), some(2), some(300)} {
		said := says(x)
		good := said + crc(said)
		for n := range 256 {
			if n != len(good) {
				noRoot(t, whole(string([]byte{byte(n)})+good))
			}
		}
		other := []byte(crc(said))
		slices.Reverse(other)
		noRoot(t, whole(counted(said+string(other))))
		noRoot(t, whole(counted(said+zeros(4))))
		noRoot(t, whole(counted(said)))
		noRoot(t, whole(counted(crc(said)+said)))
		noRoot(t, whole(good))
		noRoot(t, whole("\x00"+counted(good)))
		noRoot(t, whole(counted(said+crc(counted(said)))))
		noRoot(t, whole(counted(good+crc(good))))
		noRoot(t, whole(counted(good)+counted(good)))
		for i := len(good) + 1; i < 64; i++ {
			l := []byte(whole(counted(good)))
			l[i] = 1
			noRoot(t, string(l))
		}
		longer := said + zeros(59-len(said))
		noRoot(t, counted(longer+crc(longer)))
	}
}

// nones are racks that are none.
func nones() []*rack.Rack { return []*rack.Rack{nil, {}, new(rack.Rack)} }

// unfit are geos that a rack of three drives and 24 sectors does not fit, those that may not be among them.
func unfit() []api.Geo {
	l := []api.Geo{{}}
	good := api.Geo{Drives: 3, Parity: 1, Sectors: 24, Tail: 2}
	for _, n := range append([]int{-2, -1, 0, 1, 2, 4, 5, 12, 13}, far...) {
		g := good
		g.Drives = n
		l = append(l, g)
		g.Parity = 0
		l = append(l, g)
	}
	for _, n := range append([]int{-2, -1, 3, 4, 12}, far...) {
		g := good
		g.Parity = n
		l = append(l, g)
	}
	for _, n := range append([]int{-1, 0, 1, 13, 14, 22, 23, 25, 26, 32, 4096, 4097}, far...) {
		g := good
		g.Sectors = n
		l = append(l, g)
	}
	for _, n := range append([]int{-1, 0, 1, 8, 9, 513}, far...) {
		g := good
		g.Tail = n
		l = append(l, g)
	}
	return l
}

// P11.2, P11.3, R3: a rack that is nil, or that New did not make, ahead of all else.
func TestNil(t *testing.T) {
	for _, r := range nones() {
		for _, g := range append(unfit(), geo(3, 1), geo(1, 0), geo(12, 11), api.Geo{Drives: 3, Parity: 1, Sectors: 24, Tail: 2}) {
			fails(t, r, g, api.ErrNil)
			for _, x := range []api.Root{bare(1), some(2), {}, {Gen: 1}, {Gen: 1, Next: 1, Head: api.Piece{Row: 1}}} {
				writes(t, r, g, x, api.ErrNil)
			}
		}
	}
}

// P11.2, P11.3: a rack that does not fit the geo, or a geo that may not be: nothing is done. That goes ahead of ErrDown, and of ErrLost.
func TestUnfit(t *testing.T) {
	r := sized(t, 3, 24)
	for d := range 3 {
		lay(t, r, d, bare(1))
	}
	lost, down := sized(t, 3, 24), sized(t, 3, 24)
	is(t, "Cut", down.Cut(0), api.OK)
	for _, r := range []*rack.Rack{r, lost, down} {
		before := state(r)
		for _, g := range unfit() {
			fails(t, r, g, api.ErrArg)
			for _, x := range []api.Root{bare(1), some(2), {}, {Gen: 1}} {
				writes(t, r, g, x, api.ErrArg)
			}
		}
		if state(r) != before {
			t.Error("something was done on a rack that does not fit")
		}
	}
}

// P11.2, P11.3: a geo that the rack fits may have any Parity and Tail that may be; Parity tells how many drives may have no root.
func TestFits(t *testing.T) {
	for tail := 2; tail <= 7; tail++ {
		for parity := range 3 {
			g := api.Geo{Drives: 3, Parity: parity, Sectors: 24, Tail: tail}
			r := full(t, g)
			writes(t, r, g, some(7), api.OK)
			votes(t, r, g, some(7), yes(3)...)
		}
	}
	for _, g := range []api.Geo{{Drives: 1, Sectors: 14, Tail: 2}, {Drives: 12, Parity: 11, Sectors: 4096, Tail: 512}, {Drives: 12, Parity: 0, Sectors: 1034, Tail: 512}} {
		r := fresh(t, g)
		fails(t, r, g, api.ErrLost)
		writes(t, r, g, some(7), api.OK)
		votes(t, r, g, some(7), yes(g.Drives)...)
	}
}

// P11.2: a root that may not be: nothing is written, and nothing taken of what a cut allows. That goes ahead of ErrDown.
func TestWriteWhatMayNotBe(t *testing.T) {
	g := geo(3, 1)
	r := full(t, g)
	lay(t, r, 1, some(9)) // newer than most of them: it stays too
	lay(t, r, 1, some(8))
	before := state(r)
	for _, x := range wrongs() {
		writes(t, r, g, x, api.ErrArg)
	}
	if state(r) != before {
		t.Error("something was written")
	}
	is(t, "Cut", r.Cut(1), api.OK)
	for _, x := range wrongs() {
		writes(t, r, g, x, api.ErrArg)
	}
	is(t, "Write, the only one", r.Write(0, 0, ""), api.OK)
	for _, x := range wrongs() {
		writes(t, r, g, x, api.ErrArg)
	}
}

// P11.2, P11.3: all stands still, whatever stands on the drives.
func TestDown(t *testing.T) {
	for _, g := range []api.Geo{geo(1, 0), geo(2, 1), geo(3, 1), geo(12, 4)} {
		for _, spoilt := range [][]int{nil, {0}, {1}, {0, 1}} {
			for _, laid := range []bool{false, true} {
				r := fresh(t, g)
				for d := range g.Drives {
					if laid {
						lay(t, r, d, some(5))
						lay(t, r, d, some(6))
					}
					for _, s := range spoilt {
						is(t, "Spoil", r.Spoil(d, s), api.OK)
					}
				}
				before := state(r)
				is(t, "Cut", r.Cut(0), api.OK)
				fails(t, r, g, api.ErrDown)
				for _, gen := range []uint64{4, 5, 6, 7} {
					writes(t, r, g, some(gen), api.ErrDown)
				}
				is(t, "Lift", r.Lift(), api.OK)
				if state(r) != before {
					t.Error("something was done while all stands still")
				}
			}
		}
	}
}

// P11.3: Vote takes nothing of what a cut allows, and is answered as long as something is left.
func TestVoteWritesNothing(t *testing.T) {
	g := geo(3, 1)
	r := fresh(t, g)
	writes(t, r, g, some(5), api.OK)
	is(t, "Wipe", r.Wipe(1), api.OK)
	is(t, "Cut", r.Cut(3), api.OK)
	for range 5 {
		votes(t, r, g, some(5), true, false, true)
	}
	writes(t, r, g, some(5), api.OK)
	fails(t, r, g, api.ErrDown)
	is(t, "Lift", r.Lift(), api.OK)
	votes(t, r, g, some(5), yes(3)...)
}

// P11.2: a root stands in the slot of its Gen modulo 2, on each drive; the other slot, and all other sectors, stay as they are. The drives are written by rising numbers.
func TestSlots(t *testing.T) {
	for _, drives := range []int{1, 2, 3, 5, 12} {
		g := geo(drives, (drives-1)/2)
		for _, gen := range []uint64{1, 2, 3, 4, 255, 256, 1<<48 - 1, 1 << 48} {
			for _, x := range []api.Root{{Gen: gen, Next: 3}, some(gen % 1000), {Gen: gen, Next: 1, Head: api.Piece{Row: 4096, Stamp: 1 << 48, Len: 5376}}} {
				if !may(x) {
					continue
				}
				for cut := range drives + 1 {
					r, want := full(t, g), full(t, g)
					for d := range cut {
						lay(t, want, d, x)
					}
					answer := api.ErrDown
					if cut == drives {
						answer = api.OK
					}
					is(t, "Cut", r.Cut(cut), api.OK)
					writes(t, r, g, x, answer)
					is(t, "Lift", r.Lift(), api.OK)
					same(t, fmt.Sprintf("%d drives, %+v, cut behind %d", drives, x, cut), r, want)
				}
			}
		}
	}
}

// P11.2: a root after another one: the one ahead of it stays in the other slot, the one ahead of that goes.
func TestOneAfterAnother(t *testing.T) {
	g := geo(3, 1)
	r, want := fresh(t, g), fresh(t, g)
	for gen := uint64(1); gen < 300; gen++ {
		writes(t, r, g, some(gen), api.OK)
		for d := range 3 {
			lay(t, want, d, some(gen))
		}
		same(t, "Write", r, want)
		votes(t, r, g, some(gen), yes(3)...)
		if s, _ := r.Read(1, int(1-gen%2)); gen > 1 && s != bytesOf(some(gen-1)) {
			t.Errorf("Gen %d: the one ahead of it is gone", gen)
		}
	}
}

// thing is what may stand in a slot.
type thing struct {
	name string
	text func(s uint64) string // in that slot; spoilt, if it is nil
}

// things are such, about the Gens 10 and 11.
func things() []thing {
	root := func(x api.Root) func(uint64) string {
		return func(uint64) string { return bytesOf(x) }
	}
	near := func(gen uint64) func(uint64) string { // the slot's own: of gen, or of the Gen behind it
		return func(s uint64) string { return bytesOf(some(gen + s)) }
	}
	return []thing{
		{"nothing", func(uint64) string { return whole("") }},
		{"spoilt", nil},
		{"other bytes", func(s uint64) string { return strings.Repeat(string([]byte{byte(200 + s)}), 64) }},
		{"an older one", near(8)},
		{"it, or the one beside it", near(10)},
		{"another one of the same Gen", func(s uint64) string { return bytesOf(bare(10 + s)) }},
		{"a newer one", near(12)},
		{"a far newer one", func(s uint64) string { return bytesOf(api.Root{Gen: 1<<48 - s, Next: 1}) }},
		{"an older one of the other slot", func(s uint64) string { return bytesOf(some(9 - s)) }},
		{"one of the other slot", func(s uint64) string { return bytesOf(some(11 - s)) }},
		{"a newer one of the other slot", func(s uint64) string { return bytesOf(some(13 - s)) }},
		{"a newer one that may not be", func(s uint64) string { return bytesOf(api.Root{Gen: 12 + s}) }},
		{"one far above all that may be", func(s uint64) string { return bytesOf(api.Root{Gen: 1<<48 + 2 + s, Next: 1}) }},
		{"a newer one that is torn", func(s uint64) string { return bytesOf(some(12 + s))[:9] + "x" + bytesOf(some(12 + s))[10:] }},
		{"a newer one with something behind", func(s uint64) string { return bytesOf(some(12 + s))[:63] + "\x01" }},
		{"the sixteenth", root(some(16))},
		{"the seventeenth", root(some(17))},
	}
}

// stand lets a thing stand in a slot.
func (x thing) stand(t *testing.T, r *rack.Rack, d, s int) {
	t.Helper()
	if x.text == nil {
		is(t, "Spoil", r.Spoil(d, s), api.OK)
		return
	}
	put(t, r, d, s, x.text(uint64(s)))
}

// wantFits is what is wrong with a rack and a geo.
func wantFits(r *rack.Rack, g api.Geo) api.Errno {
	if r == nil || r.Drives() == 0 {
		return api.ErrNil
	}
	may := g.Drives >= 1 && g.Drives <= 12 && g.Parity >= 0 && g.Parity < g.Drives && g.Tail >= 2 && g.Tail <= 512 && g.Sectors <= 4096 && g.Sectors >= 10+2*g.Tail
	if !may || g.Drives != r.Drives() || g.Sectors != r.Sectors() {
		return api.ErrArg
	}
	return api.OK
}

// wantWrite does what Write has to do: P11.2.
func wantWrite(r *rack.Rack, g api.Geo, x api.Root) api.Errno {
	if e := wantFits(r, g); e != api.OK {
		return e
	}
	if !may(x) {
		return api.ErrArg
	}
	own, other := int(x.Gen%2), int((x.Gen+1)%2)
	for d := range g.Drives {
		s, e := r.Read(d, other)
		if e == api.ErrDown {
			return e
		}
		if y, is := rootIn(s); e == api.OK && is && int(y.Gen%2) == other && y.Gen > x.Gen {
			if e := r.Write(d, other, zeros(64)); e != api.OK {
				return e
			}
		}
		if e := r.Write(d, own, bytesOf(x)); e != api.OK {
			return e
		}
	}
	return api.OK
}

// rootOf is a drive's root, as the Words have it; false, if it has none.
func rootOf(r *rack.Rack, d int) (x api.Root, is bool) {
	zero, e := r.Read(d, 0)
	one, f := r.Read(d, 1)
	if e != api.OK || f != api.OK {
		return api.Root{}, false
	}
	even, isEven := rootIn(zero)
	odd, isOdd := rootIn(one)
	isEven = isEven && even.Gen%2 == 0
	isOdd = isOdd && odd.Gen%2 == 1
	switch {
	case isEven && (!isOdd || even.Gen > odd.Gen):
		return even, true
	case isOdd:
		return odd, true
	}
	return api.Root{}, false
}

// wantVote is what Vote has to answer: P11.3.
func wantVote(r *rack.Rack, g api.Geo) (api.Root, []bool, api.Errno) {
	if e := wantFits(r, g); e != api.OK {
		return api.Root{}, nil, e
	}
	if _, e := r.Read(0, 0); e == api.ErrDown {
		return api.Root{}, nil, e
	}
	var l []api.Root
	for d := range g.Drives {
		if x, is := rootOf(r, d); is {
			l = append(l, x)
		}
	}
	if g.Drives-len(l) > g.Parity {
		return api.Root{}, nil, api.ErrLost
	}
	slices.SortStableFunc(l, func(a, b api.Root) int { return int(b.Gen) - int(a.Gen) })
	x := l[0]
	var has []bool
	for d := range g.Drives {
		own, e := r.Read(d, int(x.Gen%2))
		_, f := r.Read(d, int((x.Gen+1)%2))
		has = append(has, e == api.OK && f == api.OK && own == bytesOf(x))
	}
	return x, has, api.OK
}

// checkVote holds Vote to what it has to answer.
func checkVote(t *testing.T, what string, r *rack.Rack, g api.Geo) {
	t.Helper()
	x, has, e := slot.Vote(r, g)
	y, want, f := wantVote(r, g)
	if x != y || !slices.Equal(has, want) || e != f {
		t.Errorf("%s: %+v %v %v, not %+v %v %v", what, x, has, e, y, want, f)
	}
}

// P11.2: whatever stands in the two slots, wherever the writes are cut.
func TestWriteBeside(t *testing.T) {
	l := things()
	for _, g := range []api.Geo{geo(1, 0), geo(2, 1)} {
		for i, a := range l {
			for j, b := range l {
				for _, gen := range []uint64{9, 10, 11, 12} {
					for cut := range 2*g.Drives + 2 {
						build := func() *rack.Rack {
							r := full(t, g)
							a.stand(t, r, 0, 0)
							b.stand(t, r, 0, 1)
							if g.Drives == 2 { // the second drive has other things, of all kinds in turn
								l[(i+j)%len(l)].stand(t, r, 1, 0)
								l[(2*i+3*j+1)%len(l)].stand(t, r, 1, 1)
							}
							r.Cut(cut)
							return r
						}
						r, want := build(), build()
						writes(t, r, g, some(gen), wantWrite(want, g, some(gen)))
						r.Lift()
						want.Lift()
						same(t, fmt.Sprintf("%d drives, Gen %d, cut behind %d, %s and %s", g.Drives, gen, cut, a.name, b.name), r, want)
					}
				}
			}
		}
	}
}

// P11.2: what goes, and what stays, told one by one.
func TestWhatGoes(t *testing.T) {
	g := geo(1, 0)
	for _, x := range []struct {
		name  string
		there string // in the other slot
		gen   uint64
		goes  bool
	}{
		{"the one ahead", bytesOf(some(9)), 10, false},
		{"one far older", bytesOf(some(1)), 10, false},
		{"the one behind", bytesOf(some(11)), 10, true},
		{"one far newer", bytesOf(some(999)), 10, true},
		{"the last that may be", bytesOf(bare(1<<48 - 5)), 10, true},
		{"the one behind, without a Head", bytesOf(bare(11)), 10, true},
		{"the one behind, in the slot 0", bytesOf(some(12)), 11, true},
		{"the one ahead, in the slot 0", bytesOf(some(10)), 11, false},
		{"a newer one of the slot 0 in the slot 1", bytesOf(some(12)), 10, false},
		{"a newer one of the slot 1 in the slot 0", bytesOf(some(13)), 11, false},
		{"a newer one that is torn", bytesOf(some(11))[:20] + "torn" + zeros(40), 10, false},
		{"a newer one that may not be", bytesOf(api.Root{Gen: 11, Next: 0}), 10, false},
		{"nothing", zeros(64), 10, false},
		{"other bytes", strings.Repeat("o", 64), 10, false},
	} {
		own, other := int(x.gen%2), int(1-x.gen%2)
		r := full(t, g)
		put(t, r, 0, other, x.there)
		n := r.Writes(0)
		writes(t, r, g, some(x.gen), api.OK)
		want, took := x.there, uint64(1)
		if x.goes {
			want, took = zeros(64), 2
		}
		if s, e := r.Read(0, other); s != want || e != api.OK {
			t.Errorf("%s: then the other slot has %x %v", x.name, s, e)
		}
		if s, e := r.Read(0, own); s != bytesOf(some(x.gen)) || e != api.OK {
			t.Errorf("%s: then its slot has %x %v", x.name, s, e)
		}
		if r.Writes(0)-n != took {
			t.Errorf("%s: %d writes, not %d", x.name, r.Writes(0)-n, took)
		}
		votes(t, r, g, some(x.gen), true)
	}
}

// P11.2: a newer root goes ahead of the write of the root itself: power that fails between leaves the slot of the root as it was, and the other one empty.
func TestNewerGoesFirst(t *testing.T) {
	g := geo(2, 1)
	r := fresh(t, g)
	for d := range 2 {
		lay(t, r, d, some(8))
		lay(t, r, d, some(11))
	}
	for cut, want := range [][4]api.Root{
		{some(8), some(11), some(8), some(11)},
		{some(8), {}, some(8), some(11)},
		{some(10), {}, some(8), some(11)},
		{some(10), {}, some(8), {}},
		{some(10), {}, some(10), {}},
	} {
		r := fresh(t, g)
		for d := range 2 {
			lay(t, r, d, some(8))
			lay(t, r, d, some(11))
		}
		is(t, "Cut", r.Cut(cut), api.OK)
		answer := api.ErrDown
		if cut == 4 {
			answer = api.OK
		}
		writes(t, r, g, some(10), answer)
		is(t, "Lift", r.Lift(), api.OK)
		for i, x := range want {
			s, e := r.Read(i/2, i%2)
			if x == (api.Root{}) && s != zeros(64) || x != (api.Root{}) && s != bytesOf(x) || e != api.OK {
				t.Errorf("cut behind %d: the drive %d has in its slot %d: %x %v", cut, i/2, i%2, s, e)
			}
		}
	}
}

// P11.2: slots that can't be read: the root's own is written, and can be read then; the other one stays as it is.
func TestWriteSpoilt(t *testing.T) {
	g := geo(3, 2)
	for _, gen := range []uint64{5, 6} {
		own, other := int(gen%2), int(1-gen%2)
		r := fresh(t, g)
		is(t, "Spoil", r.Spoil(0, own), api.OK)
		is(t, "Spoil", r.Spoil(1, other), api.OK)
		is(t, "Spoil", r.Spoil(2, own), api.OK)
		is(t, "Spoil", r.Spoil(2, other), api.OK)
		writes(t, r, g, some(gen), api.OK)
		for d := range 3 {
			if s, e := r.Read(d, own); s != bytesOf(some(gen)) || e != api.OK {
				t.Errorf("the drive %d: %x %v", d, s, e)
			}
			want := api.ErrMedia
			if d == 0 {
				want = api.OK
			}
			_, e := r.Read(d, other)
			is(t, "rack's Read", e, want)
			if r.Writes(d) != 1 {
				t.Errorf("the drive %d: %d writes", d, r.Writes(d))
			}
		}
		votes(t, r, g, some(gen), true, false, false)
		writes(t, r, g, some(gen+1), api.OK)
		votes(t, r, g, some(gen+1), yes(3)...)
	}
}

// P11.3: whatever stands in the slots of two drives; of three, by chance.
func TestVotes(t *testing.T) {
	l := things()
	build := func(g api.Geo, of func(d, s int) thing) (*rack.Rack, string) {
		r, what := fresh(t, g), fmt.Sprintf("Parity %d:", g.Parity)
		for d := range g.Drives {
			for s := range 2 {
				of(d, s).stand(t, r, d, s)
				what += " " + of(d, s).name + ","
			}
		}
		return r, what
	}
	for i := range len(l) * len(l) * len(l) * len(l) {
		places := [2][2]int{{i % len(l), i / len(l) % len(l)}, {i / len(l) / len(l) % len(l), i / len(l) / len(l) / len(l)}}
		for parity := range 2 {
			g := geo(2, parity)
			r, what := build(g, func(d, s int) thing { return l[places[d][s]] })
			checkVote(t, what, r, g)
		}
	}
	c := chance(5)
	for range 20000 {
		drives := 1 + c.below(5)
		g := geo(drives, c.below(drives))
		var places [5][2]int
		for d := range places {
			for s := range places[d] {
				places[d][s] = c.below(len(l))
			}
		}
		r, what := build(g, func(d, s int) thing { return l[places[d][s]] })
		checkVote(t, what, r, g)
	}
}

// ways are those in which a drive can come to have no root.
var ways = []struct {
	name string
	lose func(r *rack.Rack, d int)
	gone bool // such that a drive is lost, as the whole has it: it was wiped, or can't be read in part
}{
	{"wiped", func(r *rack.Rack, d int) { r.Wipe(d) }, true},
	{"slot 0 spoilt", func(r *rack.Rack, d int) { r.Spoil(d, 0) }, true},
	{"slot 1 spoilt", func(r *rack.Rack, d int) { r.Spoil(d, 1) }, true},
	{"both spoilt", func(r *rack.Rack, d int) { r.Spoil(d, 0); r.Spoil(d, 1) }, true},
	{"other bytes", func(r *rack.Rack, d int) { r.Write(d, 0, "other"); r.Write(d, 1, "bytes") }, false},
	{"wiped, and one of the other slot", func(r *rack.Rack, d int) { r.Wipe(d); r.Write(d, 0, bytesOf(some(99))) }, false},
	{"wiped, and one that is torn", func(r *rack.Rack, d int) { r.Wipe(d); r.Write(d, 1, bytesOf(some(99))[:8]) }, false},
	{"slot 1 spoilt, a newer one in slot 0", func(r *rack.Rack, d int) { r.Spoil(d, 1); r.Write(d, 0, bytesOf(some(98))) }, false},
	{"slot 0 spoilt, a newer one in slot 1", func(r *rack.Rack, d int) { r.Spoil(d, 0); r.Write(d, 1, bytesOf(some(99))) }, false},
}

// P11.3: whichever drives have no root, in whichever way: up to Parity the root is told; with one more it is lost.
func TestWithout(t *testing.T) {
	for drives := 1; drives <= 5; drives++ {
		for parity := range drives {
			g := geo(drives, parity)
			for lost := range 1 << drives {
				for i := range len(ways) + 1 {
					r := fresh(t, g)
					writes(t, r, g, some(5), api.OK)
					writes(t, r, g, some(6), api.OK)
					has, n := yes(drives), 0
					for d := range drives {
						if lost>>d&1 == 1 {
							ways[(i+d*(i/len(ways)))%len(ways)].lose(r, d) // the last time each in another way
							has[d], n = false, n+1
						}
					}
					if n > parity {
						fails(t, r, g, api.ErrLost)
					} else {
						votes(t, r, g, some(6), has...)
					}
				}
			}
		}
	}
}

// P11.3: twelve drives; none of them, one, Parity, and one more have no root.
func TestTwelve(t *testing.T) {
	for parity := range 12 {
		g := geo(12, parity)
		for from := range 12 {
			r := fresh(t, g)
			writes(t, r, g, some(5), api.OK)
			has := yes(12)
			for n := range parity {
				d := (from + 5*n) % 12
				ways[n%len(ways)].lose(r, d)
				has[d] = false
				votes(t, r, g, some(5), has...)
			}
			ways[from%len(ways)].lose(r, (from+5*parity)%12)
			fails(t, r, g, api.ErrLost)
		}
	}
}

// P11.3: no root at all: of empty drives, of other bytes, of roots in the wrong slots.
func TestNone(t *testing.T) {
	for drives := 1; drives <= 12; drives++ {
		for parity := range drives {
			g := geo(drives, parity)
			fails(t, fresh(t, g), g, api.ErrLost)
			fails(t, full(t, g), g, api.ErrLost)
			r := fresh(t, g)
			for d := range drives {
				put(t, r, d, 0, bytesOf(some(1)))
				put(t, r, d, 1, bytesOf(some(2)))
			}
			fails(t, r, g, api.ErrLost)
			for d := range drives {
				put(t, r, d, 2, bytesOf(some(2))) // no slot
				put(t, r, d, 3, bytesOf(some(1)))
			}
			fails(t, r, g, api.ErrLost)
		}
	}
}

// P11.3: roots of unlike Gens on the drives: the greatest one is told, wherever it is, be it on one drive alone.
func TestUnlike(t *testing.T) {
	c := chance(3)
	for range 3000 {
		drives := 1 + c.below(12)
		g := geo(drives, c.below(drives))
		base := []uint64{1, 9, 100, 1<<48 - 4}[c.below(4)]
		r := fresh(t, g)
		on := make([]uint64, drives)
		for d := range on {
			on[d] = base + uint64(c.below(4))
			x := some(on[d])
			lay(t, r, d, x)
			if c.below(2) == 0 && x.Gen > 1 { // an older one in the other slot
				lay(t, r, d, some(on[d]-1))
			}
		}
		greatest := slices.Max(on)
		var has []bool
		for _, gen := range on {
			has = append(has, gen == greatest)
		}
		votes(t, r, g, some(greatest), has...)
	}
	g := geo(3, 0) // no more than one drive has it, and it is the last one
	r := fresh(t, g)
	lay(t, r, 0, some(4))
	lay(t, r, 1, some(5))
	lay(t, r, 2, some(1000))
	votes(t, r, g, some(1000), false, false, true)
	lay(t, r, 0, some(1001))
	votes(t, r, g, some(1001), true, false, false)
	lay(t, r, 2, some(3))
	votes(t, r, g, some(1001), true, false, false)
}

// P11.3: of roots of one Gen that are not the same the one is told of the drive with the least number; just the drives that have that one have it.
func TestNotTheSame(t *testing.T) {
	a, b := some(6), some(6)
	b.Next++
	c := a
	c.Head.Len++
	d := a
	d.Head = api.Piece{}
	for _, x := range []api.Root{a, b, c, d} {
		for _, y := range []api.Root{a, b, c, d} {
			g := geo(4, 1)
			r := fresh(t, g)
			lay(t, r, 0, some(5)) // an older one is told by nobody
			lay(t, r, 1, x)
			lay(t, r, 2, y)
			lay(t, r, 3, x)
			votes(t, r, g, x, false, true, y == x, true)
			is(t, "Spoil", r.Spoil(1, 1), api.OK)
			votes(t, r, g, y, false, false, true, x == y)
			is(t, "Wipe", r.Wipe(2), api.OK)
			fails(t, r, g, api.ErrLost)
		}
	}
}

// P11.3: a drive that has the root in its slot, but whose other slot can't be read, does not have it; nor is it told by that drive.
func TestOtherSlotSpoilt(t *testing.T) {
	for _, gen := range []uint64{6, 7} {
		g := geo(3, 1)
		other := int(1 - gen%2)
		r := fresh(t, g)
		writes(t, r, g, some(gen), api.OK)
		is(t, "Spoil", r.Spoil(1, other), api.OK)
		votes(t, r, g, some(gen), true, false, true)
		lay(t, r, 1, some(gen+2)) // newer, but nobody can tell
		votes(t, r, g, some(gen), true, false, true)
		put(t, r, 1, other, "")
		votes(t, r, g, some(gen+2), false, true, false)
		writes(t, r, g, some(gen), api.OK)
		votes(t, r, g, some(gen), yes(3)...)
	}
}

// P11.3: only the slots are looked at: other sectors that can't be read, or have roots, change nothing.
func TestOtherSectors(t *testing.T) {
	g := geo(3, 0)
	r := fresh(t, g)
	writes(t, r, g, some(6), api.OK)
	for d := range 3 {
		for s := 2; s < 14; s++ {
			if s%3 == 0 {
				is(t, "Spoil", r.Spoil(d, s), api.OK)
			} else {
				put(t, r, d, s, bytesOf(some(uint64(100+s))))
			}
		}
	}
	votes(t, r, g, some(6), yes(3)...)
	before, after := "", ""
	for d := range 3 {
		before += r.All(d)[128:]
	}
	writes(t, r, g, some(7), api.OK)
	votes(t, r, g, some(7), yes(3)...)
	for d := range 3 {
		after += r.All(d)[128:]
	}
	if before != after {
		t.Error("Write changes other sectors")
	}
}

// P11.4: wherever the writes of a root are cut, whichever drives are lost, at most Parity of them: that root is told, or the one ahead of it; the new one just if some drive that is not lost has it.
func TestFollows(t *testing.T) {
	for drives := 1; drives <= 5; drives++ {
		for parity := range drives {
			g := geo(drives, parity)
			for _, gen := range []uint64{1, 2, 41, 1<<48 - 2} {
				for _, step := range []uint64{1, 2} { // into the other slot, into the same one
					for cut := range drives + 1 {
						for lost := range 1 << drives {
							follows(t, g, gen, gen+step, cut, lost)
						}
					}
				}
			}
		}
	}
}

// follows is one case of that: drives that are lost are told by bits.
func follows(t *testing.T, g api.Geo, old, next uint64, cut, lost int) {
	t.Helper()
	for _, way := range ways {
		if !way.gone {
			continue
		}
		r := fresh(t, g)
		if old > 1 { // what was ahead of all that
			writes(t, r, g, some(old-1), api.OK)
		}
		writes(t, r, g, bare(old), api.OK)
		r.Cut(cut)
		if e := slot.Write(r, g, bare(next)); (e == api.OK) != (cut == g.Drives) {
			t.Errorf("cut behind %d: %v", cut, e)
		}
		r.Lift()
		want, n := bare(old), 0
		has := make([]bool, g.Drives)
		for d := range g.Drives {
			if lost>>d&1 == 1 {
				way.lose(r, d)
				n++
			} else if d < cut {
				want = bare(next)
			}
		}
		for d := range g.Drives {
			has[d] = lost>>d&1 == 0 && (d < cut) == (want == bare(next))
		}
		if n > g.Parity {
			fails(t, r, g, api.ErrLost)
			continue
		}
		votes(t, r, g, want, has...)
		if old < 3 {
			again(t, r, g, want)
		}
	}
}

// again: what was told is written again, cut anywhere; it is told from then on.
func again(t *testing.T, r *rack.Rack, g api.Geo, told api.Root) {
	t.Helper()
	for cut := range 2*g.Drives + 1 {
		r.Cut(cut)
		e := slot.Write(r, g, told)
		r.Lift()
		if x, _, f := slot.Vote(r, g); x != told || f != api.OK {
			t.Errorf("%+v, written again, cut behind %d (%v): %+v %v, not %+v", g, cut, e, x, f, told)
		}
	}
}

// P11.4: roots go on, one behind the other, while writes are cut and drives are lost. What is told behind a cut is written again till all drives have it, ahead of the next one; one that was not told then is never told later.
func TestGoesOn(t *testing.T) {
	c := chance(17)
	for range 2000 {
		drives := 1 + c.below(6)
		goOn(t, &c, geo(drives, c.below(drives)))
	}
}

// goOn does so on one rack.
func goOn(t *testing.T, c *chance, g api.Geo) {
	t.Helper()
	r := fresh(t, g)
	sure := api.Root{Gen: 1, Next: 1} // all drives have it, but those that are lost
	writes(t, r, g, sure, api.OK)
	told, next := sure, sure
	for i := range 40 {
		x := told
		if told == sure && next == sure {
			x = api.Root{Gen: sure.Gen + 1, Next: uint64(2 + i)}
			next = x
		}
		r.Cut(c.below(2*g.Drives + 2))
		e := slot.Write(r, g, x)
		r.Lift()
		if e == api.OK {
			sure, next = x, x
		}
		loseSome(c, r, g)
		y, _, f := slot.Vote(r, g)
		if f != api.OK || y != sure && y != next {
			t.Fatalf("%+v, step %d: %+v is told (%v), of %+v and %+v", g, i, y, f, sure, next)
		}
		if told = y; told == sure { // the other one may not be told from now on
			next = sure
			if e != api.OK {
				finish(t, c, r, g, sure)
			}
		}
	}
}

// loseSome lets some drives be lost, as long as no more than Parity are.
func loseSome(c *chance, r *rack.Rack, g api.Geo) {
	lost := 0
	for d := range g.Drives {
		if _, is := rootOf(r, d); !is {
			lost++
		}
	}
	for d := range g.Drives {
		if _, is := rootOf(r, d); is && lost < g.Parity && c.below(4) == 0 {
			ways[c.below(4)].lose(r, d)
			lost++
		}
	}
}

// finish writes a root that was told till no cut ends it, while it is told behind each cut.
func finish(t *testing.T, c *chance, r *rack.Rack, g api.Geo, told api.Root) {
	t.Helper()
	for e := api.ErrDown; e != api.OK; {
		r.Cut(c.below(2*g.Drives + 2))
		e = slot.Write(r, g, told)
		r.Lift()
		loseSome(c, r, g)
		if x, _, f := slot.Vote(r, g); x != told || f != api.OK {
			t.Fatalf("%+v: %+v %v, not %+v, which was told", g, x, f, told)
		}
	}
}

// R5: an answer is memory of its own, and stays as it was whatever is done then.
func TestAnswersStay(t *testing.T) {
	g := geo(3, 1)
	r := fresh(t, g)
	writes(t, r, g, some(5), api.OK)
	is(t, "Wipe", r.Wipe(1), api.OK)
	_, a, _ := slot.Vote(r, g)
	_, b, _ := slot.Vote(r, g)
	a[0], a[1] = false, true
	_ = append(a, true)
	if !slices.Equal(b, []bool{true, false, true}) {
		t.Errorf("two lists share memory: %v", b)
	}
	votes(t, r, g, some(5), true, false, true)
	writes(t, r, g, some(6), api.OK)
	if !slices.Equal(b, []bool{true, false, true}) {
		t.Errorf("the list has changed: %v", b)
	}
	s, _ := slot.Encode(some(5))
	other, _ := slot.Encode(some(5))
	if unsafe.StringData(s) == unsafe.StringData(other) {
		t.Error("two texts share memory")
	}
}

// R5: bytes that are handed in are neither changed nor kept.
func TestBytesAreNotKept(t *testing.T) {
	l := []byte(bytesOf(some(5)))
	x, e := slot.Decode(unsafe.String(unsafe.SliceData(l), len(l)))
	if string(l) != bytesOf(some(5)) {
		t.Errorf("%x", l)
	}
	clear(l)
	if x != some(5) || e != api.OK {
		t.Errorf("%+v %v", x, e)
	}
}

// R6: asked again, the same is answered; the same calls leave the same bytes.
func TestAgain(t *testing.T) {
	g := geo(5, 2)
	r, other := fresh(t, g), fresh(t, g)
	for _, x := range []*rack.Rack{r, other} {
		writes(t, x, g, some(5), api.OK)
		is(t, "Cut", x.Cut(2), api.OK)
		writes(t, x, g, some(6), api.ErrDown)
		is(t, "Lift", x.Lift(), api.OK)
		is(t, "Spoil", x.Spoil(0, 1), api.OK)
	}
	for range 3 {
		votes(t, r, g, some(6), false, true, false, false, false)
	}
	same(t, "the same calls", r, other)
	for _, x := range []*rack.Rack{r, other} {
		writes(t, x, g, some(6), api.OK)
	}
	same(t, "the same calls", r, other)
	votes(t, r, g, some(6), false, true, true, true, true) // the first one's slot 1 can't be read still
	before := r.All(1)
	writes(t, r, g, some(6), api.OK)
	if r.All(1) != before {
		t.Error("the same root has other bytes")
	}
}

// The chapter's examples.
func TestExample(t *testing.T) {
	g := api.Geo{Drives: 3, Parity: 1, Sectors: 24, Tail: 2}
	one, two := bare(1), some(2)
	begin := func() *rack.Rack {
		r := fresh(t, g)
		fails(t, r, g, api.ErrLost)
		writes(t, r, g, one, api.OK)
		votes(t, r, g, one, yes(3)...)
		is(t, "Cut", r.Cut(1), api.OK)
		writes(t, r, g, two, api.ErrDown)
		is(t, "Lift", r.Lift(), api.OK)
		votes(t, r, g, two, true, false, false)
		return r
	}
	r := begin()
	is(t, "Wipe", r.Wipe(0), api.OK)
	votes(t, r, g, one, false, true, true)
	is(t, "Wipe", r.Wipe(1), api.OK)
	fails(t, r, g, api.ErrLost)
	r = begin()
	is(t, "Spoil", r.Spoil(0, 1), api.OK)
	votes(t, r, g, one, false, true, true)
	writes(t, r, g, one, api.OK)
	votes(t, r, g, one, yes(3)...)
}

// step is what is done to two racks alike, of which one is told what has to come of it.
type step struct {
	kind rune // 'w' Write, 'v' Vote; of the rack: 'p' Wipe, 's' Spoil, 'x' Cut (at is how many), 'l' Lift, 't' a byte of a slot is turned, 'h' a root that is laid there, in whichever slot
	g    api.Geo
	x    api.Root
	d    int
	at   int
}

// disturb does a step that is no call of slot.
func (s step) disturb(r *rack.Rack) {
	switch s.kind {
	case 'p':
		r.Wipe(s.d)
	case 's':
		r.Spoil(s.d, s.at%2)
	case 'x':
		r.Cut(s.at)
	case 'l':
		r.Lift()
	case 't':
		if old, e := r.Read(s.d, s.at%2); e == api.OK {
			l := []byte(old)
			l[s.at/2%64] ^= 1 << (s.x.Next & 7)
			r.Write(s.d, s.at%2, string(l))
		}
	case 'h':
		r.Write(s.d, s.at%2, bytesOf(s.x))
	}
}

// do does a step, and tells whether all is as it must be.
func (s step) do(r, want *rack.Rack) bool {
	switch s.kind {
	case 'w':
		return slot.Write(r, s.g, s.x) == wantWrite(want, s.g, s.x)
	case 'v':
		x, has, e := slot.Vote(r, s.g)
		y, l, f := wantVote(want, s.g)
		return x == y && slices.Equal(has, l) && e == f
	}
	s.disturb(r)
	s.disturb(want)
	return true
}

// someStep makes one: most are calls that may be, some are not.
func someStep(c *chance, g api.Geo) step {
	kinds := []rune("wwwwwwvvvvvvvpssxllthhh")
	s := step{kind: kinds[c.below(len(kinds))], g: g, d: c.below(g.Drives), at: c.below(128)}
	s.x = some(uint64(1 + c.below(9)))
	if c.below(6) == 0 {
		s.x = bare(s.x.Gen)
	}
	if s.kind == 'x' {
		s.at = c.below(2*g.Drives + 3)
	}
	switch c.below(90) {
	case 0:
		s.x.Gen = noGens[c.below(len(noGens))]
	case 1:
		s.x.Next = 0
	case 2:
		s.x.Head.Row = noRows[c.below(5)]
	case 3:
		s.g.Drives += c.below(3) - 1
	case 4:
		s.g.Sectors += c.below(3) - 1
	case 5:
		s.g.Parity = c.below(14) - 1
	case 6:
		s.g.Tail = c.below(5)
	}
	if s.kind == 'h' && (s.x.Head.Row < 0 || s.x.Gen > 1<<50) {
		s.kind = 'v'
	}
	return s
}

// P11.1 to P11.4: whatever is done, by chance: each call answers, and leaves, what the chapter says.
func TestWhatever(t *testing.T) {
	c := chance(11)
	for i := range 1500 {
		drives := 1 + c.below(6)
		if i%20 == 0 {
			drives = 12
		}
		g := geo(drives, c.below(drives))
		g.Sectors += c.below(9)
		r, want := fresh(t, g), fresh(t, g)
		for j := range c.below(60) {
			s := someStep(&c, g)
			if !s.do(r, want) || state(r) != state(want) {
				t.Fatalf("rack %d, step %d, %s: it answers, or leaves, something else: %+v", i, j, string(s.kind), s)
			}
		}
	}
}

// FuzzDecode: of any bytes whatever Decode tells a root, or that they are none; a root that it tells has just these bytes.
func FuzzDecode(f *testing.F) {
	for _, x := range append(wrongs(), bare(1), some(2), api.Root{Gen: 1 << 48, Next: 1 << 48, Head: api.Piece{Row: 4096, Stamp: 1 << 48, Len: 5376}}) {
		if s := says(x); len(s) < 60 {
			f.Add(sealed(s), s)
		}
	}
	f.Add("", "")
	f.Fuzz(func(t *testing.T, s, said string) {
		decodes(t, s)
		if len(said) < 60 {
			decodes(t, sealed(said))
		}
	})
}

// decodes holds Decode to what it has to answer.
func decodes(t *testing.T, s string) {
	t.Helper()
	x, is := rootIn(s)
	if !is {
		noRoot(t, s)
		return
	}
	encodes(t, x, s)
}

// W6: any bytes whatever, and such as are nearly a root's, by chance.
func TestAnyBytes(t *testing.T) {
	c := chance(23)
	for range 100000 {
		said := ""
		for range 4 + c.below(3) {
			n := c.below(10)
			said += counted(c.text(min(n, 9)))
		}
		said = said[:min(len(said), 59)]
		decodes(t, sealed(said))
		decodes(t, sealed(said[:c.below(len(said)+1)]))
		decodes(t, c.text(64))
		decodes(t, c.text(c.below(100)))
		x := api.Root{Gen: uint64(c.next()) << c.below(20), Next: uint64(c.next()) << c.below(20), Head: api.Piece{Row: c.below(5000), Stamp: uint64(c.next()) << c.below(20), Len: c.below(6000)}}
		decodes(t, bytesOf(x))
	}
}
