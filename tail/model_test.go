package tail_test

import (
	"hash/crc32"
	"math"
	"slices"
	"strconv"
	"strings"
	"testing"

	"hoard/api"
	"hoard/rack"
	"hoard/tail"
)

// chance makes numbers by a rule.
type chance uint64

func (c *chance) next() uint32 {
	*c = *c*6364136223846793005 + 1442695040888963407
	return uint32(*c >> 32)
}

// below makes a number below n.
func (c *chance) below(n int) int { return int(c.next() % uint32(n)) }

// text makes one of n bytes.
func (c *chance) text(n int) string {
	l := make([]byte, n)
	for i := range l {
		l[i] = byte(c.next() >> 24)
	}
	return string(l)
}

// long is a text of n bytes, no two pieces of which are the same.
func long(n int) string {
	c := chance(n)
	return c.text(n)
}

// zeros is n bytes 0.
func zeros(n int) string { return strings.Repeat("\x00", n) }

// whole is what a sector has that has that text.
func whole(text string) string { return text + zeros(64-len(text)) }

// number is the bytes of one, as layer 1 has them.
func number(x uint64) string {
	s := ""
	for ; x > 0; x >>= 8 {
		s = string([]byte{byte(x)}) + s
	}
	return string([]byte{byte(len(s))}) + s
}

// numberAt is the number at the front of s, and what stands behind it; false, if none stands there as it must.
func numberAt(s string) (x uint64, behind string, is bool) {
	if s == "" || s[0] > 8 || len(s) <= int(s[0]) || s[0] > 0 && s[1] == 0 {
		return 0, "", false
	}
	n := 1 + int(s[0])
	for _, b := range []byte(s[1:n]) {
		x = x<<8 | uint64(b)
	}
	return x, s[n:], true
}

// crc is the sum of s; crcBytes its bytes, the highest first.
func crc(s string) uint64 { return uint64(crc32.ChecksumIEEE([]byte(s))) }

func crcBytes(s string) string {
	x := crc(s)
	return string([]byte{byte(x >> 24), byte(x >> 16), byte(x >> 8), byte(x)})
}

// counted is s behind a byte that tells how many bytes it has.
func counted(s string) string { return string([]byte{byte(len(s))}) + s }

// sealed is the sector that says s.
func sealed(s string) string { return whole(counted(s + crcBytes(s))) }

// sector is what one of a tail says.
type sector struct {
	gen, number, index, parts, sum uint64
	piece                          string
}

// numbers are those that it says, ahead of the piece.
func (x sector) numbers() []uint64 { return []uint64{x.gen, x.number, x.index, x.parts, x.sum} }

// says is what its bytes say.
func (x sector) says() string {
	s := ""
	for _, n := range x.numbers() {
		s += number(n)
	}
	return s + x.piece
}

// bytes are those of the sector, whether it may be or not.
func (x sector) bytes() string { return sealed(x.says()) }

// sectorIn is the sector that has these bytes; false, if they are none's, of whatever group of whatever generation.
func sectorIn(s string) (sector, bool) {
	if len(s) != 64 || s[0] < 4 || s[0] > 63 {
		return sector{}, false
	}
	said, behind := s[1:1+s[0]], s[1+s[0]:]
	said, end := said[:len(said)-4], said[len(said)-4:]
	if crcBytes(said) != end || behind != zeros(len(behind)) {
		return sector{}, false
	}
	var l [5]uint64
	for i := range l {
		is := false
		if l[i], said, is = numberAt(said); !is {
			return sector{}, false
		}
	}
	x := sector{l[0], l[1], l[2], l[3], l[4], said}
	return x, x.may()
}

// may is whether there is such a sector, of whatever group.
func (x sector) may() bool {
	if x.number > 512 || x.parts < 1 || x.parts > 512 || x.index >= x.parts || x.sum > 1<<32-1 {
		return false
	}
	switch {
	case x.parts == 1:
		return len(x.piece) <= 34
	case x.index == x.parts-1:
		return len(x.piece) >= 1 && len(x.piece) <= 34
	}
	return len(x.piece) == 34
}

// groupOf is what the sectors of a group say.
func groupOf(gen, n uint64, text string) []sector {
	var l []sector
	sum := crc(text)
	for {
		piece := text[:min(34, len(text))]
		text = text[len(piece):]
		l = append(l, sector{gen: gen, number: n, index: uint64(len(l)), sum: sum, piece: piece})
		if text == "" {
			break
		}
	}
	for i := range l {
		l[i].parts = uint64(len(l))
	}
	return l
}

// tailOf is what the sectors of a tail of these records say, the head first.
func tailOf(gen uint64, records ...string) []sector {
	l := groupOf(gen, 0, "")
	for i, text := range records {
		l = append(l, groupOf(gen, uint64(i+1), text)...)
	}
	return l
}

// bytesOf are the bytes of sectors.
func bytesOf(l []sector) []string {
	var m []string
	for _, x := range l {
		m = append(m, x.bytes())
	}
	return m
}

// geo is one of a row and not a sector more.
func geo(drives, parity, tail int) api.Geo {
	return api.Geo{Drives: drives, Parity: parity, Sectors: 10 + 2*tail, Tail: tail}
}

// mayGeo is whether a geo may be.
func mayGeo(g api.Geo) bool {
	return g.Drives >= 1 && g.Drives <= 12 && g.Parity >= 0 && g.Parity < g.Drives && g.Tail >= 2 && g.Tail <= 512 && g.Sectors <= 4096 && g.Sectors >= 10+2*g.Tail
}

// from is the first sector of a generation's tail.
func from(g api.Geo, gen uint64) int {
	if gen%2 == 0 {
		return 2
	}
	return 2 + g.Tail
}

// wantDrives are the drives of a generation's tail.
func wantDrives(g api.Geo, gen uint64) []int {
	if !mayGeo(g) || gen == 0 || gen > 1<<48 {
		return nil
	}
	d := int(gen % uint64(g.Drives))
	var l []int
	for len(l) <= g.Parity {
		l = append(l, d)
		if d++; d == g.Drives {
			d = 0
		}
	}
	return l
}

// wantFits is what is wrong with a rack, a geo and a generation.
func wantFits(r *rack.Rack, g api.Geo, gen uint64) api.Errno {
	switch {
	case r == nil || r.Drives() == 0:
		return api.ErrNil
	case !mayGeo(g) || g.Drives != r.Drives() || g.Sectors != r.Sectors() || gen == 0 || gen > 1<<48:
		return api.ErrArg
	}
	return api.OK
}

// wantGroup looks for a group on a drive, from that sector of the tail on: its text, and how many sectors it has (0: it is not there); bad: a sector that was looked at can't be read.
func wantGroup(r *rack.Rack, g api.Geo, gen, n uint64, d, at int) (text string, has int, bad bool) {
	var first sector
	for i := 0; at+i < g.Tail; i++ {
		s, e := r.Read(d, from(g, gen)+at+i)
		if e != api.OK {
			return "", 0, true
		}
		x, is := sectorIn(s)
		if i == 0 {
			first = x
		}
		if !is || x.gen != gen || x.number != n || x.index != uint64(i) || x.parts != first.parts || x.sum != first.sum {
			return "", 0, false
		}
		if text += x.piece; x.index == x.parts-1 {
			if crc(text) != x.sum || n == 0 && text != "" {
				return "", 0, false
			}
			return text, i + 1, false
		}
	}
	return "", 0, false
}

// wantRecords are a drive's records, and whether its tail is whole.
func wantRecords(r *rack.Rack, g api.Geo, gen uint64, d int) (l []string, is bool) {
	at := 0
	for n := uint64(0); ; n++ {
		text, has, bad := wantGroup(r, g, gen, n, d, at)
		switch {
		case bad:
			return nil, false
		case has == 0:
			return l, n > 0
		case n > 0:
			l = append(l, text)
		}
		at += has
	}
}

// model is a tail, as the chapter has it.
type model struct {
	r      *rack.Rack
	g      api.Geo
	gen    uint64
	list   []string // its records
	broken bool
}

// must is what its sectors must have.
func (m *model) must() []string { return bytesOf(tailOf(m.gen, m.list...)) }

// wantBegin does what Begin has to do: P12.1.
func wantBegin(r *rack.Rack, g api.Geo, gen uint64) (*model, api.Errno) {
	if e := wantFits(r, g, gen); e != api.OK {
		return nil, e
	}
	m := &model{r: r, g: g, gen: gen}
	if e := m.mend(); e != api.OK {
		return nil, e
	}
	return m, api.OK
}

// wantLoad is what Load has to answer: P12.2.
func wantLoad(r *rack.Rack, g api.Geo, gen uint64) (*model, []string, api.Errno) {
	if e := wantFits(r, g, gen); e != api.OK {
		return nil, nil, e
	}
	if _, e := r.Read(0, 0); e == api.ErrDown {
		return nil, nil, e
	}
	var most []string
	there := false
	for _, d := range wantDrives(g, gen) {
		if l, is := wantRecords(r, g, gen, d); is && (!there || len(l) > len(most)) {
			most, there = l, true
		}
	}
	if !there {
		return nil, nil, api.ErrLost
	}
	return &model{r: r, g: g, gen: gen, list: most}, most, api.OK
}

// wrong are the sectors of a drive that Mend writes, in their order, and what it writes.
func (m *model) wrong(d int) (at []int, texts []string, e api.Errno) {
	must := m.must()
	all := make([]string, m.g.Tail)
	bad := make([]bool, m.g.Tail)
	for i := range all {
		s, e := m.r.Read(d, from(m.g, m.gen)+i)
		if e == api.ErrDown {
			return nil, nil, e
		}
		all[i], bad[i] = s, e != api.OK
	}
	for i := len(must); i < m.g.Tail; i++ {
		if x, is := sectorIn(all[i]); bad[i] || is && x.gen == m.gen {
			at, texts = append(at, i), append(texts, "")
		}
	}
	for i := len(must) - 1; i >= 0; i-- {
		if bad[i] || all[i] != must[i] {
			at, texts = append(at, i), append(texts, must[i])
		}
	}
	return at, texts, api.OK
}

// mend does what Mend has to do: P12.3.
func (m *model) mend() api.Errno {
	if m.broken {
		return api.ErrState
	}
	for _, d := range wantDrives(m.g, m.gen) {
		at, texts, e := m.wrong(d)
		for i := 0; e == api.OK && i < len(at); i++ {
			e = m.r.Write(d, from(m.g, m.gen)+at[i], texts[i])
		}
		if e != api.OK {
			m.broken = true
			return e
		}
	}
	return api.OK
}

// append does what Append has to do: P12.4.
func (m *model) append(text string) api.Errno {
	if m.broken {
		return api.ErrState
	}
	had := len(m.must())
	if (len(text)+33)/34 > m.g.Tail-had || had == m.g.Tail {
		return api.ErrFull
	}
	for _, d := range wantDrives(m.g, m.gen) {
		for i, x := range groupOf(m.gen, uint64(len(m.list)+1), text) {
			if e := m.r.Write(d, from(m.g, m.gen)+had+i, x.bytes()); e != api.OK {
				m.broken = true
				return e
			}
		}
	}
	m.list = append(slices.Clone(m.list), text)
	return api.OK
}

// room is what Room has to answer.
func (m *model) room() int { return 34 * (m.g.Tail - len(m.must())) }

// missing is what Missing has to answer.
func (m *model) missing() ([]int, api.Errno) {
	var l []int
	for d := range m.g.Drives {
		if !slices.Contains(wantDrives(m.g, m.gen), d) {
			continue
		}
		at, _, e := m.wrong(d)
		if e != api.OK {
			return nil, e
		}
		if len(at) > 0 {
			l = append(l, d)
		}
	}
	return l, api.OK
}

// fresh makes a rack that fits a geo.
func fresh(t *testing.T, g api.Geo) *rack.Rack {
	t.Helper()
	return sized(t, g.Drives, g.Sectors)
}

// sized makes a rack.
func sized(t *testing.T, drives, sectors int) *rack.Rack {
	t.Helper()
	r, e := rack.New(drives, sectors)
	if r == nil || e != api.OK {
		t.Fatalf("rack.New(%d, %d): %v", drives, sectors, e)
	}
	return r
}

// full makes a rack that fits, in all of whose sectors something stands.
func full(t *testing.T, g api.Geo) *rack.Rack {
	t.Helper()
	r := fresh(t, g)
	for d := range g.Drives {
		for s := range g.Sectors {
			put(t, r, d, s, strings.Repeat(string([]byte{byte(64 + 16*d + s)}), 64))
		}
	}
	return r
}

// put writes a sector.
func put(t *testing.T, r *rack.Rack, d, s int, text string) {
	t.Helper()
	is(t, "rack's Write", r.Write(d, s, text), api.OK)
}

// lay gives a drive these sectors, from the first one of the generation's tail on.
func lay(t *testing.T, r *rack.Rack, g api.Geo, gen uint64, d int, sectors ...string) {
	t.Helper()
	for i, s := range sectors {
		put(t, r, d, from(g, gen)+i, s)
	}
}

// layAll gives all the drives of a generation's tail one of these records.
func layAll(t *testing.T, r *rack.Rack, g api.Geo, gen uint64, records ...string) {
	t.Helper()
	for _, d := range wantDrives(g, gen) {
		lay(t, r, g, gen, d, bytesOf(tailOf(gen, records...))...)
	}
}

// spoil lets a sector of a generation's tail not be read.
func spoil(t *testing.T, r *rack.Rack, g api.Geo, gen uint64, d, i int) {
	t.Helper()
	is(t, "Spoil", r.Spoil(d, from(g, gen)+i), api.OK)
}

// is holds an error to another one.
func is(t *testing.T, what string, e, want api.Errno) {
	t.Helper()
	if e != want {
		t.Errorf("%s: %v, not %v", what, e, want)
	}
}

// state is all that is told of a rack without changing it.
func state(r *rack.Rack) string {
	var b strings.Builder
	b.Grow(r.Drives() * (r.Sectors()*70 + 10))
	tell := func(x int) {
		b.WriteString(strconv.Itoa(x))
		b.WriteByte(' ')
	}
	for d := range r.Drives() {
		tell(int(r.Writes(d)))
		b.WriteString(r.All(d))
		for s := range r.Sectors() {
			_, e := r.Read(d, s)
			tell(int(e))
		}
	}
	return b.String()
}

// same holds a rack to another one.
func same(t *testing.T, what string, r, want *rack.Rack) {
	t.Helper()
	if state(r) != state(want) {
		t.Errorf("%s: the rack has not what it must have", what)
	}
}

// stays holds a rack to what it had ahead of something that may change nothing.
func stays(t *testing.T, what string, r *rack.Rack, do func()) {
	t.Helper()
	before := state(r)
	do()
	if state(r) != before {
		t.Errorf("%s changes something", what)
	}
}

// begins is the tail that Begin makes.
func begins(t *testing.T, r *rack.Rack, g api.Geo, gen uint64) *tail.Tail {
	t.Helper()
	x, e := tail.Begin(r, g, gen)
	if x == nil || e != api.OK {
		t.Fatalf("%+v, Begin of %d: %v %v", g, gen, x, e)
	}
	return x
}

// beginFails holds Begin to an error, beside which there is nothing.
func beginFails(t *testing.T, r *rack.Rack, g api.Geo, gen uint64, want api.Errno) {
	t.Helper()
	if x, e := tail.Begin(r, g, gen); x != nil || e != want {
		t.Errorf("%+v, Begin of %d: %v %v, not %v", g, gen, x, e, want)
	}
}

// loads holds Load to these records; nothing is done by it. The tail has room for what is left behind them.
func loads(t *testing.T, r *rack.Rack, g api.Geo, gen uint64, want ...string) *tail.Tail {
	t.Helper()
	var x *tail.Tail
	stays(t, "Load", r, func() {
		t.Helper()
		y, l, e := tail.Load(r, g, gen)
		if y == nil || !slices.Equal(l, want) || e != api.OK {
			t.Fatalf("%+v, Load of %d: %v %q %v, not %q", g, gen, y, l, e, want)
		}
		x = y
	})
	if n := 34 * (g.Tail - len(tailOf(gen, want...))); x.Room() != n {
		t.Errorf("%+v, Load of %d, Room: %d, not %d", g, gen, x.Room(), n)
	}
	return x
}

// loadFails holds Load to an error, beside which there is nothing, and by which nothing is done.
func loadFails(t *testing.T, r *rack.Rack, g api.Geo, gen uint64, want api.Errno) {
	t.Helper()
	stays(t, "Load", r, func() {
		t.Helper()
		if x, l, e := tail.Load(r, g, gen); x != nil || len(l) != 0 || e != want {
			t.Errorf("%+v, Load of %d: %v %q %v, not %v", g, gen, x, l, e, want)
		}
	})
}

// misses holds Missing to these drives; nothing is done by it.
func misses(t *testing.T, r *rack.Rack, x *tail.Tail, want ...int) {
	t.Helper()
	stays(t, "Missing", r, func() {
		t.Helper()
		if l, e := x.Missing(); !slices.Equal(l, want) || e != api.OK {
			t.Errorf("Missing: %v %v, not %v", l, e, want)
		}
	})
}

// missingFails holds Missing to an error, beside which there is nothing.
func missingFails(t *testing.T, x *tail.Tail, want api.Errno) {
	t.Helper()
	if l, e := x.Missing(); len(l) != 0 || e != want {
		t.Errorf("Missing: %v %v, not %v", l, e, want)
	}
}

// room holds Room to that many bytes.
func room(t *testing.T, x *tail.Tail, want int) {
	t.Helper()
	if n := x.Room(); n != want {
		t.Errorf("Room: %d, not %d", n, want)
	}
}

// broken holds a tail to being so: nothing is done any more.
func broken(t *testing.T, r *rack.Rack, x *tail.Tail) {
	t.Helper()
	stays(t, "a broken tail", r, func() {
		t.Helper()
		is(t, "Mend of a broken tail", x.Mend(), api.ErrState)
		for _, n := range []int{0, 1, 34, 35, 1 << 16} {
			is(t, "Append to a broken tail", x.Append(long(n)), api.ErrState)
		}
	})
}

// far are numbers far above and far below all that may be, such too whose lowest bits are a number that may be.
var far = []int{math.MinInt, math.MinInt + 1, -1 << 48, 1 - 1<<32, -1 << 31, -4096, -256, 1 << 16, 1 << 31, 1<<32 + 1, 1 << 48, math.MaxInt - 1, math.MaxInt}

// gens are generations that may be, the least and the greatest one among them, noGens such as may not.
var (
	gens   = []uint64{1, 2, 3, 4, 5, 11, 12, 255, 256, 257, 65535, 65536, 1<<32 - 1, 1 << 32, 1<<40 + 5, 1<<48 - 1, 1 << 48}
	noGens = []uint64{0, 1<<48 + 1, 1<<48 + 2, 1 << 49, 1<<56 + 1, 1 << 63, math.MaxUint64 - 1, math.MaxUint64}
)

// nones are racks that are none.
func nones() []*rack.Rack { return []*rack.Rack{nil, {}, new(rack.Rack)} }

// unfit are geos that a rack of three drives and 24 sectors does not fit, those that may not be among them.
func unfit() []api.Geo {
	l := []api.Geo{{}}
	good := api.Geo{Drives: 3, Parity: 1, Sectors: 24, Tail: 2}
	for _, n := range append([]int{-2, -1, 0, 1, 2, 4, 5, 12, 13}, far...) {
		g := good
		g.Drives = n
		l = append(l, g)
		g.Parity = 0
		l = append(l, g)
	}
	for _, n := range append([]int{-2, -1, 3, 4, 12}, far...) {
		g := good
		g.Parity = n
		l = append(l, g)
	}
	for _, n := range append([]int{-1, 0, 1, 13, 14, 22, 23, 25, 26, 32, 4096, 4097}, far...) {
		g := good
		g.Sectors = n
		l = append(l, g)
	}
	for _, n := range append([]int{-1, 0, 1, 8, 9, 513}, far...) {
		g := good
		g.Tail = n
		l = append(l, g)
	}
	return l
}
