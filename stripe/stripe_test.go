package stripe_test

import (
	"math"
	"slices"
	"strconv"
	"strings"
	"testing"
	"unsafe"

	"hoard/api"
	"hoard/code"
	"hoard/field"
	"hoard/matrix"
	"hoard/rack"
	"hoard/shard"
	"hoard/stripe"
)

// chance makes numbers by a rule.
type chance uint64

func (c *chance) next() uint32 {
	*c = *c*6364136223846793005 + 1442695040888963407
	return uint32(*c >> 32)
}

// below makes a number below n.
func (c *chance) below(n int) int { return int(c.next() % uint32(n)) }

// text makes one of n bytes.
func (c *chance) text(n int) string {
	l := make([]byte, n)
	for i := range l {
		l[i] = byte(c.next() >> 24)
	}
	return string(l)
}

// some is a text of n bytes, none of which is 0.
func some(n int) string {
	l := make([]byte, n)
	for i := range l {
		l[i] = byte(i%255 + 1)
	}
	return string(l)
}

// geo is one of so many rows and not a sector more.
func geo(drives, parity, tail, rows int) api.Geo {
	return api.Geo{Drives: drives, Parity: parity, Sectors: firstOf(tail, rows), Tail: tail}
}

// firstOf is the first sector of a row, as the Words have it.
func firstOf(tail, row int) int { return 2 + 2*tail + row*8 }

// geos are some that may be, of all numbers of drives that a text takes.
func geos() []api.Geo {
	return []api.Geo{
		geo(1, 0, 2, 2), geo(2, 0, 2, 2), geo(2, 1, 3, 2), geo(3, 0, 2, 3), geo(3, 1, 2, 3), geo(3, 2, 4, 2),
		geo(4, 1, 2, 2), geo(4, 2, 5, 2), geo(5, 2, 2, 2), geo(5, 4, 2, 2), geo(7, 3, 2, 1),
		geo(12, 0, 2, 1), geo(12, 1, 2, 1), geo(12, 4, 3, 2), geo(12, 11, 2, 1),
	}
}

// sizes are how many bytes texts have: none, one, about as many as it takes shards, about a sector of each, about the room.
func sizes(g api.Geo) []int {
	k := g.Drives - g.Parity
	room := k * 448
	l := []int{0, 1, 2, k - 1, k, k + 1, 2*k - 1, 64*k - 1, 64 * k, 64*k + 1, 100, 447, 448, 449, room - k, room - 1, room}
	slices.Sort(l)
	l = slices.Compact(l)
	return slices.DeleteFunc(l, func(n int) bool { return n > room })
}

// far are numbers far above and far below all that may be.
var far = []int{math.MinInt, math.MinInt + 1, -1 << 48, 1 - 1<<32, -1 << 31, -4096, -256, 1 << 16, 1 << 31, 1<<32 + 1, 1 << 48, math.MaxInt - 1, math.MaxInt}

// fresh makes a rack that fits a geo.
func fresh(t *testing.T, g api.Geo) *rack.Rack {
	t.Helper()
	return sized(t, g.Drives, g.Sectors)
}

// sized makes a rack.
func sized(t *testing.T, drives, sectors int) *rack.Rack {
	t.Helper()
	r, e := rack.New(drives, sectors)
	if r == nil || e != api.OK {
		t.Fatalf("rack.New(%d, %d): %v", drives, sectors, e)
	}
	return r
}

// full makes a rack that fits, in all of whose sectors something stands.
func full(t *testing.T, g api.Geo) *rack.Rack {
	t.Helper()
	r := fresh(t, g)
	for d := range g.Drives {
		for s := range g.Sectors {
			put(t, r, d, s, strings.Repeat(string([]byte{byte(128 + 16*d + s)}), api.SectorSize))
		}
	}
	return r
}

// put writes a sector.
func put(t *testing.T, r *rack.Rack, d, s int, text string) {
	t.Helper()
	is(t, "rack's Write", r.Write(d, s, text), api.OK)
}

// is holds an error to another one.
func is(t *testing.T, what string, e, want api.Errno) {
	t.Helper()
	if e != want {
		t.Errorf("%s: %v, not %v", what, e, want)
	}
}

// state is all that is told of a rack without changing it.
func state(r *rack.Rack) string {
	var b strings.Builder
	tell := func(x int) { b.WriteString(strconv.Itoa(x) + " ") }
	for d := range r.Drives() {
		tell(int(r.Writes(d)))
		b.WriteString(r.All(d))
		for s := range r.Sectors() {
			_, e := r.Read(d, s)
			tell(int(e))
		}
	}
	return b.String()
}

// same holds a rack to another one.
func same(t *testing.T, what string, r, want *rack.Rack) {
	t.Helper()
	if state(r) != state(want) {
		t.Errorf("%s: the rack has not what it must have", what)
	}
}

// told is a geo, a row and a number of bytes in words.
func told(g api.Geo, row, n int) string {
	return strconv.Itoa(g.Drives) + " drives, Parity " + strconv.Itoa(g.Parity) + ", Tail " + strconv.Itoa(g.Tail) + ", row " + strconv.Itoa(row) + ", " + strconv.Itoa(n) + " bytes"
}

// reads holds Read to a text.
func reads(t *testing.T, r *rack.Rack, g api.Geo, row int, stamp uint64, want string) {
	t.Helper()
	if s, e := stripe.Read(r, g, row, stamp); s != want || e != api.OK {
		t.Errorf("%s: Read: %q %v, not %q", told(g, row, len(want)), s, e, want)
	}
}

// misses holds Missing to drives.
func misses(t *testing.T, r *rack.Rack, g api.Geo, row int, stamp uint64, want ...int) {
	t.Helper()
	if l, e := stripe.Missing(r, g, row, stamp); !slices.Equal(l, want) || e != api.OK {
		t.Errorf("%s: Missing: %v %v, not %v", told(g, row, 0), l, e, want)
	}
}

// rebuilds holds Rebuild to a number.
func rebuilds(t *testing.T, r *rack.Rack, g api.Geo, row int, stamp uint64, want int) {
	t.Helper()
	if n, e := stripe.Rebuild(r, g, row, stamp); n != want || e != api.OK {
		t.Errorf("%s: Rebuild: %d %v, not %d", told(g, row, 0), n, e, want)
	}
}

// fails holds Read, Missing and Rebuild to an error, beside which there is nothing, and by which nothing is done.
func fails(t *testing.T, r *rack.Rack, g api.Geo, row int, stamp uint64, want api.Errno) {
	t.Helper()
	before := state(r)
	if s, e := stripe.Read(r, g, row, stamp); s != "" || e != want {
		t.Errorf("%s: Read: %q %v, not %v", told(g, row, 0), s, e, want)
	}
	if l, e := stripe.Missing(r, g, row, stamp); len(l) != 0 || e != want {
		t.Errorf("%s: Missing: %v %v, not %v", told(g, row, 0), l, e, want)
	}
	if n, e := stripe.Rebuild(r, g, row, stamp); n != 0 || e != want {
		t.Errorf("%s: Rebuild: %d %v, not %v", told(g, row, 0), n, e, want)
	}
	if state(r) != before {
		t.Errorf("%s: something was done beside the error %v", told(g, row, 0), want)
	}
}

// dirty holds Dirty to an answer.
func dirty(t *testing.T, r *rack.Rack, g api.Geo, row int, want bool) {
	t.Helper()
	if is, e := stripe.Dirty(r, g, row); is != want || e != api.OK {
		t.Errorf("%s: Dirty: %v %v, not %v", told(g, row, 0), is, e, want)
	}
}

// parts are all of a text, as layer 6 has them.
func parts(t *testing.T, g api.Geo, text string) []string {
	t.Helper()
	l, e := code.Spread(g.Drives-g.Parity, g.Parity, text)
	if e != api.OK {
		t.Fatalf("code.Spread: %v", e)
	}
	return l
}

// shardOf is the shard of a drive.
func shardOf(t *testing.T, g api.Geo, d int, stamp uint64, text string) api.Shard {
	t.Helper()
	return api.Shard{Stamp: stamp, Index: d, Total: len(text), Text: parts(t, g, text)[d]}
}

// lay writes a stripe by layers 6 and 8.
func lay(t *testing.T, r *rack.Rack, g api.Geo, row int, stamp uint64, text string) {
	t.Helper()
	for d, part := range parts(t, g, text) {
		is(t, "shard.Write", shard.Write(r, d, firstOf(g.Tail, row), api.Shard{Stamp: stamp, Index: d, Total: len(text), Text: part}), api.OK)
	}
}

// wantMay is whether a geo may be.
func wantMay(g api.Geo) bool {
	switch {
	case g.Drives < 1, g.Drives > 12, g.Parity < 0, g.Parity > g.Drives-1, g.Tail < 2, g.Tail > 512, g.Sectors > 4096:
		return false
	}
	return g.Sectors >= 2+2*g.Tail+8
}

// wantRows is how many rows a geo has that may be: as many as end ahead of the drive's end.
func wantRows(g api.Geo) int {
	n := 0
	for wantMay(g) && firstOf(g.Tail, n+1) <= g.Sectors {
		n++
	}
	return n
}

// checkGeo holds May, Rows and Room to what they have to tell.
func checkGeo(t *testing.T, g api.Geo) {
	t.Helper()
	may, rows, room := wantMay(g), wantRows(g), 0
	if may {
		room = (g.Drives - g.Parity) * 448
	}
	if stripe.May(g) != may || stripe.Rows(g) != rows || stripe.Room(g) != room {
		t.Errorf("%+v: %v %d %d, not %v %d %d", g, stripe.May(g), stripe.Rows(g), stripe.Room(g), may, rows, room)
	}
}

// P9.1: geos that may be, how many rows they have, and their room.
func TestMay(t *testing.T) {
	for _, x := range []struct {
		g          api.Geo
		rows, room int
	}{
		{api.Geo{Drives: 3, Parity: 1, Sectors: 24, Tail: 2}, 2, 896},
		{api.Geo{Drives: 1, Parity: 0, Sectors: 14, Tail: 2}, 1, 448},
		{api.Geo{Drives: 1, Parity: 0, Sectors: 21, Tail: 2}, 1, 448},
		{api.Geo{Drives: 1, Parity: 0, Sectors: 22, Tail: 2}, 2, 448},
		{api.Geo{Drives: 2, Parity: 1, Sectors: 16, Tail: 3}, 1, 448},
		{api.Geo{Drives: 2, Parity: 0, Sectors: 4096, Tail: 2}, 511, 896},
		{api.Geo{Drives: 12, Parity: 0, Sectors: 4096, Tail: 512}, 383, 5376},
		{api.Geo{Drives: 12, Parity: 11, Sectors: 1034, Tail: 512}, 1, 448},
		{api.Geo{Drives: 12, Parity: 4, Sectors: 1041, Tail: 512}, 1, 3584},
		{api.Geo{Drives: 5, Parity: 2, Sectors: 1000, Tail: 96}, 100, 1344},
	} {
		if !stripe.May(x.g) || stripe.Rows(x.g) != x.rows || stripe.Room(x.g) != x.room {
			t.Errorf("%+v: %v %d %d, not %d %d", x.g, stripe.May(x.g), stripe.Rows(x.g), stripe.Room(x.g), x.rows, x.room)
		}
		checkGeo(t, x.g)
	}
}

// P9.1: geos that may not be, by one number alone: no rows, no room.
func TestMayNot(t *testing.T) {
	good := api.Geo{Drives: 3, Parity: 1, Sectors: 24, Tail: 2}
	wrong := func(change func(g *api.Geo)) {
		t.Helper()
		g := good
		change(&g)
		if stripe.May(g) || stripe.Rows(g) != 0 || stripe.Room(g) != 0 {
			t.Errorf("%+v: %v %d %d", g, stripe.May(g), stripe.Rows(g), stripe.Room(g))
		}
	}
	for _, x := range append([]int{-2, -1, 0, 1, 13, 14, 64}, far...) {
		wrong(func(g *api.Geo) { g.Drives = x })
	}
	for _, x := range append([]int{-2, -1, 3, 4, 12}, far...) {
		wrong(func(g *api.Geo) { g.Parity = x })
	}
	for _, x := range append([]int{-2, -1, 0, 1, 513, 514, 1024}, far...) {
		wrong(func(g *api.Geo) { g.Tail = x })
		wrong(func(g *api.Geo) { g.Tail, g.Sectors = x, 4096 })
	}
	for _, x := range append([]int{-2, -1, 0, 1, 6, 8, 12, 13, 4097, 4098, 8192}, far...) {
		wrong(func(g *api.Geo) { g.Sectors = x })
	}
	wrong(func(g *api.Geo) { *g = api.Geo{} })
	wrong(func(g *api.Geo) { g.Drives, g.Parity = 0, -1 })
	wrong(func(g *api.Geo) { g.Drives, g.Parity = 1, 1 })
	wrong(func(g *api.Geo) { g.Drives, g.Parity = 12, 12 })
	wrong(func(g *api.Geo) { g.Tail = 8 }) // room for most of a row
	wrong(func(g *api.Geo) { g.Tail, g.Sectors = 512, 1033 })
}

// P9.1: all numbers about the bounds, together.
func TestGeos(t *testing.T) {
	some := append([]int{-1, 0, 1}, far...)
	for drives := -1; drives <= 14; drives++ {
		for parity := -1; parity <= 14; parity++ {
			for _, tail := range append([]int{-1, 0, 1, 2, 3, 511, 512, 513}, far...) {
				for _, sectors := range append([]int{firstOf(tail, 0), firstOf(tail, 1) - 1, firstOf(tail, 1), firstOf(tail, 2) - 1, firstOf(tail, 2), 4095, 4096, 4097}, some...) {
					checkGeo(t, api.Geo{Drives: drives, Parity: parity, Sectors: sectors, Tail: tail})
				}
			}
		}
	}
	for _, x := range far {
		checkGeo(t, api.Geo{Drives: x, Parity: 0, Sectors: 100, Tail: 2})
		checkGeo(t, api.Geo{Drives: x, Parity: x, Sectors: 100, Tail: 2})
		checkGeo(t, api.Geo{Drives: x, Parity: x - 1, Sectors: x, Tail: x})
		checkGeo(t, api.Geo{Drives: 3, Parity: x, Sectors: 100, Tail: 2})
	}
	for sectors := -20; sectors <= 4200; sectors++ {
		for _, tail := range []int{2, 3, 96, 512} {
			checkGeo(t, api.Geo{Drives: 2, Parity: 1, Sectors: sectors, Tail: tail})
		}
	}
}

// wantPlace is what goes ahead of all that looks at a drive, in its order.
func wantPlace(r *rack.Rack, g api.Geo, row int, stamp uint64) api.Errno {
	switch {
	case r.Drives() == 0:
		return api.ErrNil
	case !wantMay(g), g.Drives != r.Drives(), g.Sectors != r.Sectors():
		return api.ErrArg
	case row < 0, row >= wantRows(g):
		return api.ErrRange
	case stamp == 0, stamp > 1<<48:
		return api.ErrArg
	}
	return api.OK
}

// checkErrors holds each function to the error that goes ahead of all that looks at a drive, or to ErrLong and ErrDown behind it, where there is one.
func checkErrors(t *testing.T, r *rack.Rack, g api.Geo, row int, stamp uint64, text string, down bool) {
	t.Helper()
	then := func(e, next api.Errno, is bool) api.Errno {
		if e == api.OK && is {
			return next
		}
		return e
	}
	reading := then(wantPlace(r, g, row, stamp), api.ErrDown, down)
	if reading != api.OK {
		fails(t, r, g, row, stamp, reading)
	}
	writing := then(then(wantPlace(r, g, row, stamp), api.ErrLong, len(text) > (g.Drives-g.Parity)*448), api.ErrDown, down)
	before := state(r)
	if writing != api.OK {
		is(t, told(g, row, len(text))+": Write", stripe.Write(r, g, row, stamp, text), writing)
	}
	if e := then(wantPlace(r, g, row, 1), api.ErrDown, down); e != api.OK {
		is(t, told(g, row, 0)+": Clear", stripe.Clear(r, g, row), e)
		if dirty, f := stripe.Dirty(r, g, row); dirty || f != e {
			t.Errorf("%s: Dirty: %v %v, not %v", told(g, row, 0), dirty, f, e)
		}
	}
	if state(r) != before {
		t.Errorf("%s: something was done beside an error", told(g, row, 0))
	}
}

// P9.1 to P9.4: each error alone, and all that apply at once: the first one is told, and nothing is done.
func TestErrors(t *testing.T) {
	good := api.Geo{Drives: 3, Parity: 1, Sectors: 30, Tail: 2}
	with := func(change func(g *api.Geo)) api.Geo {
		g := good
		change(&g)
		return g
	}
	racks := []*rack.Rack{nil, new(rack.Rack), sized(t, 3, 30), sized(t, 2, 30), sized(t, 4, 30), sized(t, 3, 29), sized(t, 3, 31), sized(t, 1, 1)}
	wrong := []api.Geo{
		good, {},
		with(func(g *api.Geo) { g.Drives = 0 }), with(func(g *api.Geo) { g.Drives = 2 }), with(func(g *api.Geo) { g.Drives = 4 }),
		with(func(g *api.Geo) { g.Drives = -3 }), with(func(g *api.Geo) { g.Drives = 1 << 40 }),
		with(func(g *api.Geo) { g.Parity = -1 }), with(func(g *api.Geo) { g.Parity = 3 }), with(func(g *api.Geo) { g.Parity = math.MinInt }),
		with(func(g *api.Geo) { g.Tail = 1 }), with(func(g *api.Geo) { g.Tail = 11 }), with(func(g *api.Geo) { g.Tail = 513 }),
		with(func(g *api.Geo) { g.Sectors = 29 }), with(func(g *api.Geo) { g.Sectors = 31 }), with(func(g *api.Geo) { g.Sectors = -30 }),
	}
	for _, r := range racks {
		for _, standing := range []bool{false, true} {
			if r.Drives() > 0 && standing {
				is(t, "Cut", r.Cut(0), api.OK)
			}
			for _, g := range wrong {
				for _, row := range []int{0, 2, -1, 3, math.MinInt, math.MaxInt, 1 << 61} {
					for _, stamp := range []uint64{1, 1 << 48, 0, 1<<48 + 1, math.MaxUint64} {
						for _, n := range []int{0, 896, 897, 448*12 + 1} {
							checkErrors(t, r, g, row, stamp, some(n), standing)
						}
					}
				}
			}
		}
	}
}

// P9.1 to P9.4, R3: no rack goes ahead of all else.
func TestNil(t *testing.T) {
	var zero rack.Rack
	for _, r := range []*rack.Rack{nil, &zero, new(rack.Rack)} {
		for _, g := range append(geos(), api.Geo{}, api.Geo{Drives: -1}, api.Geo{Drives: math.MaxInt, Parity: math.MinInt, Sectors: math.MaxInt, Tail: math.MaxInt}) {
			for _, row := range append([]int{0, 1, -1}, far...) {
				fails(t, r, g, row, 1, api.ErrNil)
				fails(t, r, g, row, 0, api.ErrNil)
				is(t, "Write", stripe.Write(r, g, row, 1, ""), api.ErrNil)
				is(t, "Write", stripe.Write(r, g, row, 0, some(9999)), api.ErrNil)
				is(t, "Clear", stripe.Clear(r, g, row), api.ErrNil)
				if dirty, e := stripe.Dirty(r, g, row); dirty || e != api.ErrNil {
					t.Errorf("Dirty: %v %v", dirty, e)
				}
			}
		}
	}
}

// P9.1 to P9.4: rows that are not there, and those that are, of each geo; with the sectors behind the last one that are too few for a row.
func TestRows(t *testing.T) {
	for _, g := range geos() {
		for more := range 8 {
			g := g
			g.Sectors += more
			r := full(t, g)
			rows := wantRows(g)
			for _, row := range append([]int{-1, -2, rows, rows + 1}, far...) {
				checkErrors(t, r, g, row, 1, "", false)
			}
			for row := range rows {
				is(t, told(g, row, 1), stripe.Write(r, g, row, 1, "x"), api.OK)
				reads(t, r, g, row, 1, "x")
				misses(t, r, g, row, 1)
				rebuilds(t, r, g, row, 1, 0)
				dirty(t, r, g, row, true)
				is(t, told(g, row, 1), stripe.Clear(r, g, row), api.OK)
				dirty(t, r, g, row, false)
			}
		}
	}
}

// P9.2, P9.3: stamps that may be are written, read and told apart.
func TestStamps(t *testing.T) {
	g := geo(3, 1, 2, 2)
	stamps := []uint64{1, 2, 255, 256, 1 << 32, 1<<48 - 1, 1 << 48}
	for _, stamp := range stamps {
		r := fresh(t, g)
		is(t, "Write", stripe.Write(r, g, 1, stamp, "text"), api.OK)
		for _, other := range stamps {
			if other == stamp {
				reads(t, r, g, 1, stamp, "text")
				misses(t, r, g, 1, stamp)
				continue
			}
			fails(t, r, g, 1, other, api.ErrLost)
		}
		for _, none := range []uint64{0, 1<<48 + 1, stamp | 1<<63, math.MaxUint64} {
			fails(t, r, g, 1, none, api.ErrArg)
		}
	}
}

// P9.2: a text of just the room, and of a byte more: nothing is written then, and nothing taken of what a cut allows.
func TestLong(t *testing.T) {
	for _, g := range geos() {
		room := (g.Drives - g.Parity) * 448
		r := full(t, g)
		is(t, told(g, 0, room), stripe.Write(r, g, 0, 9, some(room)), api.OK)
		reads(t, r, g, 0, 9, some(room))
		before := state(r)
		for _, n := range []int{room + 1, room + 2, 2*room + 1, 1 << 16} {
			is(t, told(g, 0, n), stripe.Write(r, g, 0, 9, some(n)), api.ErrLong)
		}
		is(t, "Cut", r.Cut(0), api.OK)
		is(t, told(g, 0, room+1), stripe.Write(r, g, 0, 9, some(room+1)), api.ErrLong)
		is(t, told(g, 0, room), stripe.Write(r, g, 0, 9, some(room)), api.ErrDown)
		is(t, "Lift", r.Lift(), api.OK)
		if state(r) != before {
			t.Errorf("%s: something was written", told(g, 0, room+1))
		}
	}
}

// P9.2: a stripe's bytes, sector by sector: three drives, of which one may be lost.
func TestBytes(t *testing.T) {
	g := api.Geo{Drives: 3, Parity: 1, Sectors: 24, Tail: 2}
	r := fresh(t, g)
	is(t, "Write", stripe.Write(r, g, 1, 7, "abc"), api.OK)
	cauchy, _ := matrix.Cauchy(1, 2)
	third, _ := field.Sum(cauchy[0], "ab", "c\x00")
	for d, text := range []string{"ab", "c\x00", third} {
		x, e := shard.Read(r, d, 14) // 2 slots, 2 tails of 2, a row of 8
		if want := (api.Shard{Stamp: 7, Index: d, Total: 3, Text: text}); x != want || e != api.OK {
			t.Errorf("%d: %+v %v, not %+v", d, x, e, want)
		}
		if s, e := r.Read(d, 15); s != text+strings.Repeat("\x00", 62) || e != api.OK {
			t.Errorf("%d: %q %v", d, s, e)
		}
		for s := range 24 {
			if b, _ := r.Read(d, s); s != 14 && s != 15 && strings.Trim(b, "\x00") != "" {
				t.Errorf("%d: the sector %d was touched: %q", d, s, b)
			}
		}
		if r.Writes(d) != 2 {
			t.Errorf("%d: %d writes", d, r.Writes(d))
		}
	}
}

// P9.2: on each drive the row's sectors have the shard, and no other one is touched, nor is any written but these; of each geo, row, and texts of each length.
func TestSectors(t *testing.T) {
	for _, g := range geos() {
		for row := range wantRows(g) {
			for _, n := range sizes(g) {
				r, want := full(t, g), full(t, g)
				lay(t, want, g, row, 5, some(n))
				is(t, told(g, row, n), stripe.Write(r, g, row, 5, some(n)), api.OK)
				same(t, told(g, row, n)+": Write", r, want)
				for d, part := range parts(t, g, some(n)) {
					x, e := shard.Read(r, d, firstOf(g.Tail, row))
					if y := (api.Shard{Stamp: 5, Index: d, Total: n, Text: part}); x != y || e != api.OK {
						t.Errorf("%s: the drive %d has %+v %v", told(g, row, n), d, x, e)
					}
				}
				reads(t, r, g, row, 5, some(n))
				misses(t, r, g, row, 5)
				rebuilds(t, r, g, row, 5, 0)
				dirty(t, r, g, row, true)
				same(t, told(g, row, n)+": reading", r, want)
			}
		}
	}
}

// P9.2: texts of each length are read as they were written, whatever bytes they have.
func TestTexts(t *testing.T) {
	c := chance(3)
	for _, g := range []api.Geo{geo(1, 0, 2, 1), geo(3, 1, 2, 1), geo(5, 2, 2, 1)} {
		r := full(t, g)
		for n := range (g.Drives-g.Parity)*448 + 1 {
			text := c.text(n)
			is(t, told(g, 0, n), stripe.Write(r, g, 0, 1, text), api.OK)
			reads(t, r, g, 0, 1, text)
		}
	}
	for _, g := range geos() {
		r := full(t, g)
		for _, n := range sizes(g) {
			for _, text := range []string{strings.Repeat("\x00", n), strings.Repeat("\xff", n), c.text(n/2) + strings.Repeat("\x00", n-n/2)} {
				is(t, told(g, 0, n), stripe.Write(r, g, 0, 1, text), api.OK)
				reads(t, r, g, 0, 1, text)
				if g.Parity > 0 {
					is(t, "Wipe", r.Wipe(c.below(g.Drives)), api.OK)
					reads(t, r, g, 0, 1, text)
				}
			}
		}
	}
}

// loss is a way in which a drive comes to have no right shard; may tells of which shards, where least is the first drive that has a right one.
type loss struct {
	name string
	may  func(k, least int, x api.Shard) bool
	do   func(r *rack.Rack, at, k int, x api.Shard)
}

// losses are all of them.
func losses() []loss {
	always := func(int, int, api.Shard) bool { return true }
	texts := func(_, _ int, x api.Shard) bool { return x.Text != "" }
	as := func(change func(x *api.Shard, k int)) func(*rack.Rack, int, int, api.Shard) {
		return func(r *rack.Rack, at, k int, x api.Shard) {
			d := x.Index
			change(&x, k)
			if shard.Write(r, d, at, x) != api.OK {
				panic("a shard that may not be")
			}
		}
	}
	return []loss{
		{"wiped", always, func(r *rack.Rack, at, k int, x api.Shard) { r.Wipe(x.Index) }},
		{"cleared", always, func(r *rack.Rack, at, k int, x api.Shard) { shard.Clear(r, x.Index, at) }},
		{"head spoilt", always, func(r *rack.Rack, at, k int, x api.Shard) { r.Spoil(x.Index, at) }},
		{"head torn", always, func(r *rack.Rack, at, k int, x api.Shard) { r.Write(x.Index, at, "\x01") }},
		{"text spoilt", texts, func(r *rack.Rack, at, k int, x api.Shard) { r.Spoil(x.Index, at+1) }},
		{"end of text spoilt", texts, func(r *rack.Rack, at, k int, x api.Shard) { r.Spoil(x.Index, at+(len(x.Text)+63)/64) }},
		{"text torn", texts, func(r *rack.Rack, at, k int, x api.Shard) {
			s, _ := r.Read(x.Index, at+1)
			r.Write(x.Index, at+1, string([]byte{s[0] ^ 1})+s[1:])
		}},
		{"stamp above", always, as(func(x *api.Shard, k int) { x.Stamp++ })},
		{"stamp below", always, as(func(x *api.Shard, k int) { x.Stamp-- })},
		{"index above", func(_, _ int, x api.Shard) bool { return x.Index < 11 }, as(func(x *api.Shard, k int) { x.Index++ })},
		{"index below", func(_, _ int, x api.Shard) bool { return x.Index > 0 }, as(func(x *api.Shard, k int) { x.Index-- })},
		{"text longer", func(_, _ int, x api.Shard) bool { return len(x.Text) < 448 }, as(func(x *api.Shard, k int) { x.Text += "\x00" })},
		{"text shorter", texts, as(func(x *api.Shard, k int) { x.Text = x.Text[:len(x.Text)-1] })},
		{"no text", texts, as(func(x *api.Shard, k int) { x.Text = "" })},
		{"total too great for the text", func(k, _ int, x api.Shard) bool { return x.Total+k <= 12*448 }, as(func(x *api.Shard, k int) { x.Total += k })},
		{"total too small for the text", func(k, _ int, x api.Shard) bool { return x.Total >= k }, as(func(x *api.Shard, k int) { x.Total -= k })},
		{"another total of texts as long", func(k, least int, x api.Shard) bool { return x.Index > least && k > 1 && x.Total > 0 }, as(func(x *api.Shard, k int) {
			if x.Total%k == 1 { // one less would take parts that are a byte less
				x.Total++
			} else {
				x.Total--
			}
		})},
	}
}

// picked is a way in which a drive is lost.
type picked struct {
	d   int
	way loss
}

// pickWays picks for each of the lost drives a way that may be.
func pickWays(g api.Geo, shards []api.Shard, lost []int, pick func(n int) int) (l []picked, names string) {
	least, k := 0, g.Drives-g.Parity
	for slices.Contains(lost, least) {
		least++
	}
	for _, d := range lost {
		ways := slices.DeleteFunc(losses(), func(x loss) bool { return !x.may(k, least, shards[d]) })
		way := ways[pick(len(ways))]
		l = append(l, picked{d, way})
		names += ", " + strconv.Itoa(d) + " " + way.name
	}
	return l, names
}

// checkLost lets some drives be without a right shard, and holds all that reads, and Rebuild, to what comes of it.
func checkLost(t *testing.T, g api.Geo, row, n int, lost []int, pick func(n int) int) {
	t.Helper()
	text, at, k := some(n), firstOf(g.Tail, row), g.Drives-g.Parity
	var shards []api.Shard
	for d, part := range parts(t, g, text) {
		shards = append(shards, api.Shard{Stamp: 5, Index: d, Total: n, Text: part})
	}
	ways, names := pickWays(g, shards, lost, pick)
	r, want := fresh(t, g), fresh(t, g)
	for _, x := range []*rack.Rack{r, want} {
		lay(t, x, g, row, 5, text)
		for _, l := range ways {
			l.way.do(x, at, k, shards[l.d])
		}
	}
	if len(lost) > g.Parity {
		fails(t, r, g, row, 5, api.ErrLost)
	} else {
		reads(t, r, g, row, 5, text)
		misses(t, r, g, row, 5, lost...)
		same(t, told(g, row, n)+names+": reading", r, want)
		rebuilds(t, r, g, row, 5, len(lost))
		for _, d := range lost {
			is(t, "shard.Write", shard.Write(want, d, at, shards[d]), api.OK)
		}
		same(t, told(g, row, n)+names+": Rebuild", r, want)
		reads(t, r, g, row, 5, text)
		misses(t, r, g, row, 5)
		rebuilds(t, r, g, row, 5, 0)
		same(t, told(g, row, n)+names+": the second Rebuild", r, want)
	}
	if t.Failed() {
		t.Fatalf("%s%s", told(g, row, n), names)
	}
}

// P9.2, P9.3: each way to lose a shard, of each drive alone.
func TestLosses(t *testing.T) {
	for _, g := range geos() {
		l := sizes(g)
		for d := range g.Drives {
			for way := range losses() {
				for _, n := range []int{0, l[(d+way)%len(l)], l[len(l)-1]} {
					checkLost(t, g, wantRows(g)-1, n, []int{d}, func(n int) int { return way % n })
				}
			}
		}
	}
}

// P9.2, P9.3: whichever drives have no right shard, some in this way, some in that: all of few drives' choices.
func TestLostDrives(t *testing.T) {
	c := chance(5)
	for _, g := range geos() {
		for choice := range 1 << min(g.Drives, 8) {
			var lost []int
			for d := range g.Drives {
				if choice>>d&1 == 1 || d >= 8 && c.below(4) == 0 {
					lost = append(lost, d)
				}
			}
			l := sizes(g)
			for range 3 {
				checkLost(t, g, c.below(wantRows(g)), l[c.below(len(l))], lost, c.below)
			}
		}
	}
}

// P9.2, P9.3: of twelve drives just as many as may be lost are, and one more.
func TestLostOfTwelve(t *testing.T) {
	c := chance(6)
	for parity := range 12 {
		g := geo(12, parity, 2, 1)
		for range 30 {
			order := []int{0, 1, 2, 3, 4, 5, 6, 7, 8, 9, 10, 11}
			for i := range order {
				j := c.below(i + 1)
				order[i], order[j] = order[j], order[i]
			}
			for _, many := range []int{parity, parity + 1} {
				lost := slices.Clone(order[:many])
				slices.Sort(lost)
				checkLost(t, g, 0, c.below((12-parity)*448+1), lost, c.below)
			}
		}
	}
}

// P9.2: nothing was written: too few have a right shard.
func TestNothingThere(t *testing.T) {
	for _, g := range geos() {
		for _, r := range []*rack.Rack{fresh(t, g), full(t, g)} {
			for row := range wantRows(g) {
				fails(t, r, g, row, 1, api.ErrLost)
			}
		}
	}
}

// P9.2: which Total counts is what the first right shard tells: of the drive with the least number, whose Text is as long as its Total wants it.
func TestFirstTotal(t *testing.T) {
	g := geo(4, 2, 2, 1)
	at := firstOf(2, 0)
	text, other := some(99), strings.Repeat("o", 100) // both take parts of 50 bytes
	set := func(r *rack.Rack, d int, text string) {
		t.Helper()
		is(t, "shard.Write", shard.Write(r, d, at, shardOf(t, g, d, 5, text)), api.OK)
	}
	for choice := range 16 {
		r, now := fresh(t, g), [4]string{}
		for d := range 4 {
			now[d] = text
			if choice>>d&1 == 1 {
				now[d] = other
			}
			set(r, d, now[d])
		}
		var missing []int
		for d := range 4 {
			if now[d] != now[0] {
				missing = append(missing, d)
			}
		}
		if len(missing) > 2 {
			fails(t, r, g, 0, 5, api.ErrLost)
		} else {
			reads(t, r, g, 0, 5, now[0])
			misses(t, r, g, 0, 5, missing...)
		}
		x := shardOf(t, g, 0, 5, now[0])
		x.Text += "x" // it is not right any more, and so its Total counts no more
		is(t, "shard.Write", shard.Write(r, 0, at, x), api.OK)
		missing = []int{0}
		for d := 1; d < 4; d++ {
			if now[d] != now[1] {
				missing = append(missing, d)
			}
		}
		if len(missing) > 2 {
			fails(t, r, g, 0, 5, api.ErrLost)
			continue
		}
		reads(t, r, g, 0, 5, now[1])
		misses(t, r, g, 0, 5, missing...)
		rebuilds(t, r, g, 0, 5, len(missing))
		want := fresh(t, g)
		lay(t, want, g, 0, 5, now[1])
		for d := range 4 {
			x, _ := shard.Read(r, d, at)
			if y, _ := shard.Read(want, d, at); x != y {
				t.Errorf("%d: the drive %d has %+v, not %+v", choice, d, x, y)
			}
		}
	}
}

// P9.2, P9.3: a Text that is another one, but as long, is right: the right ones with the least numbers tell the text, and the lost ones are made of that.
func TestOtherTexts(t *testing.T) {
	g := geo(4, 2, 2, 1)
	at := firstOf(2, 0)
	c := chance(7)
	for lost := range 16 {
		r := fresh(t, g)
		var l []api.Part
		var missing []int
		for d := range 4 {
			x := api.Shard{Stamp: 5, Index: d, Total: 99, Text: c.text(50)} // which are parts of no text, but for any two
			if lost>>d&1 == 1 {
				missing = append(missing, d)
				continue
			}
			l = append(l, api.Part{Index: d, Text: x.Text})
			is(t, "shard.Write", shard.Write(r, d, at, x), api.OK)
		}
		if len(l) < 2 {
			fails(t, r, g, 0, 5, api.ErrLost)
			continue
		}
		text, _ := code.Gather(2, 2, 99, l...)
		reads(t, r, g, 0, 5, text)
		misses(t, r, g, 0, 5, missing...)
		rebuilds(t, r, g, 0, 5, len(missing))
		for _, d := range missing {
			x, e := shard.Read(r, d, at)
			if want := shardOf(t, g, d, 5, text); x != want || e != api.OK {
				t.Errorf("the drive %d has %+v %v, not %+v", d, x, e, want)
			}
		}
		reads(t, r, g, 0, 5, text)
	}
}

// choices are all ways to choose at most so many of the drives.
func choices(drives, most int) (l [][]int) {
	for choice := range 1 << drives {
		var c []int
		for d := range drives {
			if choice>>d&1 == 1 {
				c = append(c, d)
			}
		}
		if len(c) <= most {
			l = append(l, c)
		}
	}
	return l
}

// rebuildsAs wipes drives, and holds Read to a text and Rebuild to that text's shards, which it gives just to these drives.
func rebuildsAs(t *testing.T, r *rack.Rack, g api.Geo, row int, text string, lost []int) {
	t.Helper()
	for _, d := range lost {
		is(t, "Wipe", r.Wipe(d), api.OK)
	}
	var was []string
	for d := range g.Drives {
		was = append(was, r.All(d))
	}
	reads(t, r, g, row, 5, text)
	misses(t, r, g, row, 5, lost...)
	rebuilds(t, r, g, row, 5, len(lost))
	for d := range g.Drives {
		if !slices.Contains(lost, d) {
			if r.All(d) != was[d] {
				t.Errorf("%s, of %v: the drive %d has its shard, and is written", told(g, row, len(text)), lost, d)
			}
			continue
		}
		x, e := shard.Read(r, d, firstOf(g.Tail, row))
		if want := shardOf(t, g, d, 5, text); x != want || e != api.OK {
			t.Errorf("%s, of %v: the drive %d has %+v %v, not %+v", told(g, row, len(text)), lost, d, x, e, want)
		}
	}
	reads(t, r, g, row, 5, text)
	misses(t, r, g, row, 5)
	rebuilds(t, r, g, row, 5, 0)
}

// P9.3: where the right shards have other bytes than 0 behind the text, be it in one part, in several, or in all, it is not these that a lost shard is made of, but the text.
func TestBehindTheText(t *testing.T) {
	for _, g := range []api.Geo{geo(2, 1, 2, 1), geo(3, 1, 2, 2), geo(4, 2, 3, 1), geo(5, 1, 2, 1), geo(6, 3, 2, 2)} {
		k := g.Drives - g.Parity
		for _, n := range []int{1, 2, k - 1, k + 1, 2*k - 1, 64*k + 1, 448*k - k + 1, 448*k - 1, 448 * k} {
			if n < 1 || n > 448*k {
				continue
			}
			text := some(n)
			behind := strings.Repeat("x", (n+k-1)/k*k-n)
			for _, lost := range choices(g.Drives, g.Parity) {
				r := fresh(t, g)
				for d, part := range parts(t, g, text+behind) {
					x := api.Shard{Stamp: 5, Index: d, Total: n, Text: part}
					is(t, "shard.Write", shard.Write(r, d, firstOf(g.Tail, 0), x), api.OK)
				}
				rebuildsAs(t, r, g, 0, text, lost)
			}
		}
	}
}

// P9.3: a stripe over another one of the same stamp and length, cut behind any of its shards: a lost shard is a part of the text that the right ones with the least numbers tell.
func TestRebuildOverAnotherCut(t *testing.T) {
	for _, g := range []api.Geo{geo(3, 1, 2, 1), geo(4, 2, 2, 1), geo(5, 3, 2, 1), geo(5, 1, 2, 1)} {
		k := g.Drives - g.Parity
		for _, n := range []int{1, k, k + 1, 64*k + 1} {
			old, now := parts(t, g, some(n)), parts(t, g, strings.Repeat("n", n))
			each := (len(now[0])+63)/64 + 1
			for whole := range g.Drives + 1 {
				for _, lost := range choices(g.Drives, g.Parity) {
					r := fresh(t, g)
					is(t, "Write", stripe.Write(r, g, 0, 5, some(n)), api.OK)
					is(t, "Cut", r.Cut(whole*each), api.OK)
					stripe.Write(r, g, 0, 5, strings.Repeat("n", n))
					is(t, "Lift", r.Lift(), api.OK)
					var l []api.Part
					for d := range g.Drives {
						part := api.Part{Index: d, Text: old[d]}
						if d < whole {
							part.Text = now[d]
						}
						if !slices.Contains(lost, d) {
							l = append(l, part)
						}
					}
					text, e := code.Gather(k, g.Parity, n, l...)
					is(t, "code.Gather", e, api.OK)
					rebuildsAs(t, r, g, 0, text, lost)
				}
			}
		}
	}
}

// P9.3: the stripe of one byte over another one, of which just the first drive's shard was written: what is told of the drive 1 then, byte by byte.
func TestRebuildOverAnotherByte(t *testing.T) {
	g := geo(3, 1, 2, 2)
	r := fresh(t, g)
	is(t, "Write", stripe.Write(r, g, 0, 5, "a"), api.OK)
	is(t, "Cut", r.Cut(2), api.OK)
	is(t, "Write", stripe.Write(r, g, 0, 5, "b"), api.ErrDown)
	is(t, "Lift", r.Lift(), api.OK)
	is(t, "Wipe", r.Wipe(1), api.OK)
	reads(t, r, g, 0, 5, "b")
	rebuilds(t, r, g, 0, 5, 1)
	x, e := shard.Read(r, 1, 6)
	if want := (api.Shard{Stamp: 5, Index: 1, Total: 1, Text: "\x00"}); x != want || e != api.OK {
		t.Errorf("the drive 1 has %+v %v, not %+v", x, e, want)
	}
}

// P9.2: drive by drive, by rising numbers, of each the Text and then the head: so many writes are done as a cut allows, then ErrDown is told.
func TestWriteCut(t *testing.T) {
	for _, g := range []api.Geo{geo(1, 0, 2, 1), geo(3, 1, 2, 2), geo(5, 4, 2, 1), geo(12, 4, 2, 1)} {
		for _, n := range []int{0, 1, 100, (g.Drives - g.Parity) * 448} {
			part := len(parts(t, g, some(n))[0])
			each := (part+63)/64 + 1
			for allowed := range each*g.Drives + 2 {
				r, want := fresh(t, g), fresh(t, g)
				for d := range min(allowed/each, g.Drives) {
					is(t, "shard.Write", shard.Write(want, d, firstOf(g.Tail, 0), shardOf(t, g, d, 5, some(n))), api.OK)
				}
				if d := allowed / each; d < g.Drives {
					is(t, "Cut", want.Cut(allowed%each), api.OK)
					is(t, "shard.Write", shard.Write(want, d, firstOf(g.Tail, 0), shardOf(t, g, d, 5, some(n))), api.ErrDown)
					is(t, "Lift", want.Lift(), api.OK)
				}
				is(t, "Cut", r.Cut(allowed), api.OK)
				e := stripe.Write(r, g, 0, 5, some(n))
				is(t, "Lift", r.Lift(), api.OK)
				if done := allowed >= each*g.Drives; done != (e == api.OK) || !done && e != api.ErrDown {
					t.Errorf("%s, Cut(%d): %v", told(g, 0, n), allowed, e)
				}
				same(t, told(g, 0, n)+", cut behind "+strconv.Itoa(allowed), r, want)
				if whole := min(allowed/each, g.Drives); whole < g.Drives-g.Parity {
					fails(t, r, g, 0, 5, api.ErrLost)
				} else {
					reads(t, r, g, 0, 5, some(n))
				}
			}
		}
	}
}

// P9.3: a Rebuild that is cut: ErrDown, and 0; what it has written stays, and the next one goes on.
func TestRebuildCut(t *testing.T) {
	g := geo(5, 3, 2, 1)
	at := firstOf(2, 0)
	for _, n := range []int{0, 1, 100, 896} {
		for _, lost := range [][]int{{0}, {4}, {0, 1, 2}, {1, 3, 4}, {0, 2, 4}} {
			each := (len(parts(t, g, some(n))[0])+63)/64 + 1
			for allowed := range each*len(lost) + 1 {
				r, want := fresh(t, g), fresh(t, g)
				lay(t, r, g, 0, 5, some(n))
				lay(t, want, g, 0, 5, some(n))
				for _, d := range lost {
					r.Wipe(d)
					want.Wipe(d)
				}
				is(t, "Cut", want.Cut(allowed), api.OK)
				for _, d := range lost {
					if shard.Write(want, d, at, shardOf(t, g, d, 5, some(n))) != api.OK {
						break
					}
				}
				is(t, "Lift", want.Lift(), api.OK)
				is(t, "Cut", r.Cut(allowed), api.OK)
				made, e := stripe.Rebuild(r, g, 0, 5)
				is(t, "Lift", r.Lift(), api.OK)
				if allowed == each*len(lost) {
					if made != len(lost) || e != api.OK {
						t.Errorf("%s: %d %v", told(g, 0, n), made, e)
					}
				} else if made != 0 || e != api.ErrDown {
					t.Errorf("%s, Cut(%d): %d %v", told(g, 0, n), allowed, made, e)
				}
				same(t, told(g, 0, n)+", cut behind "+strconv.Itoa(allowed), r, want)
				left := lost[min(allowed/each, len(lost)):]
				reads(t, r, g, 0, 5, some(n))
				misses(t, r, g, 0, 5, left...)
				rebuilds(t, r, g, 0, 5, len(left))
				misses(t, r, g, 0, 5)
			}
		}
	}
}

// P9.4: behind Clear no shard is there; just the heads are written, each once, whatever stood there.
func TestClear(t *testing.T) {
	for _, g := range geos() {
		for row := range wantRows(g) {
			for _, what := range []string{"a stripe", "torn ones", "spoilt ones", "nothing"} {
				r, want := full(t, g), full(t, g)
				for _, x := range []*rack.Rack{r, want} {
					for d := range g.Drives {
						at := firstOf(g.Tail, row)
						switch what {
						case "a stripe":
							is(t, "shard.Write", shard.Write(x, d, at, shardOf(t, g, d, 5, some(100))), api.OK)
						case "spoilt ones":
							is(t, "Spoil", x.Spoil(d, at), api.OK)
							is(t, "Spoil", x.Spoil(d, at+7), api.OK)
						case "nothing":
							put(t, x, d, at, "")
						}
					}
				}
				for d := range g.Drives {
					put(t, want, d, firstOf(g.Tail, row), "")
				}
				is(t, told(g, row, 0)+": Clear", stripe.Clear(r, g, row), api.OK)
				same(t, told(g, row, 0)+": Clear of "+what, r, want)
				dirty(t, r, g, row, false)
				fails(t, r, g, row, 5, api.ErrLost)
			}
		}
	}
}

// P9.4: a Clear that is cut: the drives with the least numbers are cleared, as many as the cut allows.
func TestClearCut(t *testing.T) {
	for _, g := range geos() {
		for allowed := range g.Drives + 1 {
			r, want := full(t, g), full(t, g)
			lay(t, r, g, 0, 5, some(100))
			lay(t, want, g, 0, 5, some(100))
			for d := range allowed {
				put(t, want, d, firstOf(g.Tail, 0), "")
			}
			is(t, "Cut", r.Cut(allowed), api.OK)
			if allowed == g.Drives {
				is(t, "Clear", stripe.Clear(r, g, 0), api.OK)
			} else {
				is(t, "Clear", stripe.Clear(r, g, 0), api.ErrDown)
			}
			is(t, "Lift", r.Lift(), api.OK)
			same(t, told(g, 0, 100)+", cut behind "+strconv.Itoa(allowed), r, want)
			dirty(t, r, g, 0, allowed < g.Drives)
		}
	}
}

// P9.4: a row is dirty where one drive alone has anything in its head, be it what it may; what stands behind the head doesn't count.
func TestDirty(t *testing.T) {
	for _, g := range geos() {
		for row := range wantRows(g) {
			at := firstOf(g.Tail, row)
			for d := range g.Drives {
				for what, do := range map[string]func(r *rack.Rack){
					"a shard":              func(r *rack.Rack) { shard.Write(r, d, at, shardOf(t, g, d, 5, some(100))) },
					"a shard without text": func(r *rack.Rack) { shard.Write(r, d, at, api.Shard{Stamp: 1}) },
					"another's shard":      func(r *rack.Rack) { shard.Write(r, d, at, api.Shard{Stamp: 9, Index: 11, Total: 7, Text: "x"}) },
					"torn":                 func(r *rack.Rack) { r.Write(d, at, "\x01") },
					"torn at the end":      func(r *rack.Rack) { r.Write(d, at, strings.Repeat("\x00", 63)+"\x01") },
					"spoilt":               func(r *rack.Rack) { r.Spoil(d, at) },
					"a text of another sum": func(r *rack.Rack) {
						shard.Write(r, d, at, api.Shard{Stamp: 1, Total: 3, Text: "abc"})
						r.Write(d, at+1, "abd")
					},
					"a text that is spoilt": func(r *rack.Rack) {
						shard.Write(r, d, at, api.Shard{Stamp: 1, Total: 3, Text: "abc"})
						r.Spoil(d, at+1)
					},
				} {
					r := fresh(t, g)
					dirty(t, r, g, row, false)
					do(r)
					before := state(r)
					if is, e := stripe.Dirty(r, g, row); !is || e != api.OK {
						t.Errorf("%s, the drive %d, %s: %v %v", told(g, row, 0), d, what, is, e)
					}
					for other := range wantRows(g) {
						dirty(t, r, g, other, other == row)
					}
					if state(r) != before {
						t.Errorf("%s: Dirty does something", told(g, row, 0))
					}
					is(t, "Clear", stripe.Clear(r, g, row), api.OK)
					dirty(t, r, g, row, false)
				}
			}
		}
	}
}

// P9.4: bytes, and sectors that can't be read, that are not in a row's heads don't make it dirty.
func TestNotDirty(t *testing.T) {
	for _, g := range geos() {
		r := full(t, g)
		rows := wantRows(g)
		for d := range g.Drives {
			for s := range g.Sectors {
				if (s+d)%2 == 0 {
					is(t, "Spoil", r.Spoil(d, s), api.OK)
				}
			}
			for row := range rows {
				put(t, r, d, firstOf(g.Tail, row), "")
			}
		}
		for row := range rows {
			dirty(t, r, g, row, false)
		}
	}
}

// P9.2 to P9.4: rows do not touch each other, nor do racks.
func TestManyRows(t *testing.T) {
	c := chance(9)
	for _, g := range []api.Geo{geo(1, 0, 2, 5), geo(3, 1, 2, 5), geo(4, 2, 3, 5), geo(12, 4, 2, 3)} {
		r, other := full(t, g), fresh(t, g)
		rows := wantRows(g)
		texts := make([]string, rows)
		for row := range rows {
			texts[row] = c.text(c.below((g.Drives-g.Parity)*448 + 1))
			is(t, "Write", stripe.Write(r, g, row, uint64(1+row), texts[row]), api.OK)
		}
		for row := range rows {
			reads(t, r, g, row, uint64(1+row), texts[row])
			fails(t, r, g, row, uint64(2+row), api.ErrLost)
			dirty(t, other, g, row, false)
			fails(t, other, g, row, uint64(1+row), api.ErrLost)
		}
		is(t, "Clear", stripe.Clear(r, g, 1), api.OK)
		is(t, "Write", stripe.Write(r, g, 2, 77, "new"), api.OK)
		for d := range g.Parity {
			is(t, "Wipe", r.Wipe(g.Drives-1-d), api.OK)
		}
		rebuilds(t, r, g, 0, 1, g.Parity)
		for row := range rows {
			switch row {
			case 1:
				fails(t, r, g, 1, 2, api.ErrLost)
				dirty(t, r, g, 1, false)
			case 2:
				fails(t, r, g, 2, 3, api.ErrLost)
				reads(t, r, g, 2, 77, "new")
			default:
				reads(t, r, g, row, uint64(1+row), texts[row])
			}
		}
		misses(t, r, g, 0, 1)
	}
}

// P9.2: a stripe over another one, of another length or not: it is the new one that is read, by its stamp, and the old one is not there any more.
func TestOverAnother(t *testing.T) {
	for _, g := range []api.Geo{geo(3, 1, 2, 1), geo(5, 3, 2, 1)} {
		for _, a := range sizes(g) {
			for _, b := range sizes(g) {
				r := fresh(t, g)
				is(t, "Write", stripe.Write(r, g, 0, 5, some(a)), api.OK)
				is(t, "Write", stripe.Write(r, g, 0, 6, strings.Repeat("n", b)), api.OK)
				reads(t, r, g, 0, 6, strings.Repeat("n", b))
				fails(t, r, g, 0, 5, api.ErrLost)
				is(t, "Write", stripe.Write(r, g, 0, 6, some(a)), api.OK)
				reads(t, r, g, 0, 6, some(a))
			}
		}
	}
}

// P9.2: where a stripe over another one is cut, each of them is read as long as enough drives have it.
func TestOverAnotherCut(t *testing.T) {
	g := geo(5, 3, 2, 1)
	old, now := some(600), strings.Repeat("n", 500)
	each := (250+63)/64 + 1
	for allowed := range each*5 + 1 {
		r := fresh(t, g)
		is(t, "Write", stripe.Write(r, g, 0, 5, old), api.OK)
		is(t, "Cut", r.Cut(allowed), api.OK)
		stripe.Write(r, g, 0, 6, now)
		is(t, "Lift", r.Lift(), api.OK)
		if (allowed+each-1)/each <= 3 {
			reads(t, r, g, 0, 5, old)
		} else {
			fails(t, r, g, 0, 5, api.ErrLost)
		}
		if allowed/each >= 2 {
			reads(t, r, g, 0, 6, now)
		} else {
			fails(t, r, g, 0, 6, api.ErrLost)
		}
	}
}

// P9.5: what was written is read, whichever drives are wiped or spoilt, as many as may be; it is rebuilt as it was, again and again.
func TestFollows(t *testing.T) {
	c := chance(10)
	for _, g := range geos() {
		for range 6 {
			row := c.below(wantRows(g))
			text := c.text(c.below((g.Drives-g.Parity)*448 + 1))
			r := fresh(t, g)
			is(t, "Write", stripe.Write(r, g, row, 5, text), api.OK)
			var was []string
			for d := range g.Drives {
				was = append(was, r.All(d))
			}
			for range 8 {
				lost := map[int]bool{}
				for len(lost) < g.Parity {
					lost[c.below(g.Drives)] = true
				}
				for d := range lost {
					if c.below(2) == 0 {
						is(t, "Wipe", r.Wipe(d), api.OK)
						continue
					}
					for s := range g.Sectors {
						if c.below(2) == 0 || s == firstOf(g.Tail, row) {
							is(t, "Spoil", r.Spoil(d, s), api.OK)
						}
					}
				}
				reads(t, r, g, row, 5, text)
				rebuilds(t, r, g, row, 5, len(lost))
				for d := range g.Drives {
					if r.All(d) != was[d] {
						t.Fatalf("%s: the drive %d is not as it was", told(g, row, len(text)), d)
					}
				}
			}
		}
	}
}

// R5: an answer is memory of its own, and stays as it was whatever is done then.
func TestAnswersStay(t *testing.T) {
	g := geo(4, 2, 2, 1)
	r := fresh(t, g)
	is(t, "Write", stripe.Write(r, g, 0, 5, some(500)), api.OK)
	is(t, "Wipe", r.Wipe(0), api.OK)
	is(t, "Wipe", r.Wipe(3), api.OK)
	a, _ := stripe.Read(r, g, 0, 5)
	b, _ := stripe.Read(r, g, 0, 5)
	if unsafe.StringData(a) == unsafe.StringData(b) {
		t.Error("two texts share memory")
	}
	l, _ := stripe.Missing(r, g, 0, 5)
	m, _ := stripe.Missing(r, g, 0, 5)
	l[0], l[1] = 7, 7
	l = append(l, 7)
	if !slices.Equal(m, []int{0, 3}) || len(l) != 3 {
		t.Errorf("two lists share memory: %v", m)
	}
	misses(t, r, g, 0, 5, 0, 3)
	is(t, "Write", stripe.Write(r, g, 0, 5, strings.Repeat("n", 500)), api.OK)
	is(t, "Clear", stripe.Clear(r, g, 0), api.OK)
	if a != some(500) || b != a {
		t.Errorf("%q %q", a, b)
	}
}

// R5: a text that is handed in is neither changed nor kept.
func TestTextsAreNotKept(t *testing.T) {
	for _, g := range geos() {
		for _, n := range sizes(g)[1:] {
			l := []byte(some(n))
			r := fresh(t, g)
			is(t, "Write", stripe.Write(r, g, 0, 5, unsafe.String(unsafe.SliceData(l), n)), api.OK)
			if string(l) != some(n) {
				t.Errorf("%q", l)
			}
			clear(l)
			reads(t, r, g, 0, 5, some(n))
		}
	}
}

// R6: asked again, the same is answered; the same stripe has the same bytes.
func TestAgain(t *testing.T) {
	g := geo(5, 2, 2, 2)
	r, other := fresh(t, g), fresh(t, g)
	for _, x := range []*rack.Rack{r, other} {
		is(t, "Write", stripe.Write(x, g, 1, 5, some(1000)), api.OK)
		is(t, "Wipe", x.Wipe(1), api.OK)
		is(t, "Spoil", x.Spoil(3, firstOf(2, 1)), api.OK)
	}
	for range 3 {
		reads(t, r, g, 1, 5, some(1000))
		misses(t, r, g, 1, 5, 1, 3)
		dirty(t, r, g, 1, true)
		dirty(t, r, g, 0, false)
		fails(t, r, g, 1, 6, api.ErrLost)
	}
	same(t, "the same calls", r, other)
	rebuilds(t, r, g, 1, 5, 2)
	rebuilds(t, other, g, 1, 5, 2)
	same(t, "the same calls", r, other)
}

// found is what the drives of a row have, as the Words have it.
type found struct {
	parts   []api.Part
	missing []int
	total   int
	text    string
	e       api.Errno
}

// wantFound is that, by what layers 6 and 8 tell.
func wantFound(r *rack.Rack, g api.Geo, row int, stamp uint64) found {
	if e := wantPlace(r, g, row, stamp); e != api.OK {
		return found{e: e}
	}
	f := found{total: -1}
	k := g.Drives - g.Parity
	for d := range g.Drives {
		x, e := shard.Read(r, d, firstOf(g.Tail, row))
		if e == api.ErrDown {
			return found{e: e}
		}
		right := e == api.OK && x.Stamp == stamp && x.Index == d && len(x.Text) == (x.Total+k-1)/k
		if right && f.total == -1 {
			f.total = x.Total
		}
		if right && x.Total == f.total {
			f.parts = append(f.parts, api.Part{Index: d, Text: x.Text})
		} else {
			f.missing = append(f.missing, d)
		}
	}
	if len(f.parts) < k {
		return found{e: api.ErrLost}
	}
	f.text, f.e = code.Gather(k, g.Parity, f.total, f.parts...)
	return f
}

// wantWrite does what Write has to do: P9.2.
func wantWrite(t *testing.T, r *rack.Rack, g api.Geo, row int, stamp uint64, text string) api.Errno {
	if e := wantPlace(r, g, row, stamp); e != api.OK {
		return e
	}
	if len(text) > (g.Drives-g.Parity)*448 {
		return api.ErrLong
	}
	for d := range g.Drives {
		if e := shard.Write(r, d, firstOf(g.Tail, row), shardOf(t, g, d, stamp, text)); e != api.OK {
			return e
		}
	}
	return api.OK
}

// wantRebuild does what Rebuild has to do: P9.3.
func wantRebuild(t *testing.T, r *rack.Rack, g api.Geo, row int, stamp uint64) (int, api.Errno) {
	f := wantFound(r, g, row, stamp)
	for _, d := range f.missing {
		if e := shard.Write(r, d, firstOf(g.Tail, row), shardOf(t, g, d, stamp, f.text)); e != api.OK {
			return 0, e
		}
	}
	return len(f.missing), f.e
}

// wantClear does what Clear has to do: P9.4.
func wantClear(r *rack.Rack, g api.Geo, row int) api.Errno {
	if e := wantPlace(r, g, row, 1); e != api.OK {
		return e
	}
	for d := range g.Drives {
		if e := r.Write(d, firstOf(g.Tail, row), ""); e != api.OK {
			return e
		}
	}
	return api.OK
}

// wantDirty is what Dirty has to answer: P9.4.
func wantDirty(r *rack.Rack, g api.Geo, row int) (bool, api.Errno) {
	if e := wantPlace(r, g, row, 1); e != api.OK {
		return false, e
	}
	dirty := false
	for d := range g.Drives {
		_, e := shard.Read(r, d, firstOf(g.Tail, row))
		if e == api.ErrDown {
			return false, e
		}
		dirty = dirty || e != api.ErrBlank
	}
	return dirty, api.OK
}

// step is what is done to two racks alike, of which one is told what has to come of it.
type step struct {
	kind  rune // 'w' Write, 'r' Read, 'm' Missing, 'b' Rebuild, 'c' Clear, 'd' Dirty; of the rack: 'p' Wipe, 's' Spoil, 'x' Cut (at is how many), 'l' Lift, 't' a byte of a sector is turned, 'h' a shard that is made
	g     api.Geo
	row   int
	stamp uint64
	text  string
	d, at int
	x     api.Shard
}

// do does a step that is a call of stripe, and tells whether all is as it must be.
func (s step) do(t *testing.T, r, want *rack.Rack) bool {
	switch s.kind {
	case 'w':
		return stripe.Write(r, s.g, s.row, s.stamp, s.text) == wantWrite(t, want, s.g, s.row, s.stamp, s.text)
	case 'r':
		text, e := stripe.Read(r, s.g, s.row, s.stamp)
		f := wantFound(want, s.g, s.row, s.stamp)
		return text == f.text && e == f.e
	case 'm':
		l, e := stripe.Missing(r, s.g, s.row, s.stamp)
		f := wantFound(want, s.g, s.row, s.stamp)
		return slices.Equal(l, f.missing) && e == f.e
	case 'b':
		n, e := stripe.Rebuild(r, s.g, s.row, s.stamp)
		m, f := wantRebuild(t, want, s.g, s.row, s.stamp)
		return n == m && e == f
	case 'c':
		return stripe.Clear(r, s.g, s.row) == wantClear(want, s.g, s.row)
	case 'd':
		is, e := stripe.Dirty(r, s.g, s.row)
		other, f := wantDirty(want, s.g, s.row)
		return is == other && e == f
	}
	s.disturb(r)
	s.disturb(want)
	return true
}

// disturb does a step that is no call of stripe.
func (s step) disturb(r *rack.Rack) {
	switch s.kind {
	case 'p':
		r.Wipe(s.d)
	case 's':
		r.Spoil(s.d, s.at)
	case 'x':
		r.Cut(s.at)
	case 'l':
		r.Lift()
	case 't':
		if old, e := r.Read(s.d, s.at); e == api.OK {
			l := []byte(old)
			l[s.x.Total&63] ^= 1 << (s.x.Stamp & 7)
			r.Write(s.d, s.at, string(l))
		}
	case 'h':
		shard.Write(r, s.d, firstOf(s.g.Tail, s.row), s.x)
	}
}

// someStep makes one: most are calls that may be, some are not.
func someStep(c *chance, g api.Geo) step {
	kinds := []rune("wwwwwrrrrrmmmmmbbbbccddddpppsssssxllltthhh")
	k := g.Drives - g.Parity
	s := step{kind: kinds[c.below(len(kinds))], g: g, row: c.below(wantRows(g)), stamp: uint64(1 + c.below(2)), d: c.below(g.Drives), at: c.below(g.Sectors)}
	s.text = c.text([]int{99, 100, c.below(6), c.below(k*448 + 1)}[c.below(4)])
	if c.below(2) == 0 {
		s.at = firstOf(g.Tail, s.row) + c.below(2)
	}
	if s.kind == 'x' {
		s.at = c.below(30)
	}
	total := []int{99, 100, c.below(6), c.below(k*448 + 1)}[c.below(4)]
	s.x = api.Shard{Stamp: s.stamp, Index: s.d, Total: total, Text: c.text((total + k - 1) / k)}
	if c.below(60) == 0 && len(s.text) < k*448 {
		s.text += strings.Repeat("l", k*448+1-len(s.text))
	}
	switch c.below(80) {
	case 0:
		s.row = c.below(9) - 3
	case 1:
		s.row = far[c.below(len(far))]
	case 2:
		s.stamp = uint64(c.below(2)) * (1<<48 + 1)
	case 3:
		s.g.Drives += c.below(3) - 1
	case 4:
		s.g.Sectors += c.below(3) - 1
	case 5:
		s.g.Parity = c.below(14) - 1
	case 6:
		s.g.Tail = c.below(9)
	}
	return s
}

// P9.1 to P9.5: whatever is done, by chance: each call answers, and leaves, what the chapter says.
func TestWhatever(t *testing.T) {
	c := chance(11)
	for i := range 700 {
		drives := 1 + c.below(6)
		if i%20 == 0 {
			drives = 12
		}
		g := geo(drives, c.below(drives), 2+c.below(2), 1+c.below(3))
		g.Sectors += c.below(8)
		r, want := fresh(t, g), fresh(t, g)
		for j := range c.below(80) {
			s := someStep(&c, g)
			if !s.do(t, r, want) || state(r) != state(want) {
				t.Fatalf("rack %d, step %d, %s: it answers, or leaves, something else: %+v", i, j, string(s.kind), s)
			}
		}
	}
}

// FuzzRow: of any bytes whatever each reader answers what layers 6 and 8 have of them, and Rebuild makes it whole.
func FuzzRow(f *testing.F) {
	g := geo(3, 1, 2, 1)
	bytes := func(text string) (l []string) {
		r, _ := rack.New(3, g.Sectors)
		stripe.Write(r, g, 0, 1, text)
		for d := range 3 {
			l = append(l, r.All(d)[6*64:])
		}
		return l
	}
	for _, n := range []int{0, 1, 99, 896} {
		l := bytes(some(n))
		f.Add(l[0], l[1], l[2])
		f.Add(l[0], "", l[2])
		f.Add("", l[1], l[2])
		f.Add(l[0], l[0], l[2])
		f.Add(l[0], bytes(some(n / 2))[1], bytes(some(n / 2))[2])
	}
	f.Fuzz(func(t *testing.T, a, b, c string) {
		r, want := fresh(t, g), fresh(t, g)
		for d, s := range []string{a, b, c} {
			s = s[:min(len(s), 512)]
			for at := 6; s != ""; at++ {
				n := min(len(s), 64)
				put(t, r, d, at, s[:n])
				put(t, want, d, at, s[:n])
				s = s[n:]
			}
		}
		for _, kind := range "drmbrmd" {
			if s := (step{kind: kind, g: g, stamp: 1}); !s.do(t, r, want) || state(r) != state(want) {
				t.Fatalf("%s: it answers, or leaves, something else", string(kind))
			}
		}
	})
}
