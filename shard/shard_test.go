package shard_test

import (
	"encoding/hex"
	"hash/crc32"
	"math"
	"strconv"
	"strings"
	"testing"
	"unsafe"

	"hoard/api"
	"hoard/rack"
	"hoard/shard"
)

// behind is how many sectors of a place stand behind its head.
const behind = api.RowSectors - 1

// chance makes numbers by a rule.
type chance uint64

func (c *chance) next() uint32 {
	*c = *c*6364136223846793005 + 1442695040888963407
	return uint32(*c >> 32)
}

// below makes a number below n.
func (c *chance) below(n int) int { return int(c.next() % uint32(n)) }

// text makes one of n bytes.
func (c *chance) text(n int) string {
	l := make([]byte, n)
	for i := range l {
		l[i] = byte(c.next() >> 24)
	}
	return string(l)
}

// zeros is n bytes 0.
func zeros(n int) string { return strings.Repeat("\x00", n) }

// whole is what a sector has that has that text.
func whole(text string) string { return text + zeros(api.SectorSize-len(text)) }

// number is the bytes of one, as layer 1 has them.
func number(x uint64) string {
	s := ""
	for ; x > 0; x >>= 8 {
		s = string([]byte{byte(x)}) + s
	}
	return string([]byte{byte(len(s))}) + s
}

// crc is the sum of s, the highest byte first.
func crc(s string) string {
	x := crc32.ChecksumIEEE([]byte(s))
	return string([]byte{byte(x >> 24), byte(x >> 16), byte(x >> 8), byte(x)})
}

// counted is s behind a byte that tells how many bytes it has.
func counted(s string) string { return string([]byte{byte(len(s))}) + s }

// sealed is what a head is that says s.
func sealed(s string) string { return counted(s + crc(s)) }

// says is what the head of a shard says.
func says(x api.Shard) string {
	return number(x.Stamp) + number(uint64(x.Index)) + number(uint64(x.Total)) + number(uint64(len(x.Text))) + crc(x.Text)
}

// cuts is the sectors of a text, of which the last one may be short.
func cuts(text string) []string {
	var l []string
	for ; len(text) > api.SectorSize; text = text[api.SectorSize:] {
		l = append(l, text[:api.SectorSize])
	}
	if text != "" {
		l = append(l, text)
	}
	return l
}

// may is whether a shard may be.
func may(x api.Shard) bool {
	return 1 <= x.Stamp && x.Stamp <= api.MaxGen &&
		0 <= x.Index && x.Index <= api.MaxDrives-1 &&
		0 <= x.Total && x.Total <= api.MaxDrives*api.ShardSize &&
		len(x.Text) <= api.ShardSize
}

// some is a shard that may be, with a text of n bytes, none of which is 0.
func some(n int) api.Shard {
	l := make([]byte, n)
	for i := range l {
		l[i] = byte(i%255 + 1)
	}
	return api.Shard{Stamp: 7, Index: 1, Total: 200, Text: string(l)}
}

// fresh makes a rack.
func fresh(t *testing.T, drives, sectors int) *rack.Rack {
	t.Helper()
	r, e := rack.New(drives, sectors)
	if r == nil || e != api.OK {
		t.Fatalf("rack.New(%d, %d): %v", drives, sectors, e)
	}
	return r
}

// full makes a rack in all of whose sectors something else stands.
func full(t *testing.T, drives, sectors int) *rack.Rack {
	t.Helper()
	r := fresh(t, drives, sectors)
	for d := range drives {
		for s := range sectors {
			put(t, r, d, s, strings.Repeat(string([]byte{byte(128 + 16*d + s)}), api.SectorSize))
		}
	}
	return r
}

// put writes a sector.
func put(t *testing.T, r *rack.Rack, d, s int, text string) {
	t.Helper()
	is(t, "rack's Write", r.Write(d, s, text), api.OK)
}

// is holds an error to another one.
func is(t *testing.T, what string, e, want api.Errno) {
	t.Helper()
	if e != want {
		t.Errorf("%s: %v, not %v", what, e, want)
	}
}

// reads holds a Read to a shard.
func reads(t *testing.T, r *rack.Rack, d, at int, want api.Shard) {
	t.Helper()
	if x, e := shard.Read(r, d, at); x != want || e != api.OK {
		t.Errorf("Read(%d, %d): %+v %v, not %+v", d, at, x, e, want)
	}
}

// fails holds a Read to an error, beside which there is no shard.
func fails(t *testing.T, r *rack.Rack, d, at int, want api.Errno) {
	t.Helper()
	if x, e := shard.Read(r, d, at); x != (api.Shard{}) || e != want {
		t.Errorf("Read(%d, %d): %+v %v, not %v", d, at, x, e, want)
	}
}

// writes holds a Write to what it answers.
func writes(t *testing.T, r *rack.Rack, d, at int, x api.Shard, want api.Errno) {
	t.Helper()
	if e := shard.Write(r, d, at, x); e != want {
		t.Errorf("Write(%d, %d, %d %d %d, %d bytes): %v, not %v", d, at, x.Stamp, x.Index, x.Total, len(x.Text), e, want)
	}
}

// state is all that is told of a rack without changing it.
func state(r *rack.Rack) string {
	var b strings.Builder
	tell := func(x int) { b.WriteString(strconv.Itoa(x) + " ") }
	for d := range r.Drives() {
		tell(int(r.Writes(d)))
		b.WriteString(r.All(d))
		for s := range r.Sectors() {
			text, e := r.Read(d, s)
			tell(int(e))
			b.WriteString(text)
		}
	}
	return b.String()
}

// stamps, indexes, totals and sizes are numbers that may be, the least and the greatest ones among them.
var (
	stamps  = []uint64{1, 2, 255, 256, 65535, 1 << 32, api.MaxGen - 1, api.MaxGen}
	indexes = []int{0, 1, 5, api.MaxDrives - 2, api.MaxDrives - 1}
	totals  = []int{0, 1, 255, 256, api.ShardSize, api.ShardSize + 1, api.MaxDrives*api.ShardSize - 1, api.MaxDrives * api.ShardSize}
	sizes   = []int{0, 1, 2, 63, 64, 65, 127, 128, 129, 255, 256, 384, 385, 447, 448}
)

// far are numbers far above and far below all that may be, such too whose lowest bits are a number that may be.
var far = []int{math.MinInt, math.MinInt + 1, -1 << 48, 1 - 1<<32, -1 << 31, -4096, -256, 1 << 16, 1 << 31, 1<<32 + 1, 1 << 48, math.MaxInt - 1, math.MaxInt}

// wrongs are shards that may not be, each by one thing alone, and by several.
func wrongs() []api.Shard {
	var l []api.Shard
	add := func(change func(x *api.Shard)) {
		for _, n := range []int{0, 100, api.ShardSize} {
			x := some(n)
			change(&x)
			l = append(l, x)
		}
	}
	for _, stamp := range []uint64{0, api.MaxGen + 1, api.MaxGen + 2, 1 << 63, math.MaxUint64} {
		add(func(x *api.Shard) { x.Stamp = stamp })
	}
	for _, index := range append([]int{-1, -2, -12, api.MaxDrives, api.MaxDrives + 1}, far...) {
		add(func(x *api.Shard) { x.Index = index })
	}
	for _, total := range append([]int{-1, -2, api.MaxDrives*api.ShardSize + 1, api.MaxDrives*api.ShardSize + 2}, far...) {
		add(func(x *api.Shard) { x.Total = total })
	}
	for _, n := range []int{api.ShardSize + 1, api.ShardSize + 2, api.ShardSize + api.SectorSize, 65536, 65537} {
		add(func(x *api.Shard) { x.Text = strings.Repeat("x", n) })
	}
	return append(l, api.Shard{}, api.Shard{Index: -1, Total: -1, Text: strings.Repeat("x", api.ShardSize+1)})
}

// P8.1, P8.2: whatever shard may be is written and read, with numbers of each kind and a text of each length.
func TestWhatMayBe(t *testing.T) {
	r := fresh(t, 1, api.RowSectors)
	holds := func(x api.Shard) {
		t.Helper()
		writes(t, r, 0, 0, x, api.OK)
		reads(t, r, 0, 0, x)
	}
	for n := range api.ShardSize + 1 {
		holds(some(n))
	}
	for _, stamp := range stamps {
		for _, index := range indexes {
			for _, total := range totals {
				for _, n := range sizes {
					holds(api.Shard{Stamp: stamp, Index: index, Total: total, Text: some(n).Text})
				}
			}
		}
	}
	for index := range api.MaxDrives {
		holds(api.Shard{Stamp: 1, Index: index})
	}
	for total := range api.MaxDrives*api.ShardSize + 1 {
		holds(api.Shard{Stamp: 1, Total: total})
	}
}

// P8.1, P8.2: texts of any bytes: of bytes 0 alone, of bytes 255, with bytes 0 at the end.
func TestWhateverBytes(t *testing.T) {
	r := full(t, 1, api.RowSectors)
	c := chance(1)
	for _, n := range sizes {
		for _, text := range []string{zeros(n), strings.Repeat("\xff", n), c.text(n), c.text(n/2) + zeros(n-n/2), zeros(n/2) + c.text(n-n/2)} {
			x := api.Shard{Stamp: 3, Index: 2, Total: 1, Text: text}
			writes(t, r, 0, 0, x, api.OK)
			reads(t, r, 0, 0, x)
		}
	}
}

// P8.1, P8.2: heads, byte by byte.
func TestHeads(t *testing.T) {
	for _, x := range []struct {
		shard api.Shard
		bytes string
	}{
		{api.Shard{Stamp: 7, Index: 1, Total: 200, Text: strings.Repeat("a", 100)}, "100107010101c80164af707a647bb2669a"},
		{api.Shard{Stamp: 1}, "0d0101000000000000003dd80073"},
		{api.Shard{Stamp: 1 << 48, Index: 11, Total: 12 * 448, Text: strings.Repeat("z", 448)}, "180701000000000000010b0215000201c00010836de908fe24"},
		{api.Shard{Stamp: 256, Index: 11, Total: 256, Text: "123456789"}, "12020100010b0201000109cbf439263f356358"},
		{api.Shard{Stamp: 1, Total: 1, Text: "\x00"}, "0f01010001010101d202ef8d1c1c41ef"},
	} {
		r := full(t, 1, api.RowSectors)
		writes(t, r, 0, 0, x.shard, api.OK)
		head, _ := r.Read(0, 0)
		if got := hex.EncodeToString([]byte(head)); got != x.bytes+strings.Repeat("00", api.SectorSize-len(x.bytes)/2) {
			t.Errorf("%+v: %s", x.shard, got)
		}
		other := fresh(t, 1, api.RowSectors)
		bytes, _ := hex.DecodeString(x.bytes)
		put(t, other, 0, 0, string(bytes))
		for i, s := range cuts(x.shard.Text) {
			put(t, other, 0, 1+i, s)
		}
		reads(t, other, 0, 0, x.shard)
	}
}

// P8.1: each sector of the place has what it must have; no other one is touched, of that drive or of another one, nor is any written but these.
func TestSectors(t *testing.T) {
	const drives, many = 3, 2*api.RowSectors + 3
	for _, d := range []int{0, 1, 2} {
		for _, at := range []int{0, 1, 5, api.RowSectors, many - api.RowSectors} {
			for _, n := range sizes {
				x := some(n)
				r, want := full(t, drives, many), full(t, drives, many)
				for i, s := range cuts(x.Text) {
					put(t, want, d, at+1+i, s)
				}
				put(t, want, d, at, sealed(says(x)))
				writes(t, r, d, at, x, api.OK)
				if state(r) != state(want) {
					t.Errorf("Write(%d, %d) of %d bytes: other bytes than these", d, at, n)
				}
				before := state(r)
				reads(t, r, d, at, x)
				if state(r) != before {
					t.Errorf("Read(%d, %d) changes something", d, at)
				}
			}
		}
	}
}

// P8.1: a place may be at the end of a drive, as short as its Text lets it be.
func TestShortPlaces(t *testing.T) {
	for n := range api.ShardSize + 1 {
		takes := 1 + len(cuts(some(n).Text))
		r := full(t, 1, 10)
		writes(t, r, 0, 10-takes, some(n), api.OK)
		reads(t, r, 0, 10-takes, some(n))
		if r.Writes(0) != 10+uint64(takes) {
			t.Errorf("%d bytes: %d writes, not %d", n, r.Writes(0)-10, takes)
		}
	}
}

// P8.1: shards that may not be: nothing is written, and nothing taken of what a cut allows.
func TestWhatMayNotBe(t *testing.T) {
	for _, x := range wrongs() {
		r := full(t, 2, api.RowSectors)
		before := state(r)
		writes(t, r, 1, 0, x, api.ErrArg)
		if state(r) != before {
			t.Errorf("%+v was written", x)
		}
		is(t, "Cut", r.Cut(1), api.OK)
		writes(t, r, 1, 0, x, api.ErrArg)
		is(t, "Write, the only one", r.Write(0, 0, ""), api.OK)
		writes(t, r, 1, 0, x, api.ErrArg)
	}
}

// P8.1: that a shard may not be goes ahead of each error of the rack, that there is none among them.
func TestWhatMayNotBeFirst(t *testing.T) {
	down := fresh(t, 1, api.RowSectors)
	is(t, "Cut", down.Cut(0), api.OK)
	for _, x := range wrongs() {
		writes(t, nil, 0, 0, x, api.ErrArg)
		writes(t, new(rack.Rack), 0, 0, x, api.ErrArg)
		writes(t, down, 0, 0, x, api.ErrArg)
		for _, at := range []int{-1, 0, 1, api.RowSectors} {
			for _, d := range []int{-1, 1} {
				writes(t, down, d, at, x, api.ErrArg)
				writes(t, fresh(t, 1, api.RowSectors), d, at, x, api.ErrArg)
				writes(t, nil, d, at, x, api.ErrArg)
			}
		}
		writes(t, fresh(t, 1, 1), 0, 1, x, api.ErrArg)
	}
}

// P8.1 to P8.3, R3: a rack that is nil, or that New did not make.
func TestNil(t *testing.T) {
	var zero rack.Rack
	for _, r := range []*rack.Rack{nil, &zero, new(rack.Rack)} {
		for _, d := range append([]int{-1, 0, 1, api.MaxDrives}, far...) {
			for _, at := range append([]int{-1, 0, 1, api.MaxSectors}, far...) {
				for _, n := range []int{0, 1, 65, api.ShardSize} {
					writes(t, r, d, at, some(n), api.ErrNil)
				}
				fails(t, r, d, at, api.ErrNil)
				is(t, "Clear", shard.Clear(r, d, at), api.ErrNil)
			}
		}
	}
}

// P8.1 to P8.3: drives that are not there, and sectors far from all that are; nothing is done.
func TestRange(t *testing.T) {
	r := full(t, 2, api.RowSectors)
	writes(t, r, 0, 0, some(100), api.OK)
	writes(t, r, 1, 0, some(200), api.OK)
	before := state(r)
	wrong := func(d, at int) {
		for _, n := range []int{0, 1, 64, 65, api.ShardSize} {
			writes(t, r, d, at, some(n), api.ErrRange)
		}
		fails(t, r, d, at, api.ErrRange)
		is(t, "Clear", shard.Clear(r, d, at), api.ErrRange)
	}
	for _, d := range append([]int{-1, -2, 2, 3}, far...) {
		for _, at := range append([]int{-1, 0, 1, api.RowSectors}, far...) {
			wrong(d, at)
		}
	}
	for _, at := range append([]int{api.RowSectors, api.RowSectors + 1, -9, -8}, far...) {
		for d := range 2 {
			wrong(d, at)
		}
	}
	if state(r) != before {
		t.Error("something was done where no sector is")
	}
}

// P8.1, P8.2: just the Text's sectors run off the drive's end: those ahead of it are written, the head isn't, and nothing behind the first error.
func TestOffTheEnd(t *testing.T) {
	const many = 10
	for _, n := range sizes {
		x := some(n)
		takes := len(cuts(x.Text))
		for at := many - takes; at < many; at++ {
			r, want := full(t, 2, many), full(t, 2, many)
			for i, s := range cuts(x.Text) {
				if at+1+i < many {
					put(t, want, 1, at+1+i, s)
				}
			}
			writes(t, r, 1, at, x, api.ErrRange)
			if state(r) != state(want) {
				t.Errorf("Write(1, %d) of %d bytes: other bytes than these", at, n)
			}
			put(t, r, 1, at, sealed(says(x)))
			fails(t, r, 1, at, api.ErrRange)
			is(t, "Clear", shard.Clear(r, 1, at), api.OK)
			fails(t, r, 1, at, api.ErrBlank)
		}
	}
}

// P8.1 to P8.3: places that begin ahead of a drive. The Text's sectors are written ahead of the head, up to the first one that is not there.
func TestAheadOfTheDrive(t *testing.T) {
	for _, at := range []int{-1, -2, -3, -api.RowSectors, -api.RowSectors - 1} {
		for _, n := range sizes {
			x := some(n)
			r, want := full(t, 1, api.RowSectors), full(t, 1, api.RowSectors)
			if at == -1 {
				for i, s := range cuts(x.Text) {
					put(t, want, 0, i, s)
				}
			}
			writes(t, r, 0, at, x, api.ErrRange)
			fails(t, r, 0, at, api.ErrRange)
			is(t, "Clear", shard.Clear(r, 0, at), api.ErrRange)
			if state(r) != state(want) {
				t.Errorf("Write(0, %d) of %d bytes: other bytes than these", at, n)
			}
		}
	}
}

// P8.1, P8.4: the Text's sectors are written by rising numbers, then the head: so many of these writes are done as a cut allows; till the last one nothing is there.
func TestCutWrites(t *testing.T) {
	for _, n := range sizes {
		x := some(n)
		takes := len(cuts(x.Text))
		for _, old := range []bool{false, true} { // whether other bytes stand behind the head
			for allowed := range takes + 3 {
				r, want := fresh(t, 2, 10), fresh(t, 2, 10)
				for s := 2; old && s < 10; s++ {
					put(t, r, 1, s, whole("old"))
					put(t, want, 1, s, whole("old"))
				}
				for i, s := range cuts(x.Text) {
					if i < allowed {
						put(t, want, 1, 2+i, s)
					}
				}
				is(t, "Cut", r.Cut(allowed), api.OK)
				if allowed > takes {
					put(t, want, 1, 1, sealed(says(x)))
					writes(t, r, 1, 1, x, api.OK)
				} else {
					writes(t, r, 1, 1, x, api.ErrDown)
					fails(t, r, 1, 1, api.ErrDown)
				}
				is(t, "Lift", r.Lift(), api.OK)
				if state(r) != state(want) {
					t.Errorf("%d bytes, Cut(%d): not the first writes are done", n, allowed)
				}
				if allowed > takes {
					reads(t, r, 1, 1, x)
				} else {
					fails(t, r, 1, 1, api.ErrBlank)
				}
			}
		}
	}
}

// P8.4: where a Write over another shard is cut, it is the old one, or the new one, or it is told that it is not whole: never anything else.
func TestCutOverAnother(t *testing.T) {
	for _, from := range sizes {
		for _, to := range sizes {
			old, now := some(from), api.Shard{Stamp: 9, Index: 3, Text: strings.Repeat("n", to)}
			for allowed := range len(cuts(now.Text)) + 2 {
				r := fresh(t, 1, api.RowSectors)
				writes(t, r, 0, 0, old, api.OK)
				is(t, "Cut", r.Cut(allowed), api.OK)
				e := shard.Write(r, 0, 0, now)
				is(t, "Lift", r.Lift(), api.OK)
				switch {
				case e == api.OK:
					reads(t, r, 0, 0, now)
				case allowed == 0 || from == 0:
					reads(t, r, 0, 0, old)
				default:
					fails(t, r, 0, 0, api.ErrTorn)
				}
			}
		}
	}
}

// P8.1 to P8.3: where all stands still each call answers so, whatever stands there; a sector that is not there goes ahead of it where it is written, behind it where it is read.
func TestAllStandsStill(t *testing.T) {
	r := fresh(t, 1, 3*api.RowSectors)
	writes(t, r, 0, 0, some(100), api.OK)
	is(t, "Spoil", r.Spoil(0, 8), api.OK)
	put(t, r, 0, 16, "torn")
	before := state(r)
	is(t, "Cut", r.Cut(0), api.OK)
	for at := range 3*api.RowSectors - 3 {
		fails(t, r, 0, at, api.ErrDown)
		for _, n := range []int{0, 1, 100} {
			writes(t, r, 0, at, some(n), api.ErrDown)
		}
		is(t, "Clear", shard.Clear(r, 0, at), api.ErrDown)
	}
	for _, place := range [][2]int{{1, 0}, {-1, 0}, {0, 3 * api.RowSectors}, {0, -5}} {
		fails(t, r, place[0], place[1], api.ErrDown)
		writes(t, r, place[0], place[1], some(100), api.ErrRange)
		writes(t, r, place[0], place[1], some(0), api.ErrRange)
		is(t, "Clear", shard.Clear(r, place[0], place[1]), api.ErrRange)
	}
	writes(t, r, 0, 3*api.RowSectors-2, some(100), api.ErrDown) // off the end, but its first sector isn't
	writes(t, r, 0, 3*api.RowSectors-1, some(100), api.ErrRange)
	is(t, "Lift", r.Lift(), api.OK)
	if state(r) != before {
		t.Error("something was done where all stands still")
	}
	reads(t, r, 0, 0, some(100))
}

// P8.2: a head of bytes 0 alone is blank, whatever stands behind it; one byte of another kind, wherever it is, and it is not whole.
func TestBlank(t *testing.T) {
	r := fresh(t, 1, api.RowSectors)
	fails(t, r, 0, 0, api.ErrBlank)
	for s := range behind {
		put(t, r, 0, 1+s, "behind")
		fails(t, r, 0, 0, api.ErrBlank)
		is(t, "Spoil", r.Spoil(0, 1+s), api.OK)
		fails(t, r, 0, 0, api.ErrBlank)
	}
	for i := range api.SectorSize {
		for x := 1; x < 256; x++ {
			put(t, r, 0, 0, zeros(i)+string([]byte{byte(x)}))
			fails(t, r, 0, 0, api.ErrTorn)
		}
	}
	last := fresh(t, 1, 1) // and if no sector is behind it
	fails(t, last, 0, 0, api.ErrBlank)
}

// P8.2: a head of which any one byte is another one, or is left out, or put in, is none.
func TestHeadChanged(t *testing.T) {
	for _, x := range []api.Shard{some(0), some(1), some(100), {Stamp: 1}, {Stamp: api.MaxGen, Index: 11, Total: 12 * 448, Text: zeros(448)}} {
		r := fresh(t, 1, api.RowSectors)
		writes(t, r, 0, 0, x, api.OK)
		head, _ := r.Read(0, 0)
		for i := range head {
			for by := 1; by < 256; by++ {
				l := []byte(head)
				l[i] ^= byte(by)
				put(t, r, 0, 0, string(l))
				fails(t, r, 0, 0, api.ErrTorn)
			}
		}
		size := 1 + int(head[0])
		for i := range size {
			if out := whole(head[:i] + head[i+1:]); out != head {
				put(t, r, 0, 0, out)
				fails(t, r, 0, 0, api.ErrTorn)
			}
			put(t, r, 0, 0, head[:i]) // what stands behind is 0
			if whole(head[:i]) != head && i > 0 {
				fails(t, r, 0, 0, api.ErrTorn)
			}
			for _, by := range []string{"\x00", "\x01", "\xff"} {
				if in := (head[:i] + by + head[i:])[:api.SectorSize]; in != head {
					put(t, r, 0, 0, in)
					fails(t, r, 0, 0, api.ErrTorn)
				}
			}
		}
		put(t, r, 0, 0, head)
		reads(t, r, 0, 0, x)
	}
}

// badHeads are heads that no shard has.
func badHeads() map[string]string {
	x := some(100)
	with := func(change func(x *api.Shard)) string {
		y := x
		change(&y)
		return sealed(says(y))
	}
	numbers := func(l ...string) string { return sealed(strings.Join(l, "") + crc(x.Text)) }
	stamp, index, total, size := number(7), number(1), number(200), number(100)
	good := says(x)
	l := map[string]string{
		"stamp 0":                with(func(x *api.Shard) { x.Stamp = 0 }),
		"stamp too great":        with(func(x *api.Shard) { x.Stamp = api.MaxGen + 1 }),
		"stamp far too great":    with(func(x *api.Shard) { x.Stamp = math.MaxUint64 }),
		"index too great":        with(func(x *api.Shard) { x.Index = api.MaxDrives }),
		"index far too great":    with(func(x *api.Shard) { x.Index = 1 << 32 }),
		"index below 0":          with(func(x *api.Shard) { x.Index = -1 }),
		"total too great":        with(func(x *api.Shard) { x.Total = api.MaxDrives*api.ShardSize + 1 }),
		"total far too great":    with(func(x *api.Shard) { x.Total = 1 << 32 }),
		"total below 0":          with(func(x *api.Shard) { x.Total = -1 }),
		"text too long":          with(func(x *api.Shard) { x.Text = some(449).Text }),
		"text far too long":      numbers(stamp, index, total, number(1<<32)),
		"text far below 0":       numbers(stamp, index, total, number(1<<63)),
		"text one below 0":       numbers(stamp, index, total, number(math.MaxUint64)),
		"nothing":                sealed(""),
		"just a sum":             sealed(crc(x.Text)),
		"no size":                numbers(stamp, index, total),
		"no numbers but one":     numbers(stamp),
		"a number more":          numbers(stamp, index, total, size, number(0)),
		"a byte more":            sealed(good + "\x00"),
		"two bytes more":         sealed(good + "ab"),
		"a byte less":            sealed(good[:len(good)-1]),
		"no sum":                 sealed(good[:len(good)-4]),
		"sum first":              sealed(crc(x.Text) + good[:len(good)-4]),
		"other order":            numbers(number(0), stamp, total, size),
		"a number of nine bytes": numbers(stamp, index, total, "\x09\x01\x00\x00\x00\x00\x00\x00\x00\x64"),
		"a long stamp":           numbers("\x02\x00\x07", index, total, size),
		"a long index":           numbers(stamp, "\x02\x00\x01", total, size),
		"a long total":           numbers(stamp, index, "\x02\x00\xc8", size),
		"a long size":            numbers(stamp, index, total, "\x02\x00\x64"),
		"a long 0":               sealed(number(1) + "\x01\x00" + number(0) + number(0) + crc("")),
		"not sealed":             counted(good),
		"sealed with another":    counted(good + crc(good+"x")),
		"sealed, lowest first":   counted(good + turned(crc(good))),
		"sealed without the sum": counted(good[:len(good)-4] + crc(good[:len(good)-4]) + crc(x.Text)),
		"sealed with its count":  counted(good + crc(counted(good + "1234")[:1]+good)),
		"its count counts too":   "\x11" + sealed(good)[1:],
		"a count that is 0":      "\x00" + sealed(good)[1:],
		"no count":               sealed(good)[1:],
		"a byte behind":          sealed(good) + "\x01",
		"a byte far behind":      sealed(good) + zeros(api.SectorSize-1-len(sealed(good))) + "\x01",
		"a count that is 64":     "\x40" + sealed(good)[1:],
		"a count that is 255":    "\xff" + sealed(good)[1:],
		"full":                   sealed(good + zeros(api.SectorSize-5-len(good))),
	}
	return l
}

// turned is a text from its last byte to its first one.
func turned(s string) string {
	t := ""
	for i := range len(s) {
		t = s[i:i+1] + t
	}
	return t
}

// P8.2: sealed heads that are no shard's are none, wherever the Text stands, and whatever is wrong with its sectors, too.
func TestBadHeads(t *testing.T) {
	for what, head := range badHeads() {
		for _, spoilt := range []bool{false, true} {
			r := fresh(t, 1, 2*api.RowSectors)
			writes(t, r, 0, 0, some(api.ShardSize), api.OK)
			writes(t, r, 0, 0, some(100), api.OK)
			for s := 1; spoilt && s < 2*api.RowSectors; s++ {
				is(t, "Spoil", r.Spoil(0, s), api.OK)
			}
			put(t, r, 0, 0, head)
			if x, e := shard.Read(r, 0, 0); x != (api.Shard{}) || e != api.ErrTorn {
				t.Errorf("%s: %+v %v", what, x, e)
			}
			short := fresh(t, 1, 1)
			put(t, short, 0, 0, head)
			fails(t, short, 0, 0, api.ErrTorn)
		}
	}
}

// P8.2: heads that may be, made byte by byte, with no Text and with one: they are read.
func TestGoodHeads(t *testing.T) {
	for _, stamp := range stamps {
		for _, index := range indexes {
			for _, total := range totals {
				r := fresh(t, 1, api.RowSectors)
				x := api.Shard{Stamp: stamp, Index: index, Total: total}
				put(t, r, 0, 0, sealed(says(x)))
				reads(t, r, 0, 0, x)
				x.Text = some(65).Text
				put(t, r, 0, 0, sealed(says(x)))
				fails(t, r, 0, 0, api.ErrTorn)
				put(t, r, 0, 1, x.Text[:64])
				fails(t, r, 0, 0, api.ErrTorn)
				put(t, r, 0, 2, x.Text[64:]+"whatever")
				reads(t, r, 0, 0, x)
			}
		}
	}
}

// P8.2: a head that can't be read, also where the Text can't either.
func TestHeadSpoilt(t *testing.T) {
	for _, n := range sizes {
		r := fresh(t, 1, api.RowSectors)
		writes(t, r, 0, 0, some(n), api.OK)
		is(t, "Spoil", r.Spoil(0, 0), api.OK)
		fails(t, r, 0, 0, api.ErrMedia)
		is(t, "Spoil", r.Spoil(0, 1), api.OK)
		fails(t, r, 0, 0, api.ErrMedia)
		writes(t, r, 0, 0, some(n), api.OK)
		if n > 0 {
			reads(t, r, 0, 0, some(n))
		}
	}
}

// P8.2: each sector of the Text that can't be read; of those behind it none is looked at.
func TestTextSpoilt(t *testing.T) {
	for _, n := range sizes {
		takes := len(cuts(some(n).Text))
		for s := range behind {
			for _, torn := range []bool{false, true} { // a sector of the Text is another one, too
				r := fresh(t, 1, api.RowSectors)
				writes(t, r, 0, 0, some(n), api.OK)
				if torn {
					put(t, r, 0, 1, "other")
				}
				is(t, "Spoil", r.Spoil(0, 1+s), api.OK)
				switch {
				case s < takes:
					fails(t, r, 0, 0, api.ErrMedia)
				case torn && n > 0:
					fails(t, r, 0, 0, api.ErrTorn)
				default:
					reads(t, r, 0, 0, some(n))
				}
			}
		}
	}
}

// P8.2: the first error of the Text's sectors is the one of the least number.
func TestFirstErrorOfTheText(t *testing.T) {
	x := some(api.ShardSize)
	for room := range behind {
		r := fresh(t, 1, 1+room)
		put(t, r, 0, 0, sealed(says(x)))
		fails(t, r, 0, 0, api.ErrRange)
		for s := range room {
			is(t, "Spoil", r.Spoil(0, 1+s), api.OK)
			fails(t, r, 0, 0, api.ErrMedia)
			put(t, r, 0, 1+s, "")
			fails(t, r, 0, 0, api.ErrRange)
		}
	}
}

// P8.2: a Text of which any one byte is another one is not whole; bytes behind it are not looked at.
func TestTextChanged(t *testing.T) {
	for _, n := range sizes {
		r := fresh(t, 1, api.RowSectors)
		writes(t, r, 0, 0, some(n), api.OK)
		for i := range api.ShardSize {
			s := 1 + i/api.SectorSize
			old, _ := r.Read(0, s)
			for _, by := range []byte{1, 128, 255} {
				l := []byte(old)
				l[i%api.SectorSize] ^= by
				put(t, r, 0, s, string(l))
				if i < n {
					fails(t, r, 0, 0, api.ErrTorn)
				} else {
					reads(t, r, 0, 0, some(n))
				}
			}
			if i < n {
				put(t, r, 0, s, old)
			}
		}
		reads(t, r, 0, 0, some(n))
	}
}

// P8.2: heads that tell another sum than the Text's, also of an empty one, by any byte of it.
func TestOtherSum(t *testing.T) {
	for _, n := range sizes {
		x := some(n)
		r := fresh(t, 1, api.RowSectors)
		writes(t, r, 0, 0, x, api.OK)
		said := says(x)
		for i := len(said) - 4; i < len(said); i++ {
			for by := 1; by < 256; by++ {
				l := []byte(said)
				l[i] ^= byte(by)
				put(t, r, 0, 0, sealed(string(l)))
				fails(t, r, 0, 0, api.ErrTorn)
			}
		}
		put(t, r, 0, 0, sealed(said))
		reads(t, r, 0, 0, x)
	}
}

// P8.2: a Text whose sectors stand in another order, or are empty, is not whole.
func TestTextMoved(t *testing.T) {
	x := some(api.ShardSize)
	for a := range behind {
		for b := range a {
			r := fresh(t, 1, api.RowSectors)
			writes(t, r, 0, 0, x, api.OK)
			first, _ := r.Read(0, 1+a)
			second, _ := r.Read(0, 1+b)
			put(t, r, 0, 1+b, first)
			fails(t, r, 0, 0, api.ErrTorn)
			put(t, r, 0, 1+a, second)
			fails(t, r, 0, 0, api.ErrTorn)
			put(t, r, 0, 1+a, "")
			fails(t, r, 0, 0, api.ErrTorn)
		}
	}
}

// P8.3: behind Clear nothing is there; just the head is written, once, whatever stood there.
func TestClear(t *testing.T) {
	for _, n := range sizes {
		for _, at := range []int{0, 3, 2*api.RowSectors - 1} {
			for _, kind := range []string{"shard", "nothing", "spoilt", "torn"} {
				r := full(t, 2, 3*api.RowSectors)
				want := full(t, 2, 3*api.RowSectors)
				for _, x := range []*rack.Rack{r, want} {
					writes(t, x, 1, at, some(n), api.OK)
					switch kind {
					case "nothing":
						put(t, x, 1, at, "")
					case "spoilt":
						is(t, "Spoil", x.Spoil(1, at), api.OK)
					case "torn":
						put(t, x, 1, at, "\x01")
					}
				}
				put(t, want, 1, at, "")
				is(t, "Clear", shard.Clear(r, 1, at), api.OK)
				fails(t, r, 1, at, api.ErrBlank)
				if state(r) != state(want) {
					t.Errorf("Clear(1, %d) of %s, %d bytes: other bytes than these", at, kind, n)
				}
				writes(t, r, 1, at, some(n), api.OK)
				reads(t, r, 1, at, some(n))
			}
		}
	}
}

// P8.3: Clear is one write, which a cut allows or not.
func TestClearCut(t *testing.T) {
	r := fresh(t, 2, api.RowSectors)
	writes(t, r, 0, 0, some(100), api.OK)
	writes(t, r, 1, 0, some(100), api.OK)
	is(t, "Cut", r.Cut(1), api.OK)
	is(t, "Clear", shard.Clear(r, 0, 0), api.OK)
	is(t, "Clear", shard.Clear(r, 1, 0), api.ErrDown)
	is(t, "Lift", r.Lift(), api.OK)
	fails(t, r, 0, 0, api.ErrBlank)
	reads(t, r, 1, 0, some(100))
	is(t, "Clear", shard.Clear(r, 2, 0), api.ErrRange)
	is(t, "Clear", shard.Clear(r, -1, 0), api.ErrRange)
	is(t, "Clear", shard.Clear(r, 1, api.RowSectors), api.ErrRange)
	is(t, "Clear", shard.Clear(r, 1, -1), api.ErrRange)
	reads(t, r, 1, 0, some(100))
}

// P8.4: a shard over another one, longer and shorter ones: the new one is there alone.
func TestOverAnother(t *testing.T) {
	r := full(t, 1, api.RowSectors)
	for _, a := range sizes {
		for _, b := range sizes {
			writes(t, r, 0, 0, some(a), api.OK)
			x := api.Shard{Stamp: 8, Index: 2, Total: 3, Text: strings.Repeat("n", b)}
			writes(t, r, 0, 0, x, api.OK)
			reads(t, r, 0, 0, x)
		}
	}
}

// P8.4: places beside each other, and of other drives and racks, do not touch each other.
func TestPlaces(t *testing.T) {
	const drives, places = 3, 4
	x := func(d, i int) api.Shard {
		return api.Shard{Stamp: uint64(1 + d), Index: i, Total: 10*d + i, Text: some(api.ShardSize - 64*d - i).Text}
	}
	r, other := fresh(t, drives, places*api.RowSectors+1), fresh(t, drives, places*api.RowSectors+1)
	for d := range drives {
		for i := range places {
			writes(t, r, d, 1+i*api.RowSectors, x(d, i), api.OK)
		}
	}
	for d := range drives {
		for i := range places {
			reads(t, r, d, 1+i*api.RowSectors, x(d, i))
			fails(t, other, d, 1+i*api.RowSectors, api.ErrBlank)
		}
	}
	is(t, "Clear", shard.Clear(r, 1, 1+2*api.RowSectors), api.OK)
	is(t, "Spoil", r.Spoil(2, 1), api.OK)
	is(t, "Wipe", r.Wipe(0), api.OK)
	for d := range drives {
		for i := range places {
			switch at := 1 + i*api.RowSectors; {
			case d == 0 || d == 1 && i == 2:
				fails(t, r, d, at, api.ErrBlank)
			case d == 2 && i == 0:
				fails(t, r, d, at, api.ErrMedia)
			default:
				reads(t, r, d, at, x(d, i))
			}
		}
	}
}

// R5: an answer is memory of its own, and stays as it was whatever is done then.
func TestAnswersStay(t *testing.T) {
	for _, n := range []int{1, 64, 65, api.ShardSize} {
		r := fresh(t, 1, api.RowSectors)
		writes(t, r, 0, 0, some(n), api.OK)
		x, _ := shard.Read(r, 0, 0)
		again, _ := shard.Read(r, 0, 0)
		if unsafe.StringData(x.Text) == unsafe.StringData(again.Text) {
			t.Error("two answers share memory")
		}
		writes(t, r, 0, 0, api.Shard{Stamp: 1, Text: strings.Repeat("n", api.ShardSize)}, api.OK)
		is(t, "Wipe", r.Wipe(0), api.OK)
		if x != some(n) || again != x {
			t.Errorf("%+v %+v", x, again)
		}
	}
}

// R5: a Text that is handed in is neither changed nor kept.
func TestTextsAreNotKept(t *testing.T) {
	for _, n := range []int{1, 64, 65, api.ShardSize} {
		r := fresh(t, 1, api.RowSectors)
		l := []byte(some(n).Text)
		x := some(n)
		x.Text = unsafe.String(unsafe.SliceData(l), n)
		writes(t, r, 0, 0, x, api.OK)
		if string(l) != some(n).Text {
			t.Errorf("%q", l)
		}
		clear(l)
		reads(t, r, 0, 0, some(n))
	}
}

// R6: asked again, the same is answered.
func TestAgain(t *testing.T) {
	r := fresh(t, 1, 3*api.RowSectors)
	writes(t, r, 0, 0, some(77), api.OK)
	put(t, r, 0, 8, "torn")
	for range 3 {
		reads(t, r, 0, 0, some(77))
		fails(t, r, 0, 8, api.ErrTorn)
		fails(t, r, 0, 16, api.ErrBlank)
	}
	before := r.All(0)
	writes(t, r, 0, 0, some(77), api.OK)
	if r.All(0) != before {
		t.Error("the same shard has other bytes")
	}
}

// wantRead is what Read has to answer, by what the rack tells sector by sector: P8.2, in the order in which it names its errors.
func wantRead(r *rack.Rack, d, at int) (api.Shard, api.Errno) {
	head, e := r.Read(d, at)
	if e != api.OK {
		return api.Shard{}, e
	}
	if head == whole("") {
		return api.Shard{}, api.ErrBlank
	}
	said, l := unsealed(head), [4]uint64{}
	for i := range l {
		if said == "" || int(said[0]) > 8 || len(said) <= int(said[0]) {
			return api.Shard{}, api.ErrTorn
		}
		for _, b := range []byte(said[1 : 1+said[0]]) {
			l[i] = l[i]<<8 | uint64(b)
		}
		said = said[1+said[0]:]
	}
	if l[3] > api.ShardSize {
		return api.Shard{}, api.ErrTorn
	}
	x := api.Shard{Stamp: l[0], Index: int(l[1]), Total: int(l[2]), Text: zeros(int(l[3]))}
	if again := says(x); !may(x) || len(said) != 4 || whole(sealed(again[:len(again)-4]+said)) != head {
		return api.Shard{}, api.ErrTorn
	}
	all := ""
	for i := range cuts(x.Text) {
		s, e := r.Read(d, at+1+i)
		if e != api.OK {
			return api.Shard{}, e
		}
		all += s
	}
	if x.Text = all[:len(x.Text)]; crc(x.Text) != said {
		return api.Shard{}, api.ErrTorn
	}
	return x, api.OK
}

// unsealed is what a head says whose count may be; it is not asked whether it is sealed well.
func unsealed(head string) string {
	n := int(head[0])
	if n < 4 || n >= len(head) {
		return ""
	}
	return head[1 : n-3]
}

// wantWrite does what Write has to do: P8.1.
func wantWrite(r *rack.Rack, d, at int, x api.Shard) api.Errno {
	if !may(x) {
		return api.ErrArg
	}
	for i, s := range cuts(x.Text) {
		if e := r.Write(d, at+1+i, s); e != api.OK {
			return e
		}
	}
	return r.Write(d, at, sealed(says(x)))
}

// step is what is done to two racks alike, of which one is told what has to come of it.
type step struct {
	kind  rune // 'w' Write, 'r' Read, 'c' Clear; of the rack: 'p' Wipe, 's' Spoil, 'x' Cut (at is how many), 'l' Lift, 'b' a byte of a sector is turned, 'h' a head that is made
	d, at int
	x     api.Shard
}

// play holds each call to what it has to answer, and what it leaves.
func play(t *testing.T, drives, sectors int, steps []step) {
	t.Helper()
	r, want := fresh(t, drives, sectors), fresh(t, drives, sectors)
	for i, s := range steps {
		told := "step " + strconv.Itoa(i) + ", " + string(s.kind) + " " + strconv.Itoa(s.d) + " " + strconv.Itoa(s.at)
		switch s.kind {
		case 'w':
			is(t, told, shard.Write(r, s.d, s.at, s.x), wantWrite(want, s.d, s.at, s.x))
		case 'r':
			x, e := shard.Read(r, s.d, s.at)
			if y, f := wantRead(want, s.d, s.at); x != y || e != f {
				t.Errorf("%s: %+v %v, not %+v %v", told, x, e, y, f)
			}
		case 'c':
			is(t, told, shard.Clear(r, s.d, s.at), want.Write(s.d, s.at, ""))
		default:
			for _, r := range []*rack.Rack{r, want} {
				disturb(r, s)
			}
		}
		if t.Failed() || state(r) != state(want) {
			t.Fatalf("%s: another rack than it must be", told)
		}
	}
}

// disturb does a step that is no call of a shard.
func disturb(r *rack.Rack, s step) {
	switch s.kind {
	case 'p':
		r.Wipe(s.d)
	case 's':
		r.Spoil(s.d, s.at)
	case 'x':
		r.Cut(s.at)
	case 'l':
		r.Lift()
	case 'b':
		if old, e := r.Read(s.d, s.at); e == api.OK {
			l := []byte(old)
			l[s.x.Index&63] ^= 1 << (s.x.Stamp & 7)
			r.Write(s.d, s.at, string(l))
		}
	case 'h':
		r.Write(s.d, s.at, sealed(says(s.x)))
	}
}

// P8.1 to P8.4: whatever is done, by chance: each call answers, and leaves, what the chapter says.
func TestWhatever(t *testing.T) {
	c := chance(8)
	kinds := []rune("wwwwwwrrrrrrrrccpssxllbbh")
	for range 1500 {
		drives, sectors := 1+c.below(3), 1+c.below(24)
		steps := make([]step, c.below(60))
		for i := range steps {
			s := step{kind: kinds[c.below(len(kinds))], d: c.below(drives), at: c.below(sectors)}
			if c.below(3) > 0 {
				s.at -= s.at % api.RowSectors
			}
			if s.kind == 'x' {
				s.at = c.below(20)
			}
			s.x = api.Shard{Stamp: uint64(1 + c.below(300)), Index: c.below(api.MaxDrives), Total: c.below(6000), Text: c.text(c.below(460))}
			if c.below(2) == 0 {
				s.x.Text = s.x.Text[:c.below(len(s.x.Text)+1)]
			}
			switch c.below(60) {
			case 0:
				s.d = c.below(9) - 3
			case 1:
				s.at = c.below(60) - 20
			case 2:
				s.x.Index = c.below(30) - 10
			case 3:
				s.at = far[c.below(len(far))]
			case 4:
				s.x.Stamp = uint64(c.below(2)) * uint64(c.next())
			}
			steps[i] = s
		}
		play(t, drives, sectors, steps)
	}
}

// FuzzRead: of any bytes whatever Read tells a shard, or what is wrong; the shard that it tells has just these bytes when it is written.
func FuzzRead(f *testing.F) {
	for _, n := range []int{0, 1, 64, 100, api.ShardSize} {
		f.Add(sealed(says(some(n))), some(n).Text)
		f.Add(sealed(says(some(n)))[1:], some(n).Text)
	}
	for _, head := range badHeads() {
		f.Add(head, some(100).Text)
	}
	f.Fuzz(func(t *testing.T, head, text string) {
		r, _ := rack.New(1, api.RowSectors)
		head = head[:min(len(head), api.SectorSize)]
		r.Write(0, 0, head)
		for i, s := range cuts(text[:min(len(text), api.ShardSize)]) {
			r.Write(0, 1+i, s)
		}
		x, e := shard.Read(r, 0, 0)
		if y, want := wantRead(r, 0, 0); x != y || e != want {
			t.Fatalf("%+v %v, not %+v %v", x, e, y, want)
		}
		if e == api.OK {
			is(t, "Write", shard.Write(r, 0, 0, x), api.OK)
			reads(t, r, 0, 0, x)
			if got, _ := r.Read(0, 0); got != whole(head) {
				t.Fatalf("%q is written as %q", head, got)
			}
		}
	})
}
