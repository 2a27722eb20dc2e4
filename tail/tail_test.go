package tail_test

import (
	"encoding/hex"
	"fmt"
	"slices"
	"strings"
	"testing"
	"unsafe"

	"hoard/api"
	"hoard/rack"
	"hoard/tail"
)

// P12.1: the drives of a tail, of all geos that may be, in their order.
func TestDrives(t *testing.T) {
	for drives := 1; drives <= 12; drives++ {
		for parity := range drives {
			for _, tails := range []int{2, 3, 512} {
				g := geo(drives, parity, tails)
				for gen := uint64(1); gen < 40; gen++ {
					drivesAre(t, g, gen, wantDrives(g, gen)...)
				}
				for _, gen := range gens {
					drivesAre(t, g, gen, wantDrives(g, gen)...)
				}
			}
		}
	}
	g := geo(5, 2, 4)
	drivesAre(t, g, 1, 1, 2, 3)
	drivesAre(t, g, 3, 3, 4, 0)
	drivesAre(t, g, 4, 4, 0, 1)
	drivesAre(t, g, 5, 0, 1, 2)
	drivesAre(t, geo(5, 4, 4), 8, 3, 4, 0, 1, 2)
	drivesAre(t, geo(5, 0, 4), 8, 3)
	drivesAre(t, geo(1, 0, 4), 8, 0)
	drivesAre(t, geo(12, 3, 2), 1<<48, 4, 5, 6, 7)
	drivesAre(t, geo(7, 2, 2), 1<<48-1, 0, 1, 2)
}

// P12.1: no drives of a generation, or of a geo, that may not be.
func TestNoDrives(t *testing.T) {
	good := geo(3, 1, 4)
	for _, gen := range noGens {
		drivesAre(t, good, gen)
		drivesAre(t, api.Geo{}, gen)
	}
	for _, g := range unfit() {
		if !mayGeo(g) {
			drivesAre(t, g, 0)
			drivesAre(t, g, 1)
			drivesAre(t, g, 1<<48)
		}
	}
	for _, g := range []api.Geo{geo(13, 1, 4), geo(0, 0, 4), geo(-1, 0, 4), geo(3, -1, 4), geo(3, 3, 4), geo(3, 4, 4), geo(3, 1, 1), geo(3, 1, 513), {Drives: 3, Parity: 1, Sectors: 17, Tail: 4}, {Drives: 3, Parity: 1, Sectors: 4097, Tail: 4}} {
		drivesAre(t, g, 5)
	}
	drivesAre(t, api.Geo{Drives: 3, Parity: 1, Sectors: 4096, Tail: 4}, 5, 2, 0)
}

// drivesAre holds Drives to a list, which is new memory each time.
func drivesAre(t *testing.T, g api.Geo, gen uint64, want ...int) {
	t.Helper()
	l := tail.Drives(g, gen)
	if !slices.Equal(l, want) {
		t.Errorf("%+v, Drives of %d: %v, not %v", g, gen, l, want)
	}
	clear(l)
	if l := tail.Drives(g, gen); !slices.Equal(l, want) {
		t.Errorf("%+v, Drives of %d, again: %v, not %v", g, gen, l, want)
	}
}

// P12.1, P12.2, R3: a rack that is nil, or that New did not make, ahead of all else.
func TestNilRack(t *testing.T) {
	for _, r := range nones() {
		for _, g := range append(unfit(), geo(3, 1, 4), geo(1, 0, 2), geo(12, 11, 512), api.Geo{Drives: 3, Parity: 1, Sectors: 24, Tail: 2}) {
			for _, gen := range append([]uint64{1, 2, 1 << 48}, noGens...) {
				beginFails(t, r, g, gen, api.ErrNil)
				loadFails(t, r, g, gen, api.ErrNil)
			}
		}
	}
}

// P12.3, P12.4, R3: a tail that is nil, or that neither Begin nor Load told.
func TestNilTail(t *testing.T) {
	for _, x := range []*tail.Tail{nil, {}, new(tail.Tail)} {
		for range 2 {
			is(t, "Mend", x.Mend(), api.ErrNil)
			for _, n := range []int{0, 1, 34, 35, 1 << 16} {
				is(t, "Append", x.Append(long(n)), api.ErrNil)
			}
			room(t, x, 0)
			missingFails(t, x, api.ErrNil)
		}
	}
}

// P12.1, P12.2: a rack that does not fit the geo, a geo or a generation that may not be: nothing is done. That goes ahead of ErrDown, and of ErrLost.
func TestUnfit(t *testing.T) {
	good := api.Geo{Drives: 3, Parity: 1, Sectors: 24, Tail: 2}
	r, lost, down := sized(t, 3, 24), sized(t, 3, 24), sized(t, 3, 24)
	layAll(t, r, good, 5, "a")
	is(t, "Cut", down.Cut(0), api.OK)
	for _, r := range []*rack.Rack{r, lost, down} {
		stays(t, "what may not be", r, func() {
			for _, g := range unfit() {
				for _, gen := range append([]uint64{1, 2, 5, 1 << 48}, noGens...) {
					beginFails(t, r, g, gen, api.ErrArg)
					loadFails(t, r, g, gen, api.ErrArg)
				}
			}
			for _, gen := range noGens {
				beginFails(t, r, good, gen, api.ErrArg)
				loadFails(t, r, good, gen, api.ErrArg)
			}
		})
	}
}

// P12.1, P12.2: a geo that the rack fits may have any Parity and Tail that may be, and a generation be any from 1 to MaxGen.
func TestFits(t *testing.T) {
	for tails := 2; tails <= 7; tails++ {
		for parity := range 3 {
			for _, gen := range gens {
				g := api.Geo{Drives: 3, Parity: parity, Sectors: 24, Tail: tails}
				r, want := full(t, g), full(t, g)
				loadFails(t, r, g, gen, api.ErrLost)
				layAll(t, want, g, gen)
				x := begins(t, r, g, gen)
				same(t, fmt.Sprintf("%+v, Begin of %d", g, gen), r, want)
				room(t, x, 34*(tails-1))
				loads(t, r, g, gen)
			}
		}
	}
	for _, g := range []api.Geo{{Drives: 1, Sectors: 14, Tail: 2}, {Drives: 12, Parity: 11, Sectors: 4096, Tail: 512}, {Drives: 12, Parity: 0, Sectors: 1034, Tail: 512}} {
		for _, gen := range []uint64{1, 2, 1<<48 - 1, 1 << 48} {
			r := fresh(t, g)
			loadFails(t, r, g, gen, api.ErrLost)
			is(t, "Append", begins(t, r, g, gen).Append("a"), api.OK)
			loads(t, r, g, gen, "a")
		}
	}
}

// digits70 is a text of seventy bytes.
var digits70 = strings.Repeat("0123456789", 7)

// P12.1, P12.4: what stands in the sectors, byte by byte: the head, a record of one part, an empty one, and one of several; of an even Gen and of an odd one.
func TestBytes(t *testing.T) {
	g := geo(1, 0, 6)
	for _, x := range []struct {
		gen     uint64
		first   int
		records []string
		bytes   []string
	}{
		{5, 8, []string{"a"}, []string{
			"0b01050000010100730f1e0f",
			"110105010100010104e8b7be4361236171fa",
		}},
		{6, 2, []string{"", digits70}, []string{
			"0b01060000010100f59b6ca1",
			"0c010601010001010024bd4bae",
			"3201060102000103046e5428e130313233343536373839303132333435363738393031323334353637383930313233b0881c7a",
			"330106010201010103046e5428e1343536373839303132333435363738393031323334353637383930313233343536373a60b7c8",
			"130106010201020103046e5428e1383975d6e279",
		}},
		{1 << 48, 2, []string{strings.Repeat("x", 34)}, []string{
			"1107010000000000000000010100f17b57c3",
			"38070100000000000001010001010453d3469378787878787878787878787878787878787878787878787878787878787878787878ba0d2ada",
		}},
	} {
		r, want := full(t, g), full(t, g)
		for i, s := range x.bytes {
			bytes, err := hex.DecodeString(s)
			if err != nil {
				t.Fatal(err)
			}
			put(t, want, 0, x.first+i, whole(string(bytes)))
		}
		y := begins(t, r, g, x.gen)
		for _, text := range x.records {
			is(t, "Append", y.Append(text), api.OK)
		}
		same(t, fmt.Sprintf("Gen %d", x.gen), r, want)
		loads(t, want, g, x.gen, x.records...)
	}
}

// P12.1, P12.4: where a tail stands: on its drives alone, from its first sector on; all else stays as it is. It is written drive by drive, in their order, by rising numbers.
func TestWhere(t *testing.T) {
	for drives := 1; drives <= 5; drives++ {
		for parity := range drives {
			g := geo(drives, parity, 5)
			for gen := uint64(1); gen <= 12; gen++ {
				for cut := range 4*(parity+1) + 1 {
					where(t, g, gen, cut)
				}
			}
		}
	}
}

// where is one case of that: a head, and a record of three parts.
func where(t *testing.T, g api.Geo, gen uint64, cut int) {
	t.Helper()
	r, want := full(t, g), full(t, g)
	layAll(t, want, g, gen)
	x := begins(t, r, g, gen)
	l := bytesOf(groupOf(gen, 1, digits70))
	for n := range min(cut, len(l)*(g.Parity+1)) {
		put(t, want, wantDrives(g, gen)[n/len(l)], from(g, gen)+1+n%len(l), l[n%len(l)])
	}
	answer := api.ErrDown
	if cut >= len(l)*(g.Parity+1) {
		answer = api.OK
	}
	is(t, "Cut", r.Cut(cut), api.OK)
	is(t, "Append", x.Append(digits70), answer)
	is(t, "Lift", r.Lift(), api.OK)
	same(t, fmt.Sprintf("%+v, Gen %d, cut behind %d", g, gen, cut), r, want)
}

// P12.1: Begin is cut: no tail, and just a beginning of its writes.
func TestBeginCut(t *testing.T) {
	for drives := 1; drives <= 5; drives++ {
		for parity := range drives {
			g := geo(drives, parity, 4)
			for gen := uint64(1); gen <= 6; gen++ {
				for cut := range parity + 1 {
					r, want := full(t, g), full(t, g)
					for _, d := range wantDrives(g, gen)[:cut] {
						lay(t, want, g, gen, d, sector{gen: gen, parts: 1}.bytes())
					}
					is(t, "Cut", r.Cut(cut), api.OK)
					beginFails(t, r, g, gen, api.ErrDown)
					is(t, "Lift", r.Lift(), api.OK)
					same(t, "Begin", r, want)
				}
			}
		}
	}
}

// P12.1: Begin of a generation that was begun already: its records are gone.
func TestBeginAnew(t *testing.T) {
	for _, gen := range []uint64{5, 6} {
		g := geo(3, 1, 7)
		r, want := full(t, g), full(t, g)
		layAll(t, r, g, gen, "a", digits70, "b")
		layAll(t, want, g, gen)
		x := begins(t, r, g, gen)
		room(t, x, 6*34)
		for _, d := range wantDrives(g, gen) {
			if r.All(d)[64*from(g, gen):][:64] != (sector{gen: gen, parts: 1}).bytes() || r.Writes(d) != want.Writes(d)+10 { // the six that were laid, five of them cleared, the head alone in the other one
				t.Errorf("drive %d", d)
			}
			if r.All(d)[64*(from(g, gen)+1):][:5*64] != zeros(5*64) || r.All(d)[64*(from(g, gen)+6):] != want.All(d)[64*(from(g, gen)+6):] {
				t.Errorf("drive %d", d)
			}
		}
		loads(t, r, g, gen)
		is(t, "Append", x.Append("c"), api.OK)
		loads(t, r, g, gen, "c")
	}
}

// P12.1 to P12.4: all stands still, whatever stands on the drives.
func TestDown(t *testing.T) {
	for _, g := range []api.Geo{geo(1, 0, 4), geo(2, 1, 4), geo(3, 1, 4), geo(12, 4, 4)} {
		for _, spoilt := range [][]int{nil, {0}, {1}, {2}, {3}, {0, 1, 2, 3}} {
			for _, laid := range []bool{false, true} {
				r := fresh(t, g)
				x, y := begins(t, r, g, 5), begins(t, r, g, 5)
				for _, d := range wantDrives(g, 5) {
					if laid {
						lay(t, r, g, 5, d, bytesOf(tailOf(5, "a"))...)
					}
					for _, i := range spoilt {
						spoil(t, r, g, 5, d, i)
					}
				}
				stays(t, "standing still", r, func() {
					is(t, "Cut", r.Cut(0), api.OK)
					beginFails(t, r, g, 5, api.ErrDown)
					loadFails(t, r, g, 5, api.ErrDown)
					missingFails(t, x, api.ErrDown)
					is(t, "Mend", x.Mend(), api.ErrDown)
					is(t, "Append", y.Append("b"), api.ErrDown)
					missingFails(t, x, api.ErrDown)
					is(t, "Lift", r.Lift(), api.OK)
				})
				broken(t, r, x)
				broken(t, r, y)
			}
		}
	}
}

// wrongs are bytes that are nearly those of x, but not those.
func wrongs(x sector) []string {
	good := x.bytes()
	var l []string
	says := func(s string) {
		if len(s) <= 59 {
			l = append(l, sealed(s))
		}
	}
	for i := range 5 {
		for _, by := range []uint64{1, 2, 3, 34, 255, 256, 511, 512, 513, 1 << 16, 1 << 32, 1 << 40, 1 << 48, 1 << 56, 1 << 63} {
			for _, n := range []uint64{x.numbers()[i] + by, x.numbers()[i] - by} {
				y := x
				*[]*uint64{&y.gen, &y.number, &y.index, &y.parts, &y.sum}[i] = n
				says(y.says())
			}
		}
		says(strings.Join(longer(x, i), "") + x.piece)
		says(strings.Join(slices.Delete(longer(x, i), i, i+1), "") + x.piece)
	}
	says("")
	says(x.says() + "x")
	says(x.says() + "\x00")
	says(x.says()[:len(x.says())-1])
	says("\x00" + x.says())
	says(x.says()[1:])
	y := x
	y.piece = counted(x.piece)
	says(y.says())
	for i := range good {
		for b := range 8 {
			m := []byte(good)
			m[i] ^= 1 << b
			l = append(l, string(m))
		}
	}
	for n := range 256 {
		l = append(l, string([]byte{byte(n)})+good[1:])
	}
	l = append(l, zeros(64), strings.Repeat("\xff", 64), good[1:]+"\x00", "\x00"+good[:63])
	return slices.DeleteFunc(l, func(s string) bool { return s == good })
}

// longer are the bytes of the numbers of x, of which one has a byte 0 too many.
func longer(x sector, one int) []string {
	var l []string
	for i, n := range x.numbers() {
		s := number(n)
		if i == one {
			s = counted("\x00" + s[1:])
		}
		l = append(l, s)
	}
	return l
}

// some are records: of one part, of several, an empty one, one of a whole piece; in the sectors 1, 2 to 4, 5 and 6.
var some = []string{"a", digits70, "", strings.Repeat("x", 34)}

// someAhead is how many of them stand ahead of the group whose sector it is; the first one is the head's.
var someAhead = []int{-1, 0, 1, 1, 1, 2, 3}

// P12.2: a sector that is another one than that of the group's part, by whatever: of the drive's records those ahead of its group are left; without the head none is whole.
func TestOtherSector(t *testing.T) {
	for _, gen := range []uint64{1, 6, 255, 1 << 48} {
		g := geo(1, 0, 9)
		for i, x := range tailOf(gen, some...) {
			for _, s := range append(wrongs(x), others(gen, x)...) {
				r := fresh(t, g)
				layAll(t, r, g, gen, some...)
				lay(t, r, g, gen, 0, bytesOf(tailOf(gen, some...))[:i]...)
				put(t, r, 0, from(g, gen)+i, s)
				if i == 0 {
					loadFails(t, r, g, gen, api.ErrLost)
				} else {
					loads(t, r, g, gen, some[:someAhead[i]]...)
				}
			}
		}
	}
}

// others are the bytes of all sectors of a tail of some, but those of x.
func others(gen uint64, x sector) []string {
	l := bytesOf(tailOf(gen, some...))
	return slices.DeleteFunc(l, func(s string) bool { return s == x.bytes() })
}

// P12.2: what stands behind the records, and is no group behind them: it is not told.
func TestBehind(t *testing.T) {
	for _, gen := range []uint64{1, 6, 1 << 48} {
		g := geo(1, 0, 9)
		for _, text := range []string{"", "z", strings.Repeat("z", 34)} {
			x := groupOf(gen, 5, text)[0]
			for _, s := range append(wrongs(x), others(gen, x)...) {
				r := fresh(t, g)
				layAll(t, r, g, gen, some...)
				lay(t, r, g, gen, 0, append(bytesOf(tailOf(gen, some...)), s)...)
				loads(t, r, g, gen, some...)
			}
			r := fresh(t, g)
			layAll(t, r, g, gen, append(slices.Clone(some), text)...)
			loads(t, r, g, gen, append(slices.Clone(some), text)...)
		}
	}
}

// P12.2: a group all of whose parts say the same, but that is not there: pieces are not as long as they must be, or the sum is another one's.
func TestOtherGroup(t *testing.T) {
	for _, gen := range []uint64{1, 6} {
		g := geo(1, 0, 9)
		for _, sizes := range [][]int{{35}, {36}, {34, 0}, {33, 1}, {33, 34}, {34, 35}, {34, 33, 34}, {34, 34, 0}, {34, 34, 35}, {0, 34}, {1, 1}, {0, 0}, {35, 34}} {
			x := groupOf(gen, 2, "")[0]
			text := long(200)
			x.parts, x.sum = uint64(len(sizes)), crc(text[:sum(sizes)])
			group(t, g, gen, text, x, sizes, false)
		}
		for _, sizes := range [][]int{{0}, {1}, {33}, {34}, {34, 1}, {34, 33}, {34, 34}, {34, 34, 1}, {34, 34, 34, 34}} {
			x := groupOf(gen, 2, "")[0]
			text := long(200)
			x.parts, x.sum = uint64(len(sizes)), crc(text[:sum(sizes)])
			group(t, g, gen, text, x, sizes, true)
			for _, by := range []uint64{1, 1 << 31, crc("") - x.sum, crc("x") - x.sum, -x.sum} {
				y := x
				if y.sum = (x.sum + by) % (1 << 32); y.sum != x.sum {
					group(t, g, gen, text, y, sizes, false)
				}
			}
			y := x
			y.sum += 1 << 32
			group(t, g, gen, text, y, sizes, false)
		}
	}
}

// sum is that of numbers.
func sum(l []int) int {
	n := 0
	for _, x := range l {
		n += x
	}
	return n
}

// group holds Load to a group 2, whose sectors are as x, with pieces of these sizes, behind a record: it is there, or is not.
func group(t *testing.T, g api.Geo, gen uint64, text string, x sector, sizes []int, there bool) {
	t.Helper()
	r := fresh(t, g)
	layAll(t, r, g, gen, "a")
	want := []string{"a"}
	if there {
		want = append(want, text[:sum(sizes)])
	}
	at := 0
	for i, n := range sizes {
		x.index, x.piece = uint64(i), text[at:at+n]
		if len(x.says()) > 59 {
			return
		}
		at += n
		put(t, r, 0, from(g, gen)+2+i, x.bytes())
	}
	loads(t, r, g, gen, want...)
}

// P12.2: the head is the group 0 of an empty text, and nothing else is, whatever stands behind it.
func TestHead(t *testing.T) {
	for _, gen := range []uint64{1, 6} {
		g := geo(1, 0, 9)
		for _, n := range []int{1, 33, 34, 35, 68, 69, 100} {
			r := fresh(t, g)
			var l []sector
			for i, text := range []string{long(n), "a", "b"} {
				l = append(l, groupOf(gen, uint64(i), text)...)
			}
			lay(t, r, g, gen, 0, bytesOf(l)...)
			loadFails(t, r, g, gen, api.ErrLost)
		}
		for _, n := range []uint64{1, 2, 512} { // the groups begin with another number
			r := fresh(t, g)
			lay(t, r, g, gen, 0, bytesOf(append(groupOf(gen, n, ""), groupOf(gen, n+1, "a")...))...)
			loadFails(t, r, g, gen, api.ErrLost)
		}
		r := fresh(t, g)
		lay(t, r, g, gen, 0, append([]string{zeros(64)}, bytesOf(tailOf(gen, "a", "b"))...)...) // a sector too late
		loadFails(t, r, g, gen, api.ErrLost)
		lay(t, r, g, gen, 0, append(bytesOf(tailOf(gen)), bytesOf(tailOf(gen, "a", "b"))...)...) // two heads
		loads(t, r, g, gen)
		lay(t, r, g, gen, 0, append(bytesOf(tailOf(gen, "a")), bytesOf(groupOf(gen, 3, "c"))...)...) // a number is left out
		loads(t, r, g, gen, "a")
		lay(t, r, g, gen, 0, append(append(bytesOf(tailOf(gen, "a")), zeros(64)), bytesOf(groupOf(gen, 2, "b"))...)...) // a gap
		loads(t, r, g, gen, "a")
		lay(t, r, g, gen, 0, append(bytesOf(tailOf(gen, "a")), bytesOf(groupOf(gen, 1, "b"))...)...) // the same number twice
		loads(t, r, g, gen, "a")
	}
}

// P12.2: sectors that can't be read: a drive's tail is whole just if none of them was looked at.
func TestSpoilt(t *testing.T) {
	for _, gen := range []uint64{1, 6} {
		g := geo(1, 0, 9)
		for i := range g.Tail {
			r := fresh(t, g)
			layAll(t, r, g, gen, some...)
			spoil(t, r, g, gen, 0, i)
			if i <= 7 { // the seventh one is the first behind the records
				loadFails(t, r, g, gen, api.ErrLost)
			} else {
				loads(t, r, g, gen, some...)
			}
		}
		r := fresh(t, g)
		layAll(t, r, g, gen, some...)
		for s := range g.Sectors {
			if s < from(g, gen) || s >= from(g, gen)+8 {
				is(t, "Spoil", r.Spoil(0, s), api.OK)
			}
		}
		loads(t, r, g, gen, some...)
	}
}

// P12.2: up to which sector is looked: the first that is not as it must be; those behind it may be spoilt.
func TestLookedAt(t *testing.T) {
	for _, gen := range []uint64{1, 6} {
		g := geo(1, 0, 8)
		last := func(ahead []string, l []sector) { // all sectors of l are looked at, and none behind
			t.Helper()
			at := len(tailOf(gen, ahead...))
			for i := at; i < g.Tail; i++ {
				r := fresh(t, g)
				layAll(t, r, g, gen, ahead...)
				for j, x := range l {
					put(t, r, 0, from(g, gen)+at+j, x.bytes())
				}
				spoil(t, r, g, gen, 0, i)
				if i < at+len(l) {
					loadFails(t, r, g, gen, api.ErrLost)
				} else {
					loads(t, r, g, gen, ahead...)
				}
			}
		}
		change := func(l []sector, i int, do func(x *sector)) []sector {
			do(&l[i])
			return l[:i+1]
		}
		last([]string{"a"}, groupOf(gen, 3, "b"))
		last([]string{"a"}, groupOf(gen+2, 2, "b"))
		for i := range 3 {
			last([]string{"a"}, change(groupOf(gen, 2, digits70), i, func(x *sector) { x.gen += 2 }))
			last([]string{"a"}, change(groupOf(gen, 2, digits70), i, func(x *sector) { x.number++ }))
			last([]string{"a"}, change(groupOf(gen, 2, digits70), i, func(x *sector) { x.index++ }))
			last([]string{"a"}, change(groupOf(gen, 2, digits70), i, func(x *sector) { x.piece += "x" }))
			last([]string{"a"}, change(groupOf(gen, 2, digits70), i, func(x *sector) { x.parts = 513 }))
			last([]string{"a"}, change(groupOf(gen, 2, digits70), i, func(x *sector) { x.parts = 0 }))
		}
		for i := 1; i < 3; i++ {
			last([]string{"a"}, change(groupOf(gen, 2, digits70), i, func(x *sector) { x.parts = 512 }))
			last([]string{"a"}, change(groupOf(gen, 2, digits70), i, func(x *sector) { x.sum++ }))
		}
		other := groupOf(gen, 2, digits70) // the text is just known by all of them
		for i := range other {
			other[i].sum++
		}
		last([]string{"a"}, other)
		more := groupOf(gen, 2, long(34*512)) // as many parts as may be: more than there are sectors
		last([]string{"a"}, more[:6])
		last([]string{"a"}, append(more[:3:3], groupOf(gen, 2, "b")[0]))
	}
}

// P12.2: a group with more parts than there are sectors left is not there, be it ever so right; the sectors of the other tail, and of rows, are none of this.
func TestPastTheEnd(t *testing.T) {
	for _, gen := range []uint64{1, 6} {
		g := geo(1, 0, 4)
		r := fresh(t, g)
		for i, x := range tailOf(gen, "a", digits70, "b") {
			put(t, r, 0, from(g, gen)+i, x.bytes())
		}
		loads(t, r, g, gen, "a")
		r = fresh(t, g)
		for i, x := range tailOf(gen, "a", "b", "c", "d", "e") {
			put(t, r, 0, from(g, gen)+i, x.bytes())
		}
		room(t, loads(t, r, g, gen, "a", "b", "c"), 0)
		is(t, "Spoil", r.Spoil(0, from(g, gen)+4), api.OK)
		is(t, "Spoil", r.Spoil(0, from(g, gen)-1), api.OK)
		loads(t, r, g, gen, "a", "b", "c")
		loads(t, r, g, gen+2*uint64(g.Drives)-2, "a", "b", "c")
	}
}

// P12.2: records of all numbers of parts, up to the greatest tail's.
func TestLongest(t *testing.T) {
	g := geo(1, 0, 512)
	for _, n := range []int{34 * 511, 34*511 - 1, 34*511 - 33, 34 * 510, 34 * 256, 34*255 + 1, 34} {
		r, want := fresh(t, g), fresh(t, g)
		x := begins(t, r, g, 2)
		is(t, "Append", x.Append(long(n)), api.OK)
		layAll(t, want, g, 2, long(n))
		same(t, "Append", r, want)
		y := loads(t, r, g, 2, long(n))
		is(t, "Mend", y.Mend(), api.OK)
		same(t, "Mend", r, want)
	}
	r := fresh(t, g)
	x := begins(t, r, g, 2)
	var all []string
	for i := range 511 {
		all = append(all, long(i%35))
		room(t, x, 34*(511-i))
		is(t, "Append", x.Append(all[i]), api.OK)
	}
	room(t, x, 0)
	is(t, "Append", x.Append(""), api.ErrFull)
	y := loads(t, r, g, 2, all...)
	is(t, "Wipe", r.Wipe(0), api.OK)
	is(t, "Mend", y.Mend(), api.OK)
	loads(t, r, g, 2, all...)
}

// stands is what may stand on a drive: sectors, one of which may be spoilt; and what its records are, if its tail is whole.
type stands struct {
	sectors []sector
	spoilt  int // -1: none
	whole   bool
	records []string
}

// P12.2: of drives whose tails are unlike, the first one that is whole with the most records.
func TestUnlike(t *testing.T) {
	for _, gen := range []uint64{5, 6} {
		var l []stands
		for _, records := range [][]string{nil, {"a"}, {"b"}, {"a", "c"}, {"b", "d"}} {
			l = append(l, stands{tailOf(gen, records...), -1, true, records})
		}
		l = append(l,
			stands{nil, -1, false, nil},
			stands{tailOf(gen, "e", "f", "g"), 2, false, nil},
			stands{tailOf(gen, "e", "f")[1:], -1, false, nil},
			stands{tailOf(gen, "h", digits70)[:4], -1, true, []string{"h"}}, // its last part is not there
		)
		g := geo(4, 2, 5)
		drives := wantDrives(g, gen)
		for _, a := range l {
			for _, b := range l {
				for _, c := range l {
					r := fresh(t, g)
					lay(t, r, g, gen, (drives[0]+3)%4, bytesOf(tailOf(gen, "a", "c", "i"))...) // none of its drives
					var best stands
					for i, x := range []stands{a, b, c} {
						lay(t, r, g, gen, drives[i], bytesOf(x.sectors)...)
						if x.spoilt >= 0 {
							spoil(t, r, g, gen, drives[i], x.spoilt)
						}
						if x.whole && (!best.whole || len(x.records) > len(best.records)) {
							best = x
						}
					}
					if !best.whole {
						loadFails(t, r, g, gen, api.ErrLost)
						continue
					}
					mends(t, r, g, gen, best.records)
				}
			}
		}
	}
}

// mends holds what Load tells to these records, and Mend to giving them to all drives.
func mends(t *testing.T, r *rack.Rack, g api.Geo, gen uint64, records []string) {
	t.Helper()
	x := loads(t, r, g, gen, records...)
	is(t, "Mend", x.Mend(), api.OK)
	want := bytesOf(tailOf(gen, records...))
	for _, d := range wantDrives(g, gen) {
		for i := range g.Tail {
			s, e := r.Read(d, from(g, gen)+i)
			x, is := sectorIn(s)
			if e != api.OK || i < len(want) && s != want[i] || i >= len(want) && is && x.gen == gen {
				t.Errorf("%+v, Gen %d, the sector %d of %d: %x %v, behind Mend of %q", g, gen, i, d, s, e, records)
			}
		}
	}
	misses(t, r, x)
	loads(t, r, g, gen, records...)
	stays(t, "Mend again", r, func() { is(t, "Mend", x.Mend(), api.OK) })
}

// thing is what may stand in a sector: a sector of that Gen, or not.
type thing struct {
	name string
	own  bool
	text string // spoilt, if it is empty
}

// things are such.
func things(gen uint64) []thing {
	l := []thing{{"spoilt", true, ""}, {"nothing", false, zeros(64)}, {"other bytes", false, strings.Repeat("o", 64)}}
	add := func(name string, own bool, x sector) {
		if len(x.says()) <= 59 {
			l = append(l, thing{name, own, x.bytes()})
		}
	}
	for _, n := range []uint64{0, 1, 2, 3, 5, 255, 256, 511, 512} {
		add("of a group", true, sector{gen, n, 0, 1, crc("y"), "y"})
		add("of a group, an empty one", true, sector{gen, n, 0, 1, 0, ""})
		add("of a group, with a sum that is none of its text", true, sector{gen, n, 0, 1, 1<<32 - 1, "y"})
		add("of a group, a whole piece", true, sector{gen, n, 0, 1, 7, long(34)})
		add("of a group, a piece that is too long", false, sector{gen, n, 0, 1, 7, long(35)})
		add("of a group, a first part", true, sector{gen, n, 0, 2, 7, long(34)})
		add("of a group, a first part that is too short", false, sector{gen, n, 0, 2, 7, long(33)})
		add("of a group, a first part that is empty", false, sector{gen, n, 0, 2, 7, ""})
		add("of a group, a first part that is too long", false, sector{gen, n, 0, 2, 7, long(35)})
		add("of a group, a last part", true, sector{gen, n, 1, 2, 7, long(34)})
		add("of a group, a short last part", true, sector{gen, n, 1, 2, 7, "y"})
		add("of a group, a last part that is empty", false, sector{gen, n, 1, 2, 7, ""})
		add("of a group, a last part that is too long", false, sector{gen, n, 1, 2, 7, long(35)})
		add("of a group, a part in the middle", true, sector{gen, n, 2, 4, 7, long(34)})
		add("of a group, a part in the middle that is too short", false, sector{gen, n, 2, 4, 7, long(33)})
		add("of a group, the last part of many", true, sector{gen, n, 511, 512, 7, "y"})
		add("of a group, the last part but one of many", true, sector{gen, n, 510, 512, 7, long(34)})
		add("of a group, a part of too many", false, sector{gen, n, 512, 513, 7, "y"})
		add("of a group, the first part of too many", false, sector{gen, n, 0, 513, 7, long(34)})
		add("of a group, a part that is not there", false, sector{gen, n, 1, 1, 7, "y"})
		add("of a group, a part behind the last one", false, sector{gen, n, 3, 2, 7, "y"})
		add("of a group, a part behind the last one of many", false, sector{gen, n, 512, 512, 7, "y"})
		add("of a group without parts", false, sector{gen, n, 0, 0, 7, ""})
		add("of a group, a sum that is too great", false, sector{gen, n, 0, 1, 1 << 32, "y"})
	}
	for _, n := range []uint64{513, 514, 768, 1 << 32, 1 << 48, 1<<64 - 1} {
		add("of no group", false, sector{gen, n, 0, 1, crc("y"), "y"})
		add("of no group, an empty one", false, sector{gen, n, 0, 1, 0, ""})
	}
	for _, n := range []uint64{gen + 1, gen + 2, gen - 1, gen - 2, gen + 256, gen + 1<<32, 1 << 48, 1<<48 + gen, 0} {
		if n != gen {
			add("of another generation", false, sector{n, 1, 0, 1, crc("y"), "y"})
			add("another generation's head", false, sector{n, 0, 0, 1, 0, ""})
		}
	}
	x := sector{gen, 2, 0, 1, crc("y"), "y"}
	for i, s := range wrongs(x) {
		if y, is := sectorIn(s); !is || y.gen != gen {
			l = append(l, thing{fmt.Sprintf("wrong %d", i), false, s})
		}
	}
	return l
}

// stand lets a thing stand in a sector of a tail.
func (x thing) stand(t *testing.T, r *rack.Rack, g api.Geo, gen uint64, d, i int) {
	t.Helper()
	if x.text == "" {
		spoil(t, r, g, gen, d, i)
		return
	}
	put(t, r, d, from(g, gen)+i, x.text)
}

// P12.3, P12.4: what Mend writes of the sectors behind the records, and what it leaves alone; Missing tells it.
func TestMendBehind(t *testing.T) {
	for _, gen := range []uint64{1, 6, 1<<48 - 2} {
		g := geo(3, 1, 7)
		for _, x := range things(gen) {
			for _, i := range []int{4, 6} {
				for _, d := range wantDrives(g, gen)[i/5:][:1] {
					r, want := fresh(t, g), fresh(t, g)
					layAll(t, r, g, gen, "a", long(40))
					layAll(t, want, g, gen, "a", long(40))
					y := loads(t, r, g, gen, "a", long(40))
					x.stand(t, r, g, gen, d, i)
					x.stand(t, want, g, gen, d, i)
					if x.own {
						misses(t, r, y, d)
						put(t, want, d, from(g, gen)+i, "")
					} else {
						misses(t, r, y)
					}
					is(t, "Mend", y.Mend(), api.OK)
					same(t, fmt.Sprintf("Gen %d, %s in the sector %d of %d", gen, x.name, i, d), r, want)
					misses(t, r, y)
				}
			}
		}
	}
}

// P12.3, P12.4: what Mend writes of the sectors that the head and the records have: all that are other ones.
func TestMendRecords(t *testing.T) {
	for _, gen := range []uint64{1, 6} {
		g := geo(3, 1, 7)
		l := tailOf(gen, "a", long(40))
		for i := range l {
			for _, x := range append(things(gen), thing{"the next one", true, l[(i+1)%len(l)].bytes()}) {
				if x.text == l[i].bytes() {
					continue
				}
				for _, d := range wantDrives(g, gen)[i%2:][:1] {
					r, want := fresh(t, g), fresh(t, g)
					layAll(t, r, g, gen, "a", long(40))
					layAll(t, want, g, gen, "a", long(40))
					y := loads(t, r, g, gen, "a", long(40))
					x.stand(t, r, g, gen, d, i)
					x.stand(t, want, g, gen, d, i)
					misses(t, r, y, d)
					put(t, want, d, from(g, gen)+i, l[i].bytes())
					is(t, "Mend", y.Mend(), api.OK)
					same(t, fmt.Sprintf("Gen %d, %s in the sector %d of %d", gen, x.name, i, d), r, want)
					misses(t, r, y)
				}
			}
		}
	}
}

// P12.3: each byte of a sector that a record has, turned, is mended.
func TestMendEachByte(t *testing.T) {
	g := geo(1, 0, 4)
	r, want := fresh(t, g), fresh(t, g)
	layAll(t, want, g, 5, "a", "b")
	layAll(t, r, g, 5, "a", "b")
	x := loads(t, r, g, 5, "a", "b")
	for i, s := range bytesOf(tailOf(5, "a", "b")) {
		for j := range s {
			m := []byte(s)
			m[j] ^= 1
			put(t, r, 0, from(g, 5)+i, string(m))
			misses(t, r, x, 0)
			is(t, "Mend", x.Mend(), api.OK)
			if r.All(0) != want.All(0) {
				t.Errorf("sector %d, byte %d", i, j)
			}
		}
	}
}

// P12.3: the order of what Mend writes: drive by drive; of each, the sectors behind the records by rising numbers, then the others by falling ones.
func TestMendOrder(t *testing.T) {
	for _, gen := range []uint64{4, 5} { // the drives 1 and 2, 2 and 0
		g := geo(3, 1, 8)
		order := []int{4, 5, 7, 3, 2, 1, 0} // the sixth one is right
		l := append(bytesOf(tailOf(gen, "a", long(40))), "", "", "", "")
		begin := func() (*rack.Rack, *tail.Tail) {
			r := fresh(t, g)
			layAll(t, r, g, gen, "a", long(40))
			x := loads(t, r, g, gen, "a", long(40))
			for _, d := range wantDrives(g, gen) {
				lay(t, r, g, gen, d, bytesOf(tailOf(gen, "b", "c", "d", "e", "f"))...)
				spoil(t, r, g, gen, d, 0)
				spoil(t, r, g, gen, d, 7)
			}
			return r, x
		}
		for cut := range 2*len(order) + 1 {
			r, x := begin()
			want, _ := begin()
			for n := range cut {
				i := order[n%len(order)]
				put(t, want, wantDrives(g, gen)[n/len(order)], from(g, gen)+i, l[i])
			}
			answer := api.ErrDown
			if cut == 2*len(order) {
				answer = api.OK
			}
			is(t, "Cut", r.Cut(cut), api.OK)
			is(t, "Mend", x.Mend(), answer)
			is(t, "Lift", r.Lift(), api.OK)
			same(t, fmt.Sprintf("cut behind %d", cut), r, want)
			if answer == api.ErrDown {
				broken(t, r, x)
			} else {
				misses(t, r, x)
			}
		}
	}
}

// P12.3: all sectors of a drive are read, also where nothing is written: behind the last write that a cut allows, the next drive's reading is refused.
func TestMendReads(t *testing.T) {
	g := geo(3, 2, 4)
	for _, x := range []struct {
		wiped, cut int
		want       api.Errno
	}{
		{-1, 0, api.ErrDown}, {-1, 1, api.OK},
		{2, 2, api.ErrDown}, {2, 3, api.ErrDown}, {2, 4, api.OK}, // the first of its drives
		{0, 2, api.ErrDown}, {0, 3, api.ErrDown}, {0, 4, api.OK},
		{1, 2, api.ErrDown}, {1, 3, api.OK}, // the last one
	} {
		r := fresh(t, g)
		layAll(t, r, g, 5, "a", "b")
		y := loads(t, r, g, 5, "a", "b")
		if x.wiped >= 0 {
			is(t, "Wipe", r.Wipe(x.wiped), api.OK)
		}
		is(t, "Cut", r.Cut(x.cut), api.OK)
		is(t, fmt.Sprintf("%+v, Mend", x), y.Mend(), x.want)
		is(t, "Lift", r.Lift(), api.OK)
		if x.want != api.OK {
			broken(t, r, y)
		}
	}
}

// P12.3: whatever stands on the drives, wherever it is cut: Mend writes what it must, in its order.
func TestMendWhatever(t *testing.T) {
	c := chance(5)
	for range 200 {
		drives := 1 + c.below(4)
		g, gen := geo(drives, c.below(drives), 3+c.below(5)), uint64(1+c.below(9))
		seed := c
		for cut := 0; ; cut++ {
			c = seed
			r, x := ruined(t, &c, g, gen)
			c = seed
			want, y := ruined(t, &c, g, gen)
			m := &model{r: want, g: g, gen: gen, list: y.list}
			l, e := m.missing()
			is(t, "missing", e, api.OK)
			misses(t, r, x.t, l...)
			is(t, "Cut", r.Cut(cut), api.OK)
			is(t, "Cut", want.Cut(cut), api.OK)
			e = m.mend()
			is(t, "Mend", x.t.Mend(), e)
			is(t, "Lift", r.Lift(), api.OK)
			is(t, "Lift", want.Lift(), api.OK)
			same(t, fmt.Sprintf("%+v, Gen %d, cut behind %d", g, gen, cut), r, want)
			if e == api.OK {
				break
			}
		}
	}
}

// laid is a tail, and its records.
type laid struct {
	t    *tail.Tail
	list []string
}

// ruined makes a rack, whose drives have anything, and a tail of some records on it.
func ruined(t *testing.T, c *chance, g api.Geo, gen uint64) (*rack.Rack, laid) {
	t.Helper()
	r := full(t, g)
	x := laid{t: begins(t, r, g, gen)}
	for range c.below(4) {
		if text := c.text(c.below(80)); x.t.Append(text) == api.OK {
			x.list = append(x.list, text)
		}
	}
	l := things(gen)
	for _, d := range wantDrives(g, gen) {
		for i := range g.Tail {
			if c.below(3) == 0 {
				l[c.below(len(l))].stand(t, r, g, gen, d, i)
			}
		}
	}
	return r, x
}

// P12.4: texts at each bound: of PieceSize, and of the room that is left; Room behind each.
func TestAppend(t *testing.T) {
	for _, gen := range []uint64{5, 6} {
		for tails := 2; tails <= 6; tails++ {
			g := geo(3, 1, tails)
			for _, first := range []int{0, 1, 33, 34, 35, 67, 68, 69, 101, 102, 103, 136, 137, 170, 171} {
				for _, second := range []int{0, 1, 34, 35, 68, 69, 102, 103} {
					r, want := full(t, g), full(t, g)
					layAll(t, want, g, gen)
					x := begins(t, r, g, gen)
					left := tails - 1
					var l []string
					for _, n := range []int{first, second, 0} {
						room(t, x, 34*left)
						has := max(1, (n+33)/34)
						if has > left {
							stays(t, "Append", r, func() { is(t, "Append", x.Append(long(n)), api.ErrFull) })
							continue
						}
						is(t, "Append", x.Append(long(n)), api.OK)
						left -= has
						l = append(l, long(n))
						for _, d := range wantDrives(g, gen) {
							at := from(g, gen) + tails - 1 - left - has + 1
							for i, y := range groupOf(gen, uint64(len(l)), long(n)) {
								put(t, want, d, at+i, y.bytes())
							}
						}
					}
					room(t, x, 34*left)
					same(t, fmt.Sprintf("%+v, Gen %d, %d and %d bytes", g, gen, first, second), r, want)
					misses(t, r, x)
					loads(t, r, g, gen, l...)
				}
			}
		}
	}
}

// P12.4: Append to a tail that Load told goes on behind the records that it has.
func TestAppendToLoaded(t *testing.T) {
	g := geo(3, 1, 9)
	r := full(t, g)
	layAll(t, r, g, 5)
	var l []string
	for _, text := range []string{"a", "", digits70, strings.Repeat("x", 34), strings.Repeat("y", 68)} {
		x := loads(t, r, g, 5, l...)
		is(t, "Append", x.Append(text), api.OK)
		l = append(l, text)
		misses(t, r, x)
		want := fresh(t, g)
		layAll(t, want, g, 5, l...)
		for _, d := range []int{2, 0} {
			at, n := 64*from(g, 5), 64*len(tailOf(5, l...))
			if r.All(d)[at:at+n] != want.All(d)[at:at+n] {
				t.Errorf("drive %d, %q", d, l)
			}
		}
	}
	is(t, "Append", loads(t, r, g, 5, l...).Append(""), api.ErrFull)
}

// P12.4: Append writes its sectors, whatever stands there, and looks at none: neither there nor elsewhere.
func TestAppendOver(t *testing.T) {
	for _, gen := range []uint64{1, 6} {
		g := geo(2, 1, 6)
		for _, thing := range things(gen) {
			r, want := full(t, g), full(t, g)
			layAll(t, want, g, gen)
			x := begins(t, r, g, gen)
			for _, r := range []*rack.Rack{r, want} {
				for d := range 2 {
					for _, i := range []int{0, 2, 4} {
						thing.stand(t, r, g, gen, d, i)
					}
				}
			}
			for _, d := range wantDrives(g, gen) {
				for i, y := range groupOf(gen, 1, digits70) {
					put(t, want, d, from(g, gen)+1+i, y.bytes())
				}
			}
			is(t, "Append", x.Append(digits70), api.OK)
			same(t, thing.name, r, want)
		}
	}
}

// P12.4: ErrFull writes nothing, goes ahead of ErrDown, and breaks nothing.
func TestFull(t *testing.T) {
	g := geo(3, 1, 4)
	r := fresh(t, g)
	x := begins(t, r, g, 5)
	is(t, "Cut", r.Cut(0), api.OK)
	for _, n := range []int{103, 136, 1000, 34 * 512, 34*512 + 1, 1 << 20} {
		is(t, "Append", x.Append(strings.Repeat("x", n)), api.ErrFull)
	}
	is(t, "Lift", r.Lift(), api.OK)
	room(t, x, 102)
	is(t, "Append", x.Append("a"), api.OK)
	is(t, "Append", x.Append(long(69)), api.ErrFull)
	is(t, "Mend", x.Mend(), api.OK)
	is(t, "Append", x.Append(long(68)), api.OK)
	is(t, "Cut", r.Cut(0), api.OK)
	is(t, "Append", x.Append(""), api.ErrFull)
	is(t, "Lift", r.Lift(), api.OK)
	is(t, "Mend", x.Mend(), api.OK)
	loads(t, r, g, 5, "a", long(68))
}

// P12.3, P12.4: a tail is broken by an error of the rack that its Append or its Mend told, and by nothing else; another tail of the same records is not.
func TestBroken(t *testing.T) {
	g := geo(3, 1, 6)
	begin := func() (*rack.Rack, *tail.Tail) {
		r := fresh(t, g)
		x := begins(t, r, g, 5)
		is(t, "Append", x.Append("a"), api.OK)
		return r, x
	}
	for cut := range 4 {
		r, x := begin()
		is(t, "Cut", r.Cut(cut), api.OK)
		is(t, "Append", x.Append(long(40)), api.ErrDown)
		is(t, "Append, again", x.Append("b"), api.ErrState)
		is(t, "Mend", x.Mend(), api.ErrState) // ahead of ErrDown
		is(t, "Append", x.Append(long(1000)), api.ErrState)
		missingFails(t, x, api.ErrDown)
		is(t, "Lift", r.Lift(), api.OK)
		broken(t, r, x)
		room(t, x, 4*34) // the record is none of it
		misses(t, r, x, [][]int{nil, {2}, {2}, {0, 2}}[cut]...)
		y := loads(t, r, g, 5, [][]string{{"a"}, {"a"}, {"a", long(40)}, {"a", long(40)}}[cut]...)
		is(t, "Mend of another one", y.Mend(), api.OK)
		is(t, "Append to another one", y.Append("b"), api.OK)
		broken(t, r, x)
	}
	r, x := begin()
	is(t, "Wipe", r.Wipe(0), api.OK)
	is(t, "Cut", r.Cut(1), api.OK)
	is(t, "Mend", x.Mend(), api.ErrDown)
	is(t, "Mend", x.Mend(), api.ErrState)
	is(t, "Lift", r.Lift(), api.OK)
	broken(t, r, x)
	room(t, x, 4*34)
	misses(t, r, x, 0)
	for range 3 { // Missing breaks nothing, nor does a Mend that was done
		r, x := begin()
		is(t, "Wipe", r.Wipe(2), api.OK)
		is(t, "Cut", r.Cut(0), api.OK)
		missingFails(t, x, api.ErrDown)
		is(t, "Lift", r.Lift(), api.OK)
		misses(t, r, x, 2)
		is(t, "Mend", x.Mend(), api.OK)
		is(t, "Append", x.Append("b"), api.OK)
		is(t, "Mend", x.Mend(), api.OK)
		loads(t, r, g, 5, "a", "b")
	}
}

// P12.4: Missing tells the drives by rising numbers, whichever is the first one; others than the tail's are none of them.
func TestMissing(t *testing.T) {
	g := geo(5, 3, 4)
	for gen := uint64(1); gen <= 10; gen++ {
		for lost := range 1 << 5 {
			for _, lose := range []func(r *rack.Rack, d int){
				func(r *rack.Rack, d int) { r.Wipe(d) },
				func(r *rack.Rack, d int) { r.Spoil(d, from(g, gen)) },
				func(r *rack.Rack, d int) { r.Spoil(d, from(g, gen)+3) },
				func(r *rack.Rack, d int) { r.Write(d, from(g, gen)+2, sector{gen: gen, number: 9, parts: 1}.bytes()) },
			} {
				r := fresh(t, g)
				x := begins(t, r, g, gen)
				is(t, "Append", x.Append("a"), api.OK)
				var want []int
				for d := range 5 {
					if lost>>d&1 == 1 {
						lose(r, d)
						if slices.Contains(wantDrives(g, gen), d) {
							want = append(want, d)
						}
					}
				}
				misses(t, r, x, want...)
			}
		}
	}
}

// way is one to lose what a drive has.
type way struct {
	name string
	lose func(r *rack.Rack, g api.Geo, gen uint64, d int)
}

// ways are such: a drive is wiped, or made unreadable in part.
func ways() []way {
	l := []way{
		{"Wipe", func(r *rack.Rack, _ api.Geo, _ uint64, d int) { r.Wipe(d) }},
		{"Spoil of all", func(r *rack.Rack, g api.Geo, _ uint64, d int) {
			for s := range g.Sectors {
				r.Spoil(d, s)
			}
		}},
	}
	for i := range 3 {
		l = append(l, way{fmt.Sprintf("Spoil of %d", i), func(r *rack.Rack, g api.Geo, gen uint64, d int) { r.Spoil(d, from(g, gen)+i) }})
	}
	return append(l, way{"Spoil of the last one", func(r *rack.Rack, g api.Geo, gen uint64, d int) { r.Spoil(d, from(g, gen)+g.Tail-1) }})
}

// P12.5: wherever the writes of an Append are cut, whichever drives are lost: Load tells the records ahead of it, and that one, or not; with more than Parity lost that, or ErrLost. Behind Mend all drives have what was told.
func TestFollows(t *testing.T) {
	for drives := 1; drives <= 4; drives++ {
		for parity := range drives {
			for _, gen := range []uint64{1, 6} {
				g := geo(drives, parity, 6)
				for _, texts := range [][]string{{"b"}, {"a", ""}, {"a", digits70}} {
					ahead, text := texts[:len(texts)-1], texts[len(texts)-1]
					for cut := range len(groupOf(gen, 1, text))*(parity+1) + 1 {
						for lost := range 1 << drives {
							follows(t, g, gen, ahead, text, cut, lost)
						}
					}
				}
			}
		}
	}
}

// follows is one case of that: drives that are lost are told by bits.
func follows(t *testing.T, g api.Geo, gen uint64, ahead []string, text string, cut, lost int) {
	t.Helper()
	with := append(slices.Clone(ahead), text)
	sure := len(groupOf(gen, 1, text)) // as many writes as the first drive has
	for _, way := range ways() {
		r := full(t, g)
		layAll(t, r, g, gen, ahead...)
		x := loads(t, r, g, gen, ahead...)
		r.Cut(cut)
		if e := x.Append(text); (e == api.OK) != (cut >= sure*(g.Parity+1)) {
			t.Errorf("cut behind %d: %v", cut, e)
		}
		r.Lift()
		n := 0
		for d := range g.Drives {
			if lost>>d&1 == 1 {
				way.lose(r, g, gen, d)
				n++
			}
		}
		y, l, e := tail.Load(r, g, gen)
		switch {
		case e == api.ErrLost && n > g.Parity:
			continue
		case e != api.OK, !slices.Equal(l, ahead) && !slices.Equal(l, with):
			t.Errorf("%+v, Gen %d, cut behind %d, %b lost by %s: %q %v, of %q", g, gen, cut, lost, way.name, l, e, with)
			continue
		case n == 0 && slices.Equal(l, with) != (cut >= sure):
			t.Errorf("%+v, Gen %d, cut behind %d: %q", g, gen, cut, l)
		}
		is(t, "Mend", y.Mend(), api.OK)
		mends(t, r, g, gen, l)
	}
}

// P12.5: behind a Mend that was done, whichever drives are lost and wherever the Mend behind that is cut, Load tells the same, or ErrLost if more than Parity are lost; never less.
func TestNeverLess(t *testing.T) {
	for drives := 1; drives <= 4; drives++ {
		for parity := range drives {
			for _, gen := range []uint64{2, 7} {
				g := geo(drives, parity, 6)
				for _, records := range [][]string{nil, {"a", "b", "c"}, {digits70, "b"}} {
					for lost := range 1 << drives {
						neverLess(t, g, gen, records, lost)
					}
				}
			}
		}
	}
}

// neverLess is one case of that.
func neverLess(t *testing.T, g api.Geo, gen uint64, records []string, lost int) {
	t.Helper()
	for _, way := range ways() {
		for cut := 0; ; cut++ {
			r := full(t, g)
			layAll(t, r, g, gen, records...)
			n := 0
			for d := range g.Drives {
				if lost>>d&1 == 1 {
					way.lose(r, g, gen, d)
					n++
				}
			}
			if _, is := tells(t, r, g, gen); !is && n > g.Parity {
				break
			}
			x := loads(t, r, g, gen, records...)
			r.Cut(cut)
			e := x.Mend()
			r.Lift()
			loads(t, r, g, gen, records...)
			for d := range g.Drives { // those that were not lost yet, one by one
				if lost>>d&1 == 0 {
					r.Wipe(d)
				}
				if l, is := tells(t, r, g, gen); is && !slices.Equal(l, records) {
					t.Errorf("%+v, Gen %d, %b lost by %s, cut behind %d: %q, not %q", g, gen, lost, way.name, cut, l, records)
				}
			}
			if e == api.OK {
				break
			}
		}
	}
}

// tells is what Load tells; false, if it is ErrLost.
func tells(t *testing.T, r *rack.Rack, g api.Geo, gen uint64) ([]string, bool) {
	t.Helper()
	_, l, e := tail.Load(r, g, gen)
	if e != api.OK {
		is(t, "Load", e, api.ErrLost)
	}
	return l, e == api.OK
}

// P12.5, too: records go on, one behind the other, while writes are cut and drives are lost, and all is mended behind: what was told behind a cut is told from then on.
func TestGoesOn(t *testing.T) {
	c := chance(17)
	for range 120 {
		drives := 1 + c.below(5)
		goOn(t, &c, geo(drives, c.below(drives), 40), uint64(1+c.below(20)))
	}
}

// goOn does so on one rack.
func goOn(t *testing.T, c *chance, g api.Geo, gen uint64) {
	t.Helper()
	r := full(t, g)
	begins(t, r, g, gen)
	var sure []string
	for i := range 20 {
		x := loads(t, r, g, gen, sure...)
		loseSome(c, r, g, gen)
		for e := api.ErrDown; e != api.OK; { // till no cut ends it
			x = loads(t, r, g, gen, sure...)
			r.Cut(c.below(60))
			e = x.Mend()
			r.Lift()
		}
		text := c.text(c.below(80))
		r.Cut(c.below(8))
		e := x.Append(text)
		r.Lift()
		loseSome(c, r, g, gen)
		_, l, f := tail.Load(r, g, gen)
		with := append(slices.Clone(sure), text)
		if f != api.OK || !slices.Equal(l, sure) && (e == api.ErrFull || !slices.Equal(l, with)) || e == api.OK && !slices.Equal(l, with) {
			t.Fatalf("%+v, Gen %d, step %d: %q %v, of %q (%v)", g, gen, i, l, f, with, e)
		}
		sure = l
		for e := api.ErrDown; e != api.OK; {
			x = loads(t, r, g, gen, sure...)
			r.Cut(c.below(60))
			e = x.Mend()
			r.Lift()
		}
	}
}

// loseSome lets at most Parity drives be lost.
func loseSome(c *chance, r *rack.Rack, g api.Geo, gen uint64) {
	for range g.Parity {
		if c.below(3) == 0 {
			l := ways()
			l[c.below(len(l))].lose(r, g, gen, c.below(g.Drives))
		}
	}
}

// R5: an answer is memory of its own, and stays as it was whatever is done then; what is done to it changes no tail.
func TestAnswersStay(t *testing.T) {
	g := geo(5, 2, 6)
	r := fresh(t, g)
	layAll(t, r, g, 4, "a", "b")
	x, a, _ := tail.Load(r, g, 4)
	y, b, _ := tail.Load(r, g, 4)
	a[0], a[1] = "c", "d"
	_ = append(a[:1], "e")
	if !slices.Equal(b, []string{"a", "b"}) {
		t.Errorf("two lists share memory: %q", b)
	}
	is(t, "Wipe", r.Wipe(0), api.OK)
	is(t, "Wipe", r.Wipe(4), api.OK)
	l, e := x.Missing()
	is(t, "Missing", e, api.OK)
	clear(l)
	misses(t, r, x, 0, 4)
	is(t, "Mend", x.Mend(), api.OK)
	loads(t, r, g, 4, "a", "b")
	is(t, "Append", x.Append("f"), api.OK)
	loads(t, r, g, 4, "a", "b", "f")
	if !slices.Equal(b, []string{"a", "b"}) {
		t.Errorf("the list has changed: %q", b)
	}
	misses(t, r, y, 0, 1, 4) // this one does not know of it
	room(t, y, 34*3)
}

// R5: a text that is handed in is neither changed nor kept.
func TestTextIsNotKept(t *testing.T) {
	g := geo(2, 1, 6)
	r := fresh(t, g)
	x := begins(t, r, g, 4)
	for _, n := range []int{20, 34, 50} {
		bytes := []byte(long(n))
		is(t, "Append", x.Append(unsafe.String(unsafe.SliceData(bytes), len(bytes))), api.OK)
		if string(bytes) != long(n) {
			t.Error("the text has changed")
		}
		clear(bytes)
	}
	is(t, "Wipe", r.Wipe(0), api.OK)
	misses(t, r, x, 0)
	is(t, "Mend", x.Mend(), api.OK)
	loads(t, r, g, 4, long(20), long(34), long(50))
	is(t, "Wipe", r.Wipe(1), api.OK)
	loads(t, r, g, 4, long(20), long(34), long(50))
}

// R6: asked again, the same is answered; the same calls leave the same bytes; a tail of one rack knows nothing of another one's, and one of a generation nothing of the next one's.
func TestAgain(t *testing.T) {
	g := geo(5, 2, 6)
	r, other := full(t, g), full(t, g)
	for range 2 {
		for _, r := range []*rack.Rack{r, other} {
			for gen := uint64(3); gen < 6; gen++ {
				x := begins(t, r, g, gen)
				is(t, "Append", x.Append("a"), api.OK)
				is(t, "Append", x.Append(long(60)), api.OK)
			}
		}
		same(t, "the same calls", r, other)
		loads(t, r, g, 5, "a", long(60))
		loads(t, r, g, 5, "a", long(60))
		loads(t, r, g, 4, "a", long(60))
		loadFails(t, r, g, 7, api.ErrLost)
	}
	x, y := begins(t, r, g, 8), begins(t, r, g, 9)
	for _, text := range []string{"b", "", "c"} {
		is(t, "Append", x.Append(text), api.OK)
	}
	is(t, "Append", y.Append("d"), api.OK)
	loads(t, r, g, 8, "b", "", "c")
	loads(t, r, g, 9, "d")
	loads(t, other, g, 5, "a", long(60))
	misses(t, r, x)
	misses(t, r, y)
}

// The chapter's examples.
func TestExample(t *testing.T) {
	g := api.Geo{Drives: 3, Parity: 1, Sectors: 24, Tail: 4}
	begin := func() *rack.Rack {
		r := fresh(t, g)
		drivesAre(t, g, 5, 2, 0)
		x := begins(t, r, g, 5)
		room(t, x, 102)
		is(t, "Append", x.Append("a"), api.OK)
		is(t, "Wipe", r.Wipe(2), api.OK)
		y := loads(t, r, g, 5, "a")
		is(t, "Mend", y.Mend(), api.OK)
		is(t, "Cut", r.Cut(1), api.OK)
		is(t, "Append", y.Append("b"), api.ErrDown)
		is(t, "Lift", r.Lift(), api.OK)
		loads(t, r, g, 5, "a", "b")
		return r
	}
	r := begin()
	is(t, "Wipe", r.Wipe(2), api.OK)
	loads(t, r, g, 5, "a")
	is(t, "Wipe", r.Wipe(0), api.OK)
	loadFails(t, r, g, 5, api.ErrLost)
}

// pair is a rack and what was made on it by tail, and another one, of which the model tells what has to come of it.
type pair struct {
	g       api.Geo
	r, want *rack.Rack
	t       *tail.Tail
	m       *model
}

// step does something to both, by chance, and tells what it was, and whether all is as it must be.
func (p *pair) step(t *testing.T, c *chance) (string, bool) {
	t.Helper()
	gen, g := uint64(4+c.below(3)), p.g
	switch c.below(60) {
	case 0:
		gen = noGens[c.below(len(noGens))]
	case 1:
		g.Drives += c.below(3) - 1
	case 2:
		g.Sectors += c.below(3) - 1
	case 3:
		g.Parity = c.below(14) - 1
	case 4:
		g.Tail = c.below(5)
	}
	switch c.below(12) {
	case 0, 1:
		return p.begin(g, gen)
	case 2, 3, 4:
		return p.load(g, gen)
	case 5, 6, 7, 8:
		return p.call(c)
	case 9:
		n := c.below(12)
		p.r.Cut(n)
		p.want.Cut(n)
		return "Cut", true
	}
	return "something else", p.disturb(t, c, gen)
}

// begin is Begin on both.
func (p *pair) begin(g api.Geo, gen uint64) (string, bool) {
	x, e := tail.Begin(p.r, g, gen)
	m, f := wantBegin(p.want, g, gen)
	if m != nil {
		p.t, p.m = x, m
	}
	return "Begin", e == f && (x == nil) == (m == nil)
}

// load is Load on both.
func (p *pair) load(g api.Geo, gen uint64) (string, bool) {
	x, l, e := tail.Load(p.r, g, gen)
	m, k, f := wantLoad(p.want, g, gen)
	if m != nil {
		p.t, p.m = x, m
	}
	return "Load", e == f && (x == nil) == (m == nil) && slices.Equal(l, k)
}

// call is a method of the tail that was made last.
func (p *pair) call(c *chance) (string, bool) {
	if p.m == nil {
		return "nothing", true
	}
	switch c.below(6) {
	case 0, 1:
		return "Mend", p.t.Mend() == p.m.mend()
	case 2:
		l, e := p.t.Missing()
		k, f := p.m.missing()
		return "Missing", slices.Equal(l, k) && e == f
	}
	text := c.text(c.below(90))
	return "Append", p.t.Append(text) == p.m.append(text)
}

// disturb does to both what is no call of tail.
func (p *pair) disturb(t *testing.T, c *chance, gen uint64) bool {
	d, i, what := c.below(p.g.Drives), c.below(p.g.Tail), c.below(12)
	l := things(gen % 100)
	s := from(p.g, gen) + i
	thing := l[c.below(len(l))]
	for _, r := range []*rack.Rack{p.r, p.want} {
		switch {
		case what < 5:
			r.Lift()
		case what == 5:
			r.Wipe(d)
		case what == 6 || thing.text == "":
			r.Spoil(d, s)
		case what == 7:
			if old, e := r.Read(d, s); e == api.OK {
				r.Write(d, s, old[:40]+string([]byte{old[40] ^ 1})+old[41:])
			}
		default:
			r.Write(d, s, thing.text)
		}
	}
	return true
}

// P12.1 to P12.5: whatever is done, by chance: each call answers, and leaves, what the chapter says.
func TestWhatever(t *testing.T) {
	c := chance(11)
	for i := range 600 {
		drives := 1 + c.below(5)
		if i%20 == 0 {
			drives = 12
		}
		g := geo(drives, c.below(drives), 2+c.below(7))
		g.Sectors += c.below(9)
		p := pair{g: g, r: fresh(t, g), want: fresh(t, g)}
		for j := range c.below(60) {
			what, is := p.step(t, &c)
			if is && p.m != nil {
				is = p.t.Room() == p.m.room()
			}
			if !is || state(p.r) != state(p.want) {
				t.Fatalf("rack %d (%+v), step %d, %s: it answers, or leaves, something else", i, g, j, what)
			}
		}
	}
}

// FuzzLoad: of any bytes whatever in its sectors Load tells what the chapter says, and Mend leaves what it says.
func FuzzLoad(f *testing.F) {
	for _, gen := range []uint64{5, 6} {
		for _, x := range tailOf(gen, some...) {
			f.Add(x.bytes(), x.says(), 1)
		}
		for _, x := range things(gen) {
			f.Add(x.text, "", 2)
		}
	}
	f.Fuzz(func(t *testing.T, s, said string, at int) {
		if len(s) <= 64 && len(said) <= 59 && at >= 0 && at < 4 {
			anything(t, 5, at, whole(s))
			anything(t, 6, at, sealed(said))
		}
	})
}

// anything holds Load and Mend to what they have to do where that stands in a sector of a tail.
func anything(t *testing.T, gen uint64, at int, s string) {
	t.Helper()
	g := geo(1, 0, 4)
	p := pair{g: g, r: fresh(t, g), want: fresh(t, g)}
	for _, r := range []*rack.Rack{p.r, p.want} {
		layAll(t, r, g, gen, "a", "b")
		put(t, r, 0, from(g, gen)+at, s)
	}
	if _, is := p.load(g, gen); !is {
		t.Errorf("Load, with %x in the sector %d", s, at)
	}
	if p.m != nil && p.t != nil {
		is(t, "Mend", p.t.Mend(), p.m.mend())
		same(t, fmt.Sprintf("Mend, with %x in the sector %d", s, at), p.r, p.want)
	}
}

// W6: any bytes whatever, and such as are nearly a sector's, by chance.
func TestAnyBytes(t *testing.T) {
	c := chance(23)
	for range 10000 {
		gen := uint64(5 + c.below(2))
		said := number(gen)
		for range 3 + c.below(3) {
			said += counted(c.text(min(c.below(10), 9)))
		}
		said = said[:min(len(said), 59)]
		at := c.below(4)
		anything(t, gen, at, sealed(said))
		anything(t, gen, at, sealed(said[:c.below(len(said)+1)]))
		anything(t, gen, at, c.text(64))
		piece := c.text(c.below(40))
		x := sector{gen, uint64(c.below(4)), uint64(c.below(3)), uint64(c.below(4)), uint64(c.next()), piece}
		anything(t, gen, at, x.bytes())
		x.sum = crc(piece)
		anything(t, gen, at, x.bytes())
	}
}
