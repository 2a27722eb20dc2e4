package rack_test

import (
	"math"
	"strconv"
	"strings"
	"testing"
	"unsafe"

	"hoard/api"
	"hoard/rack"
)

// chance makes numbers by a rule.
type chance uint64

func (c *chance) next() uint32 {
	*c = *c*6364136223846793005 + 1442695040888963407
	return uint32(*c >> 32)
}

// below makes a number below n.
func (c *chance) below(n int) int { return int(c.next() % uint32(n)) }

// text makes one of n bytes.
func (c *chance) text(n int) string {
	l := make([]byte, n)
	for i := range l {
		l[i] = byte(c.next() >> 24)
	}
	return string(l)
}

// zeros is n bytes 0.
func zeros(n int) string { return strings.Repeat("\x00", n) }

// whole is what a sector has that has that text.
func whole(text string) string { return text + zeros(api.SectorSize-len(text)) }

// fresh makes a rack.
func fresh(t *testing.T, drives, sectors int) *rack.Rack {
	t.Helper()
	r, e := rack.New(drives, sectors)
	if r == nil || e != api.OK {
		t.Fatalf("New(%d, %d): %v, a rack: %v", drives, sectors, e, r != nil)
	}
	return r
}

// reads holds a Read to a text, with bytes 0 behind it.
func reads(t *testing.T, r *rack.Rack, d, s int, text string) {
	t.Helper()
	if got, e := r.Read(d, s); got != whole(text) || e != api.OK {
		t.Errorf("Read(%d, %d): %q %v, not %q", d, s, got, e, text)
	}
}

// fails holds a Read to an error, beside which there is no text.
func fails(t *testing.T, r *rack.Rack, d, s int, want api.Errno) {
	t.Helper()
	if got, e := r.Read(d, s); got != "" || e != want {
		t.Errorf("Read(%d, %d): %q %v, not %v", d, s, got, e, want)
	}
}

// writes holds a Write to what it answers.
func writes(t *testing.T, r *rack.Rack, d, s int, text string, want api.Errno) {
	t.Helper()
	if e := r.Write(d, s, text); e != want {
		t.Errorf("Write(%d, %d, %d bytes): %v, not %v", d, s, len(text), e, want)
	}
}

// is holds an error to another one.
func is(t *testing.T, what string, e, want api.Errno) {
	t.Helper()
	if e != want {
		t.Errorf("%s: %v, not %v", what, e, want)
	}
}

// state is all that is told of a rack without changing it: its size, each drive's count and bytes, what is read of each sector.
func state(r *rack.Rack) string {
	var b strings.Builder
	tell := func(x int) { b.WriteString(strconv.Itoa(x) + " ") }
	tell(r.Drives())
	tell(r.Sectors())
	for d := range r.Drives() {
		tell(int(r.Writes(d)))
		b.WriteString(r.All(d))
		for s := range r.Sectors() {
			text, e := r.Read(d, s)
			tell(int(e))
			b.WriteString(text)
		}
	}
	return b.String()
}

// allows tells how many writes a rack does till all stands still (most: as many, or more), and leaves it so.
func allows(r *rack.Rack, most int) int {
	for n := range most {
		if r.Write(0, 0, "") != api.OK {
			return n
		}
	}
	return most
}

// far are numbers far above and far below all that may be, such too whose lowest bits are a number that may be.
var far = []int{math.MinInt, math.MinInt + 1, -1 << 32, 1 - 1<<32, -4096, -2, -1, 4097, 1 << 16, 1 << 31, 1<<32 + 1, math.MaxInt - 1, math.MaxInt}

// P7.1: racks of the least and the greatest numbers, and some between; all bytes are 0, nothing was written.
func TestNew(t *testing.T) {
	for _, drives := range []int{1, 2, 5, api.MaxDrives - 1, api.MaxDrives} {
		for _, sectors := range []int{1, 2, 63, 64, 100, api.MaxSectors - 1, api.MaxSectors} {
			r := fresh(t, drives, sectors)
			if r.Drives() != drives || r.Sectors() != sectors {
				t.Errorf("New(%d, %d): %d %d", drives, sectors, r.Drives(), r.Sectors())
			}
			for d := range drives {
				if r.All(d) != zeros(sectors*api.SectorSize) || r.Writes(d) != 0 {
					t.Errorf("New(%d, %d): drive %d isn't empty", drives, sectors, d)
				}
				reads(t, r, d, 0, "")
				reads(t, r, d, sectors-1, "")
				fails(t, r, d, sectors, api.ErrRange)
				fails(t, r, d, -1, api.ErrRange)
			}
			fails(t, r, drives, 0, api.ErrRange)
			fails(t, r, -1, 0, api.ErrRange)
			if n := allows(r, 10); n != 10 {
				t.Errorf("New(%d, %d): a cut behind %d writes", drives, sectors, n)
			}
		}
	}
}

// P7.1: numbers that may not be, one or both; beside the error there is no rack.
func TestNewWrong(t *testing.T) {
	wrong := func(drives, sectors int) {
		if r, e := rack.New(drives, sectors); r != nil || e != api.ErrArg {
			t.Errorf("New(%d, %d): %v, a rack: %v", drives, sectors, e, r != nil)
		}
	}
	drives := append([]int{0, api.MaxDrives + 1, api.MaxSectors}, far...)
	sectors := append([]int{0, api.MaxSectors + 1}, far...)
	for _, d := range drives {
		for _, s := range []int{1, 2, api.MaxDrives, api.MaxSectors} {
			wrong(d, s)
		}
		for _, s := range sectors {
			wrong(d, s)
		}
	}
	for _, s := range sectors {
		for _, d := range []int{1, 2, api.MaxDrives} {
			wrong(d, s)
		}
	}
}

// P7.2: texts of each length, over a longer one and over a shorter one: bytes 0 stand behind.
func TestWriteEachLength(t *testing.T) {
	c := chance(2)
	r := fresh(t, 2, 3)
	long := strings.Repeat("\xff", api.SectorSize)
	for n := range api.SectorSize + 1 {
		text := c.text(n)
		writes(t, r, 1, 2, long, api.OK)
		reads(t, r, 1, 2, long)
		writes(t, r, 1, 2, text, api.OK)
		reads(t, r, 1, 2, text)
		writes(t, r, 1, 2, "", api.OK)
		reads(t, r, 1, 2, "")
		writes(t, r, 1, 2, text, api.OK)
		reads(t, r, 1, 2, text)
	}
	if r.All(0) != zeros(3*api.SectorSize) || r.All(1)[:2*api.SectorSize] != zeros(2*api.SectorSize) {
		t.Error("other sectors were written")
	}
}

// P7.2: each byte, at each place.
func TestWriteEachByte(t *testing.T) {
	r := fresh(t, 1, 1)
	for x := range 256 {
		text := strings.Repeat(string([]byte{byte(x)}), api.SectorSize)
		writes(t, r, 0, 0, text, api.OK)
		reads(t, r, 0, 0, text)
	}
	l := make([]byte, api.SectorSize)
	for i := range l {
		l[i] = byte(i + 1)
	}
	writes(t, r, 0, 0, string(l), api.OK)
	reads(t, r, 0, 0, string(l))
}

// P7.2: texts that are too long, by one byte and by many: nothing of them is written.
func TestWriteTooLong(t *testing.T) {
	r := fresh(t, 2, 2)
	writes(t, r, 1, 1, "before", api.OK)
	before := state(r)
	for _, n := range []int{api.SectorSize + 1, api.SectorSize + 2, 2 * api.SectorSize, 256, 1 << 16, 1<<16 + 1} {
		for d := range 2 {
			for s := range 2 {
				writes(t, r, d, s, strings.Repeat("x", n), api.ErrLong)
			}
		}
	}
	if state(r) != before {
		t.Error("a text that is too long was written")
	}
}

// P7.2: each sector of each drive is one of its own.
func TestEachSector(t *testing.T) {
	for _, size := range [][2]int{{1, 1}, {1, 5}, {5, 1}, {3, 4}, {api.MaxDrives, api.MaxSectors}} {
		drives, sectors := size[0], size[1]
		r := fresh(t, drives, sectors)
		text := func(d, s int) string { return strconv.Itoa(d) + "/" + strconv.Itoa(s) }
		for d := range drives {
			for s := range sectors {
				writes(t, r, d, s, text(d, s), api.OK)
			}
		}
		for d := range drives {
			all := r.All(d)
			if len(all) != sectors*api.SectorSize || r.Writes(d) != uint64(sectors) {
				t.Fatalf("drive %d of %v: %d bytes, %d writes", d, size, len(all), r.Writes(d))
			}
			for s := range sectors {
				reads(t, r, d, s, text(d, s))
				if at := s * api.SectorSize; all[at:at+api.SectorSize] != whole(text(d, s)) {
					t.Errorf("All(%d): sector %d has %q", d, s, all[at:at+api.SectorSize])
				}
			}
		}
	}
}

// P7.2, P7.3: drives and sectors that are not there; nothing is done there.
func TestRange(t *testing.T) {
	r := fresh(t, 3, 5)
	writes(t, r, 2, 4, "last", api.OK)
	writes(t, r, 0, 0, "first", api.OK)
	before := state(r)
	wrong := func(d, s int) {
		fails(t, r, d, s, api.ErrRange)
		writes(t, r, d, s, "x", api.ErrRange)
		is(t, "Spoil", r.Spoil(d, s), api.ErrRange)
	}
	for _, d := range append([]int{3, 4, 5}, far...) {
		for _, s := range append([]int{0, 4, 5}, far...) {
			wrong(d, s)
		}
		is(t, "Wipe", r.Wipe(d), api.ErrRange)
		if r.Writes(d) != 0 || r.All(d) != "" {
			t.Errorf("drive %d: %d writes, %q", d, r.Writes(d), r.All(d))
		}
	}
	for _, s := range append([]int{5, 6, 15}, far...) {
		for d := range 3 {
			wrong(d, s)
		}
	}
	if state(r) != before {
		t.Error("something was done where no sector is")
	}
}

// P7.3: a spoilt sector can't be read, and All tells 0 of it, till it is written; then it has that text alone. Others are as they were.
func TestSpoil(t *testing.T) {
	r := fresh(t, 2, 3)
	for d := range 2 {
		for s := range 3 {
			writes(t, r, d, s, "old "+strconv.Itoa(d)+strconv.Itoa(s), api.OK)
		}
	}
	for range 2 { // spoilt again it is as it was
		is(t, "Spoil", r.Spoil(1, 1), api.OK)
		fails(t, r, 1, 1, api.ErrMedia)
		fails(t, r, 1, 1, api.ErrMedia)
	}
	if all := r.All(1); all != whole("old 10")+zeros(api.SectorSize)+whole("old 12") {
		t.Errorf("All: %q", all)
	}
	reads(t, r, 1, 0, "old 10")
	reads(t, r, 1, 2, "old 12")
	reads(t, r, 0, 1, "old 01")
	writes(t, r, 1, 1, strings.Repeat("x", api.SectorSize+1), api.ErrLong)
	fails(t, r, 1, 1, api.ErrMedia)
	writes(t, r, 1, 0, "new", api.OK)
	fails(t, r, 1, 1, api.ErrMedia)
	writes(t, r, 1, 1, "n", api.OK)
	reads(t, r, 1, 1, "n")
	is(t, "Spoil", r.Spoil(1, 1), api.OK)
	fails(t, r, 1, 1, api.ErrMedia)
	writes(t, r, 1, 1, "", api.OK)
	reads(t, r, 1, 1, "")
	if r.Writes(0) != 3 || r.Writes(1) != 6 {
		t.Errorf("%d %d writes", r.Writes(0), r.Writes(1))
	}
}

// P7.3: a sector that was never written is spoilt, too.
func TestSpoilOfNothing(t *testing.T) {
	r := fresh(t, 1, 2)
	is(t, "Spoil", r.Spoil(0, 0), api.OK)
	fails(t, r, 0, 0, api.ErrMedia)
	reads(t, r, 0, 1, "")
	if r.All(0) != zeros(2*api.SectorSize) || r.Writes(0) != 0 {
		t.Errorf("%q, %d writes", r.All(0), r.Writes(0))
	}
}

// P7.3: behind a Wipe all bytes of that drive are 0, and none of its sectors is spoilt; others are as they were.
func TestWipe(t *testing.T) {
	r := fresh(t, 3, 3)
	for d := range 3 {
		writes(t, r, d, 0, "zero", api.OK)
		writes(t, r, d, 1, "one", api.OK)
		writes(t, r, d, 2, "two", api.OK)
		is(t, "Spoil", r.Spoil(d, 1), api.OK)
	}
	for range 2 {
		is(t, "Wipe", r.Wipe(1), api.OK)
		if r.All(1) != zeros(3*api.SectorSize) {
			t.Errorf("%q", r.All(1))
		}
		for s := range 3 {
			reads(t, r, 1, s, "")
		}
	}
	for _, d := range []int{0, 2} {
		reads(t, r, d, 0, "zero")
		fails(t, r, d, 1, api.ErrMedia)
		reads(t, r, d, 2, "two")
	}
	for d := range 3 {
		if r.Writes(d) != 3 {
			t.Errorf("drive %d: %d writes", d, r.Writes(d))
		}
	}
	writes(t, r, 1, 1, "again", api.OK)
	reads(t, r, 1, 1, "again")
	is(t, "Spoil", r.Spoil(1, 1), api.OK)
	fails(t, r, 1, 1, api.ErrMedia)
	is(t, "Wipe", r.Wipe(0), api.OK)
	is(t, "Wipe", r.Wipe(2), api.OK)
	reads(t, r, 0, 1, "")
	reads(t, r, 2, 2, "")
	fails(t, r, 1, 1, api.ErrMedia)
}

// P7.3: so many writes go on as ever, on whichever drives; then each Read and Write answers ErrDown and does nothing, till Lift.
func TestCut(t *testing.T) {
	for _, n := range []int{0, 1, 2, 3, 7, 100} {
		r := fresh(t, 2, 4)
		writes(t, r, 0, 3, "ahead", api.OK)
		is(t, "Cut", r.Cut(n), api.OK)
		for i := range n {
			reads(t, r, 0, 3, "ahead")
			writes(t, r, i%2, i/2%3, strconv.Itoa(i), api.OK)
		}
		all := [2]string{r.All(0), r.All(1)}
		for range 2 {
			for d := range 2 {
				for s := range 4 {
					fails(t, r, d, s, api.ErrDown)
					writes(t, r, d, s, "behind", api.ErrDown)
					fails(t, r, d, s, api.ErrDown)
				}
			}
		}
		for d := range 2 {
			if r.All(d) != all[d] {
				t.Errorf("Cut(%d): drive %d was written behind it", n, d)
			}
		}
		if r.Writes(0) != 1+uint64(n+1)/2 || r.Writes(1) != uint64(n)/2 || r.Drives() != 2 || r.Sectors() != 4 {
			t.Errorf("Cut(%d): %d %d writes", n, r.Writes(0), r.Writes(1))
		}
		is(t, "Lift", r.Lift(), api.OK)
		reads(t, r, 0, 3, "ahead")
		if n > 0 {
			reads(t, r, (n-1)%2, (n-1)/2%3, strconv.Itoa(n-1))
		}
		writes(t, r, 1, 3, "lifted", api.OK)
		reads(t, r, 1, 3, "lifted")
	}
}

// P7.3: a cut below 0 is none; what an older one allows stays, also that there is none.
func TestCutBelowZero(t *testing.T) {
	for _, n := range []int{-1, -2, -64, math.MinInt, math.MinInt + 1, -1 << 32} {
		r := fresh(t, 1, 1)
		is(t, "Cut", r.Cut(n), api.ErrArg)
		if got := allows(r, 100); got != 100 {
			t.Errorf("Cut(%d): a cut behind %d", n, got)
		}
		is(t, "Cut", r.Cut(3), api.OK)
		is(t, "Cut", r.Cut(n), api.ErrArg)
		if got := allows(r, 100); got != 3 {
			t.Errorf("Cut(%d) behind Cut(3): %d", n, got)
		}
		is(t, "Cut", r.Cut(n), api.ErrArg)
		if got := allows(r, 100); got != 0 {
			t.Errorf("Cut(%d) where all stands still: %d", n, got)
		}
	}
}

// P7.3: cuts as great as may be go on as ever.
func TestCutFar(t *testing.T) {
	for _, n := range []int{1 << 8, 1 << 16, 1 << 31, 1 << 32, 1<<32 + 1, math.MaxInt - 1, math.MaxInt} {
		r := fresh(t, 1, 1)
		is(t, "Cut", r.Cut(n), api.OK)
		if got := allows(r, 255); got != 255 {
			t.Errorf("Cut(%d): %d", n, got)
		}
		reads(t, r, 0, 0, "")
	}
	r := fresh(t, 1, 1)
	is(t, "Cut", r.Cut(70000), api.OK)
	if got := allows(r, 80000); got != 70000 {
		t.Errorf("Cut(70000): %d", got)
	}
}

// P7.3: a cut ends an older one, whichever is greater, whatever the older one still allowed, also where all stands still.
func TestCutBehindCut(t *testing.T) {
	for _, old := range []int{0, 1, 2, 5} {
		for done := range old + 2 { // one more than it allows, too
			for _, n := range []int{0, 1, 2, 3, 7} {
				r := fresh(t, 1, 1)
				is(t, "Cut", r.Cut(old), api.OK)
				for range done {
					r.Write(0, 0, "x")
				}
				is(t, "Cut", r.Cut(n), api.OK)
				if got := allows(r, 100); got != n {
					t.Errorf("Cut(%d), %d writes, Cut(%d): %d", old, done, n, got)
				}
				is(t, "Lift", r.Lift(), api.OK)
				if got := allows(r, 100); got != 100 {
					t.Errorf("Lift: %d", got)
				}
			}
		}
	}
}

// P7.3: Lift ends a cut before all stands still, too; and is fine where there is none.
func TestLift(t *testing.T) {
	for done := range 4 {
		r := fresh(t, 1, 2)
		is(t, "Lift", r.Lift(), api.OK)
		writes(t, r, 0, 1, "kept", api.OK)
		is(t, "Spoil", r.Spoil(0, 0), api.OK)
		is(t, "Cut", r.Cut(2), api.OK)
		for range done {
			r.Write(0, 1, "kept")
		}
		before := r.Writes(0)
		is(t, "Lift", r.Lift(), api.OK)
		is(t, "Lift", r.Lift(), api.OK)
		reads(t, r, 0, 1, "kept")
		fails(t, r, 0, 0, api.ErrMedia)
		if r.Writes(0) != before {
			t.Errorf("%d writes, not %d", r.Writes(0), before)
		}
		if got := allows(r, 100); got != 100 {
			t.Errorf("Lift behind %d writes: %d", done, got)
		}
	}
}

// P7.3: Wipe and Spoil are done where all stands still, too; they take nothing of what a cut allows, and end none.
func TestNoWrites(t *testing.T) {
	for n := range 4 {
		r := fresh(t, 2, 3)
		for s := range 3 {
			writes(t, r, 0, s, "zero", api.OK)
			writes(t, r, 1, s, "one", api.OK)
		}
		is(t, "Cut", r.Cut(n), api.OK)
		for range 5 {
			is(t, "Spoil", r.Spoil(1, 2), api.OK)
			is(t, "Wipe", r.Wipe(0), api.OK)
		}
		if r.All(0) != zeros(3*api.SectorSize) || r.All(1) != whole("one")+whole("one")+zeros(api.SectorSize) {
			t.Errorf("%q %q", r.All(0), r.All(1))
		}
		if r.Writes(0) != 3 || r.Writes(1) != 3 {
			t.Errorf("%d %d writes", r.Writes(0), r.Writes(1))
		}
		if got := allows(r, 100); got != n {
			t.Errorf("%d writes, not %d", got, n)
		}
		is(t, "Spoil", r.Spoil(0, 1), api.OK)
		is(t, "Wipe", r.Wipe(1), api.OK)
		fails(t, r, 0, 1, api.ErrDown)
		fails(t, r, 1, 2, api.ErrDown)
		writes(t, r, 0, 1, "", api.ErrDown)
		is(t, "Lift", r.Lift(), api.OK)
		fails(t, r, 0, 1, api.ErrMedia)
		reads(t, r, 0, 2, "")
		reads(t, r, 1, 0, "")
		reads(t, r, 1, 2, "")
	}
}

// P7.3: a Read takes nothing of what a cut allows; nor does a Write that answers an error.
func TestErrorsTakeNothing(t *testing.T) {
	for n := range 4 {
		r := fresh(t, 2, 3)
		is(t, "Spoil", r.Spoil(1, 1), api.OK)
		is(t, "Cut", r.Cut(n), api.OK)
		for range 5 {
			r.Read(0, 0)
			r.Read(1, 1)
			writes(t, r, 2, 0, "", api.ErrRange)
			writes(t, r, 0, 3, "", api.ErrRange)
			writes(t, r, 0, -1, "", api.ErrRange)
			writes(t, r, 0, 0, whole("")+"x", api.ErrLong)
			is(t, "Wipe", r.Wipe(2), api.ErrRange)
			is(t, "Spoil", r.Spoil(0, 3), api.ErrRange)
			is(t, "Cut", r.Cut(-1), api.ErrArg)
		}
		if r.Writes(0) != 0 || r.Writes(1) != 0 || r.All(0) != zeros(3*api.SectorSize) {
			t.Errorf("something was written: %d %d", r.Writes(0), r.Writes(1))
		}
		if got := allows(r, 100); got != n {
			t.Errorf("%d writes, not %d", got, n)
		}
	}
}

// P7.4: of each drive the writes that were done, and these alone.
func TestWrites(t *testing.T) {
	r := fresh(t, 3, 2)
	want := [3]uint64{}
	c := chance(4)
	for range 1000 {
		d := c.below(3)
		writes(t, r, d, c.below(2), "x", api.OK)
		want[d]++
	}
	counts := func(what string) {
		for d := range 3 {
			if r.Writes(d) != want[d] {
				t.Errorf("%s: drive %d: %d, not %d", what, d, r.Writes(d), want[d])
			}
		}
	}
	counts("Write")
	for d := range 3 {
		r.Spoil(d, 0)
		r.Wipe(d)
		r.Read(d, 0)
		r.All(d)
	}
	counts("no Write")
	r.Write(0, 2, "")
	r.Write(1, -1, "")
	r.Write(2, 0, whole("")+"x")
	r.Write(3, 0, "")
	counts("errors")
	r.Cut(0)
	for d := range 3 {
		r.Write(d, 0, "")
	}
	counts("Cut")
	r.Lift()
	counts("Lift")
	writes(t, r, 2, 1, "", api.OK)
	writes(t, r, 2, 1, "", api.OK)
	want[2] += 2
	counts("the same text again")
}

// P7.4: what is told of a rack is told where all stands still, too, as ever.
func TestToldWhereAllStandsStill(t *testing.T) {
	r := fresh(t, 2, 2)
	writes(t, r, 0, 0, "a", api.OK)
	writes(t, r, 0, 1, "b", api.OK)
	writes(t, r, 1, 1, "c", api.OK)
	is(t, "Spoil", r.Spoil(0, 1), api.OK)
	is(t, "Cut", r.Cut(0), api.OK)
	if r.Drives() != 2 || r.Sectors() != 2 || r.Writes(0) != 2 || r.Writes(1) != 1 {
		t.Errorf("%d %d %d %d", r.Drives(), r.Sectors(), r.Writes(0), r.Writes(1))
	}
	if r.All(0) != whole("a")+whole("") || r.All(1) != whole("")+whole("c") || r.All(2) != "" || r.Writes(2) != 0 {
		t.Errorf("%q %q %q", r.All(0), r.All(1), r.All(2))
	}
}

// P7.2 to P7.4, R3: a rack that is nil, or that New did not make, ahead of whatever else is wrong.
func TestNil(t *testing.T) {
	var zero rack.Rack
	for _, r := range []*rack.Rack{nil, &zero, new(rack.Rack)} {
		for _, d := range append([]int{0, 1, 12}, far...) {
			for _, s := range append([]int{0, 1, 4096}, far...) {
				fails(t, r, d, s, api.ErrNil)
				for _, n := range []int{0, 1, api.SectorSize, api.SectorSize + 1} {
					writes(t, r, d, s, zeros(n), api.ErrNil)
				}
				is(t, "Spoil", r.Spoil(d, s), api.ErrNil)
			}
			is(t, "Wipe", r.Wipe(d), api.ErrNil)
			is(t, "Cut", r.Cut(d), api.ErrNil)
			if r.Writes(d) != 0 || r.All(d) != "" {
				t.Errorf("drive %d of none: %d %q", d, r.Writes(d), r.All(d))
			}
		}
		is(t, "Lift", r.Lift(), api.ErrNil)
		if r.Drives() != 0 || r.Sectors() != 0 {
			t.Errorf("none: %d %d", r.Drives(), r.Sectors())
		}
	}
}

// kind is one that a rack may be of, and what is so of it.
type kind struct {
	make      func() *rack.Rack
	nil, down bool
	spoilt    bool // sector 1 of drive 1
	allows    int  // writes, up to 20
}

// kinds are racks of 2 drives and 3 sectors in which each error of theirs applies, alone and with others.
func kinds(t *testing.T) []kind {
	racks := func(spoilt bool, do ...func(r *rack.Rack)) func() *rack.Rack {
		return func() *rack.Rack {
			r := fresh(t, 2, 3)
			r.Write(0, 1, "old")
			r.Write(1, 1, "old")
			if spoilt {
				r.Spoil(1, 1)
			}
			for _, f := range do {
				f(r)
			}
			return r
		}
	}
	cut := func(n int) func(r *rack.Rack) { return func(r *rack.Rack) { r.Cut(n) } }
	write := func(r *rack.Rack) { r.Write(0, 0, "x") }
	lift := func(r *rack.Rack) { r.Lift() }
	l := []kind{
		{make: func() *rack.Rack { return nil }, nil: true},
		{make: func() *rack.Rack { return new(rack.Rack) }, nil: true},
	}
	for _, spoilt := range []bool{false, true} {
		l = append(l,
			kind{make: racks(spoilt), spoilt: spoilt, allows: 20},
			kind{make: racks(spoilt, cut(2)), spoilt: spoilt, allows: 2},
			kind{make: racks(spoilt, cut(1)), spoilt: spoilt, allows: 1},
			kind{make: racks(spoilt, cut(0)), spoilt: spoilt, down: true},
			kind{make: racks(spoilt, cut(1), write), spoilt: spoilt, down: true},
			kind{make: racks(spoilt, cut(1), write, write), spoilt: spoilt, down: true},
			kind{make: racks(spoilt, cut(1), write, write, lift), spoilt: spoilt, allows: 20},
		)
	}
	return l
}

// asked is one thing that may be wrong, and its error.
type asked struct {
	wrong bool
	e     api.Errno
}

// firstOf is the error of the first one that is wrong.
func firstOf(l ...asked) api.Errno {
	for _, x := range l {
		if x.wrong {
			return x.e
		}
	}
	return api.OK
}

// changesNothing holds a call that answers an error to what it does: nothing, and what a cut allows is as it was.
func changesNothing(t *testing.T, k kind, r *rack.Rack, what string) {
	t.Helper()
	if state(r) != state(k.make()) {
		t.Errorf("%s answers an error, and changes something", what)
	}
	if got := allows(r, 20); got != k.allows {
		t.Errorf("%s answers an error, and then %d writes are allowed, not %d", what, got, k.allows)
	}
}

// P7.2, P7.3: each error alone, and all that apply at once in the order in which the promises name them; a call that answers one changes nothing.
func TestOrderOfErrors(t *testing.T) {
	for i, k := range kinds(t) {
		for _, d := range []int{math.MinInt, -1, 0, 1, 2, math.MaxInt} {
			for _, s := range []int{math.MinInt, -1, 0, 1, 2, 3, math.MaxInt} {
				noDrive, noSector := d < 0 || d > 1, s < 0 || s > 2
				hold := func(call string, do func(r *rack.Rack) api.Errno, want api.Errno) {
					t.Helper()
					r := k.make()
					what := "rack " + strconv.Itoa(i) + ": " + call + " " + strconv.Itoa(d) + " " + strconv.Itoa(s)
					is(t, what, do(r), want)
					if want != api.OK {
						changesNothing(t, k, r, what)
					}
				}
				read := func(r *rack.Rack) api.Errno { _, e := r.Read(d, s); return e }
				hold("Read", read, firstOf(asked{k.nil, api.ErrNil}, asked{k.down, api.ErrDown}, asked{noDrive || noSector, api.ErrRange}, asked{k.spoilt && d == 1 && s == 1, api.ErrMedia}))
				for _, n := range []int{0, api.SectorSize, api.SectorSize + 1, 1000} {
					write := func(r *rack.Rack) api.Errno { return r.Write(d, s, strings.Repeat("w", n)) }
					hold("Write", write, firstOf(asked{k.nil, api.ErrNil}, asked{noDrive || noSector, api.ErrRange}, asked{n > api.SectorSize, api.ErrLong}, asked{k.down, api.ErrDown}))
				}
				spoil := func(r *rack.Rack) api.Errno { return r.Spoil(d, s) }
				hold("Spoil", spoil, firstOf(asked{k.nil, api.ErrNil}, asked{noDrive || noSector, api.ErrRange}))
			}
			wipe := k.make()
			is(t, "Wipe", wipe.Wipe(d), firstOf(asked{k.nil, api.ErrNil}, asked{d < 0 || d > 1, api.ErrRange}))
			if d < 0 || d > 1 {
				changesNothing(t, k, wipe, "Wipe")
			}
			cut := k.make()
			is(t, "Cut", cut.Cut(d), firstOf(asked{k.nil, api.ErrNil}, asked{d < 0, api.ErrArg}))
			if d < 0 {
				changesNothing(t, k, cut, "Cut")
			}
		}
		is(t, "Lift", k.make().Lift(), firstOf(asked{k.nil, api.ErrNil}))
	}
}

// R6: what is done to one rack is not seen in another one.
func TestTwoRacks(t *testing.T) {
	a, b := fresh(t, 2, 2), fresh(t, 2, 2)
	writes(t, a, 0, 0, "a", api.OK)
	writes(t, b, 1, 1, "b", api.OK)
	before := state(b)
	writes(t, a, 1, 1, "a", api.OK)
	is(t, "Spoil", a.Spoil(0, 1), api.OK)
	is(t, "Wipe", a.Wipe(1), api.OK)
	is(t, "Cut", a.Cut(0), api.OK)
	if state(b) != before {
		t.Error("what is done to a rack is seen in another one")
	}
	is(t, "Cut", b.Cut(1), api.OK)
	is(t, "Lift", a.Lift(), api.OK)
	if got := allows(b, 10); got != 1 {
		t.Errorf("%d writes", got)
	}
	reads(t, a, 0, 0, "a")
	fails(t, a, 0, 1, api.ErrMedia)
}

// R5: answers stay as they were, whatever is done then; they are memory of their own.
func TestAnswersStay(t *testing.T) {
	r := fresh(t, 1, 2)
	writes(t, r, 0, 0, "old", api.OK)
	text, _ := r.Read(0, 0)
	again, _ := r.Read(0, 0)
	all, other := r.All(0), r.All(0)
	if unsafe.StringData(text) == unsafe.StringData(again) || unsafe.StringData(all) == unsafe.StringData(other) || unsafe.StringData(all) == unsafe.StringData(text) {
		t.Error("two answers share memory")
	}
	stays := func() {
		t.Helper()
		if text != whole("old") || again != text || all != whole("old")+whole("") || other != all {
			t.Errorf("%q %q %q %q", text, again, all, other)
		}
	}
	writes(t, r, 0, 0, strings.Repeat("n", api.SectorSize), api.OK)
	writes(t, r, 0, 1, strings.Repeat("n", api.SectorSize), api.OK)
	stays()
	is(t, "Spoil", r.Spoil(0, 0), api.OK)
	stays()
	is(t, "Wipe", r.Wipe(0), api.OK)
	stays()
}

// R5: a text that is handed in is not kept.
func TestTextsAreNotKept(t *testing.T) {
	r := fresh(t, 1, 2)
	for s, n := range []int{5, api.SectorSize} {
		l := []byte(strings.Repeat("a", n))
		writes(t, r, 0, s, unsafe.String(unsafe.SliceData(l), n), api.OK)
		if string(l) != strings.Repeat("a", n) {
			t.Errorf("%q", l)
		}
		for i := range l {
			l[i] = 'z'
		}
		reads(t, r, 0, s, strings.Repeat("a", n))
	}
}

// P7.5: of writes behind a cut just a beginning is done, as many as it allows, wherever they go; behind Lift it is read.
func TestJustABeginning(t *testing.T) {
	const drives, sectors, many = 3, 4, 30
	type write struct {
		d, s int
		text string
	}
	for n := range many + 3 {
		c := chance(5)
		r, want := fresh(t, drives, sectors), fresh(t, drives, sectors)
		is(t, "Cut", r.Cut(n), api.OK)
		for i := range many {
			w := write{c.below(drives), c.below(sectors), c.text(c.below(api.SectorSize + 1))}
			if i < n {
				writes(t, r, w.d, w.s, w.text, api.OK)
				writes(t, want, w.d, w.s, w.text, api.OK)
			} else {
				writes(t, r, w.d, w.s, w.text, api.ErrDown)
			}
		}
		is(t, "Lift", r.Lift(), api.OK)
		if state(r) != state(want) {
			t.Errorf("Cut(%d): not the first %d writes are there", n, n)
		}
	}
}

// step is one call of a rack.
type step struct {
	kind rune // 'r' Read, 'w' Write, 'c' Cut, 'l' Lift, 'p' Wipe, 's' Spoil, 'n' Writes, 'a' All
	d, s int  // of a Cut d is how many
	text string
}

// answer is what one call answers: what it has not stays zero.
type answer struct {
	e    api.Errno
	n    uint64
	text string
}

// do makes the call of r.
func (x step) do(r *rack.Rack) answer {
	switch x.kind {
	case 'r':
		text, e := r.Read(x.d, x.s)
		return answer{e: e, text: text}
	case 'w':
		return answer{e: r.Write(x.d, x.s, x.text)}
	case 'c':
		return answer{e: r.Cut(x.d)}
	case 'l':
		return answer{e: r.Lift()}
	case 'p':
		return answer{e: r.Wipe(x.d)}
	case 's':
		return answer{e: r.Spoil(x.d, x.s)}
	case 'n':
		return answer{n: r.Writes(x.d)}
	}
	return answer{text: r.All(x.d)}
}

// place is a sector of a drive.
type place struct{ d, s int }

// model is a rack as the chapter's Words say it: what was written stands by its place.
type model struct {
	drives, sectors int
	texts           map[place]string
	spoilt          map[place]bool
	writes          map[int]uint64
	cut             []int // of one number, or of none: writes that are allowed yet
}

func newModel(drives, sectors int) *model {
	return &model{drives, sectors, map[place]string{}, map[place]bool{}, map[int]uint64{}, nil}
}

// do is what the call has to answer: P7.2 to P7.4, in the order in which they name their errors.
func (m *model) do(x step) answer {
	at := place{x.d, x.s}
	noDrive := asked{x.d < 0 || x.d >= m.drives, api.ErrRange}
	noSector := asked{x.s < 0 || x.s >= m.sectors, api.ErrRange}
	down := asked{len(m.cut) > 0 && m.cut[0] == 0, api.ErrDown}
	var a answer
	switch x.kind {
	case 'r':
		a.e = firstOf(down, noDrive, noSector, asked{m.spoilt[at], api.ErrMedia})
		if a.e == api.OK {
			a.text = whole(m.texts[at])
		}
	case 'w':
		a.e = firstOf(noDrive, noSector, asked{len(x.text) > api.SectorSize, api.ErrLong}, down)
		if a.e == api.OK {
			m.write(at, x.text)
		}
	case 'c':
		a.e = firstOf(asked{x.d < 0, api.ErrArg})
		if a.e == api.OK {
			m.cut = []int{x.d}
		}
	case 'l':
		m.cut = nil
	case 'p':
		a.e = firstOf(noDrive)
		for s := range m.sectors {
			delete(m.texts, place{x.d, s})
			delete(m.spoilt, place{x.d, s})
		}
	case 's':
		a.e = firstOf(noDrive, noSector)
		m.spoilt[at] = true
	case 'n':
		a.n = m.writes[x.d]
	case 'a':
		a.text = m.all(x.d)
	}
	return a
}

// write is a write that is done.
func (m *model) write(at place, text string) {
	m.texts[at] = text
	delete(m.spoilt, at)
	m.writes[at.d]++
	if len(m.cut) > 0 {
		m.cut[0]--
	}
}

// all is all bytes of a drive.
func (m *model) all(d int) string {
	text := ""
	if d < 0 || d >= m.drives {
		return text
	}
	for s := range m.sectors {
		if at := (place{d, s}); m.spoilt[at] {
			text += whole("")
		} else {
			text += whole(m.texts[at])
		}
	}
	return text
}

// play holds each call of a rack to the model's answer.
func play(t *testing.T, drives, sectors int, calls []step) {
	t.Helper()
	r, m := fresh(t, drives, sectors), newModel(drives, sectors)
	for i, x := range calls {
		if got, want := x.do(r), m.do(x); got != want {
			t.Fatalf("%d drives, %d sectors, call %d, %c %d %d, %d bytes: %v, not %v", drives, sectors, i, x.kind, x.d, x.s, len(x.text), got, want)
		}
	}
	for d := range drives {
		for _, x := range []step{{kind: 'n', d: d}, {kind: 'a', d: d}} {
			if got, want := x.do(r), m.do(x); got != want {
				t.Fatalf("%d drives, %d sectors, at the end, %c %d: %v, not %v", drives, sectors, x.kind, d, got, want)
			}
		}
	}
}

// P7.5: whatever is done, by chance: what was written is read, till it is written again, wiped or spoilt; each call answers as the chapter says.
func TestWhatever(t *testing.T) {
	c := chance(7)
	kinds := []rune("rrrrrwwwwwwwwclpssna")
	for range 3000 {
		drives, sectors := c.below(4)+1, c.below(6)+1
		calls := make([]step, c.below(120))
		for i := range calls {
			x := step{kind: kinds[c.below(len(kinds))], d: c.below(drives), s: c.below(sectors)}
			switch {
			case x.kind == 'w':
				x.text = c.text(c.below(api.SectorSize + 4))
			case x.kind == 'c':
				x.d = c.below(12) - 1
			}
			switch c.below(30) {
			case 0:
				x.d = c.below(20) - 4
			case 1:
				x.s = c.below(20) - 4
			case 2:
				x.d = far[c.below(len(far))]
			case 3:
				x.s = far[c.below(len(far))]
			}
			calls[i] = x
		}
		play(t, drives, sectors, calls)
	}
}

// FuzzRack: whatever calls, a rack answers as the chapter says. Three bytes of text are a call: which one; which drive (or how many) times 8, and which sector and one more; how long a text.
func FuzzRack(f *testing.F) {
	f.Add(byte(0), byte(0), "")
	f.Add(byte(1), byte(2), "\x01\x02\x05\x05\x02\x00\x00\x02\x00\x01\x02\x01\x00\x02\x00\x06\x00\x00\x07\x00\x00")
	f.Add(byte(1), byte(1), "\x02\x08\x00\x01\x09\x05\x01\x09\x06\x00\x09\x00\x03\x00\x00\x00\x09\x00")
	f.Add(byte(2), byte(0), "\x01\x11\x40\x01\x11\x41\x04\x10\x00\x00\x11\x00\x02\xff\x00\x01\x19\x00\x00\x10\x00")
	kinds := []rune("rwclpsna")
	f.Fuzz(func(t *testing.T, drives, sectors byte, text string) {
		var calls []step
		for ; len(text) >= 3; text = text[3:] {
			calls = append(calls, step{
				kind: kinds[int(text[0])%len(kinds)],
				d:    int(int8(text[1])) >> 3,
				s:    int(text[1])&7 - 1,
				text: strings.Repeat(text[:1], int(text[2])),
			})
		}
		play(t, int(drives)%api.MaxDrives+1, int(sectors)%8+1, calls)
	})
}
