package alloc_test

import (
	"math"
	"slices"
	"strings"
	"testing"
	"unsafe"

	"hoard/alloc"
	"hoard/api"
)

// chance makes numbers by a rule.
type chance uint64

func (c *chance) next() uint32 {
	*c = *c*6364136223846793005 + 1442695040888963407
	return uint32(*c >> 32)
}

// below makes a number below n.
func (c *chance) below(n int) int { return int(c.next() % uint32(n)) }

// shuffled is the numbers in another order.
func (c *chance) shuffled(l []int) []int {
	l = slices.Clone(l)
	for i := range l {
		j := i + c.below(len(l)-i)
		l[i], l[j] = l[j], l[i]
	}
	return l
}

// letters say what the rows of a pattern are: a text with a letter a row, f free, u used, j junk.
var letters = map[byte]uint8{'f': api.RowFree, 'u': api.RowUsed, 'j': api.RowJunk}

// numbers are the rows of a pattern that have that letter, rising.
func numbers(pattern string, letter byte) []int {
	var l []int
	for i := range len(pattern) {
		if pattern[i] == letter {
			l = append(l, i)
		}
	}
	return l
}

// with is a pattern in which these rows have that letter.
func with(pattern string, letter byte, rows ...int) string {
	l := []byte(pattern)
	for _, row := range rows {
		l[row] = letter
	}
	return string(l)
}

// patterns are all of so many rows.
func patterns(rows int) []string {
	l := []string{""}
	for range rows {
		var longer []string
		for _, p := range l {
			longer = append(longer, p+"f", p+"u", p+"j")
		}
		l = longer
	}
	return l
}

// upTo are all patterns of at most so many rows.
func upTo(rows int) []string {
	var l []string
	for n := range rows + 1 {
		l = append(l, patterns(n)...)
	}
	return l
}

// great are patterns of as many rows as there may be.
func great() []string {
	var l []string
	for _, p := range []string{"f", "u", "j", "uf", "juf", "fuj", "uuuuuuj", "ffffffffffffffu"} {
		l = append(l, strings.Repeat(p, api.MaxRows)[:api.MaxRows])
	}
	const side = api.MaxRows - 1
	return append(l, strings.Repeat("u", side)+"f", "f"+strings.Repeat("j", side), strings.Repeat("f", side)+"j", "u"+strings.Repeat("f", side))
}

// far are numbers far above and far below all that may be, such too whose lowest bits are a number that may be.
var far = []int{math.MinInt, math.MinInt + 1, -1 << 48, 1 - 1<<32, -1 << 32, -1 << 31, -4096, -256, -2, 4098, 1 << 16, 1<<16 + 1, 1 << 31, 1<<32 + 1, 1 << 48, math.MaxInt - 1, math.MaxInt}

// fresh makes a map of a pattern by New and calls of it.
func fresh(t *testing.T, pattern string) *alloc.Map {
	t.Helper()
	m, e := alloc.New(len(pattern))
	if m == nil || e != api.OK {
		t.Fatalf("New(%d): %v, a map: %v", len(pattern), e, m != nil)
	}
	free := numbers(pattern, 'f')
	_, e = m.Take(len(pattern))
	is(t, "Take of all", e, api.OK)
	is(t, "Drop", m.Drop(append(free, numbers(pattern, 'j')...)...), api.OK)
	is(t, "Clear", m.Clear(free...), api.OK)
	return m
}

// loaded makes a map of a pattern by Load.
func loaded(t *testing.T, pattern string) *alloc.Map {
	t.Helper()
	m, e := alloc.Load(len(pattern), numbers(pattern, 'u'), numbers(pattern, 'j'))
	if m == nil || e != api.OK {
		t.Fatalf("Load of %q: %v, a map: %v", pattern, e, m != nil)
	}
	return m
}

// is holds an error to another one.
func is(t *testing.T, what string, e, want api.Errno) {
	t.Helper()
	if e != want {
		t.Errorf("%s: %v, not %v", what, e, want)
	}
}

// looks holds all that a map tells, without changing it, to a pattern.
func looks(t *testing.T, what string, m *alloc.Map, pattern string) {
	t.Helper()
	for row := range len(pattern) {
		if got := m.Of(row); got != letters[pattern[row]] {
			t.Fatalf("%s: Of(%d) is %d, not as in %q", what, row, got, pattern)
		}
	}
	for _, row := range []int{-1, len(pattern), len(pattern) + 1} {
		if got := m.Of(row); got != api.RowNone {
			t.Fatalf("%s: Of(%d) is %d, of %d rows", what, row, got, len(pattern))
		}
	}
	for _, letter := range []byte("fuj") {
		if got := m.Rows(letters[letter]); !slices.Equal(got, numbers(pattern, letter)) {
			t.Fatalf("%s: Rows of %c: %v, not as in %q", what, letter, got, pattern)
		}
	}
	if got := m.Rows(api.RowNone); len(got) != 0 {
		t.Fatalf("%s: Rows of RowNone: %v", what, got)
	}
	free, used, junk := m.Count()
	if free != strings.Count(pattern, "f") || used != strings.Count(pattern, "u") || junk != strings.Count(pattern, "j") {
		t.Fatalf("%s: Count: %d %d %d, not as in %q", what, free, used, junk, pattern)
	}
}

// takes holds a Take to what it answers.
func takes(t *testing.T, m *alloc.Map, n int, want []int, e api.Errno) {
	t.Helper()
	if got, is := m.Take(n); !slices.Equal(got, want) || is != e {
		t.Fatalf("Take(%d): %v %v, not %v %v", n, got, is, want, e)
	}
}

// P10.1: maps without rows, of one, of some, of as many as there may be; all are free.
func TestNew(t *testing.T) {
	for _, rows := range []int{0, 1, 2, 3, 63, 64, 65, 255, 256, 257, 1000, api.MaxRows - 1, api.MaxRows} {
		m, e := alloc.New(rows)
		if m == nil || e != api.OK {
			t.Fatalf("New(%d): %v, a map: %v", rows, e, m != nil)
		}
		looks(t, "New", m, strings.Repeat("f", rows))
		takes(t, m, rows+1, nil, api.ErrFull)
		takes(t, m, rows, numbers(strings.Repeat("f", rows), 'f'), api.OK)
		looks(t, "New, Take of all", m, strings.Repeat("u", rows))
		takes(t, m, 1, nil, api.ErrFull)
	}
}

// P10.1: fewer rows than none, and more than there may be: beside the error there is no map, whatever Load is told beside them.
func TestRowsWrong(t *testing.T) {
	for _, rows := range append([]int{-1, api.MaxRows + 1, 2 * api.MaxRows}, far...) {
		if m, e := alloc.New(rows); m != nil || e != api.ErrArg {
			t.Errorf("New(%d): %v, a map: %v", rows, e, m != nil)
		}
		for _, l := range [][]int{nil, {}, {0}, {-1}, {rows}, {rows - 1}, {0, 1, 0}} {
			loadFails(t, rows, l, nil)
			loadFails(t, rows, nil, l)
			loadFails(t, rows, l, l)
		}
	}
}

// loadFails holds a Load to ErrArg, beside which there is no map.
func loadFails(t *testing.T, rows int, used, dirty []int) {
	t.Helper()
	if m, e := alloc.Load(rows, used, dirty); m != nil || e != api.ErrArg {
		t.Errorf("Load(%d, %v, %v): %v, a map: %v", rows, used, dirty, e, m != nil)
	}
}

// loads holds a Load to a pattern.
func loads(t *testing.T, used, dirty []int, pattern string) {
	t.Helper()
	m, e := alloc.Load(len(pattern), used, dirty)
	if m == nil || e != api.OK {
		t.Fatalf("Load(%d, %v, %v): %v, a map: %v", len(pattern), used, dirty, e, m != nil)
	}
	looks(t, "Load", m, pattern)
}

// P10.1: lists that are nil and such without elements are the same; as many rows as there may be, and none.
func TestLoadNothing(t *testing.T) {
	for _, rows := range []int{0, 1, 2, 7, api.MaxRows - 1, api.MaxRows} {
		for _, used := range [][]int{nil, {}, make([]int, 0, 5)} {
			for _, dirty := range [][]int{nil, {}, make([]int, 0, 5)} {
				loads(t, used, dirty, strings.Repeat("f", rows))
			}
		}
	}
}

// P10.1: those of used are used, those of dirty alone are junk: each pattern, numbers in any order, often, and in both lists.
func TestLoad(t *testing.T) {
	c := chance(1)
	for _, p := range append(upTo(6), great()...) {
		used, dirty := numbers(p, 'u'), numbers(p, 'j')
		loads(t, used, dirty, p)
		both := append(slices.Clone(dirty), used...)
		loads(t, used, both, p)
		loads(t, c.shuffled(used), c.shuffled(both), p)
		loads(t, c.shuffled(append(used, used...)), c.shuffled(append(both, dirty...)), p)
	}
	loads(t, []int{1, 1}, []int{1, 4}, "fuffjf")
	loads(t, []int{3, 3, 3, 3, 3, 3, 3}, []int{0, 0, 0, 0, 0, 3}, "jffu")
	loads(t, []int{0, 1, 2}, []int{0, 1, 2}, "uuu")
	loads(t, nil, []int{2, 0, 2}, "jfj")
	loads(t, []int{2, 0, 2}, nil, "ufu")
}

// P10.1: a number that is no row, in one of the lists or in both, wherever it stands there.
func TestLoadWrong(t *testing.T) {
	for _, rows := range []int{0, 1, 2, 5, 256, api.MaxRows} {
		all := numbers(strings.Repeat("f", rows), 'f')
		for _, x := range append([]int{-1, rows, rows + 1, rows + 256, rows + 1<<16, rows + 1<<32, rows - 1<<32, -rows - 1}, far...) {
			if x >= 0 && x < rows {
				continue
			}
			for at := range min(rows, 3) + 1 {
				l := slices.Insert(slices.Clone(all), at, x)
				for _, other := range [][]int{nil, {}, all, {x}, l} {
					loadFails(t, rows, l, other)
					loadFails(t, rows, other, l)
				}
			}
			loadFails(t, rows, append(slices.Clone(all), x), nil)
			loadFails(t, rows, nil, append(slices.Clone(all), x))
			loadFails(t, rows, []int{x, x}, nil)
			loadFails(t, rows, nil, []int{x, x})
		}
	}
}

// P10.2: the free rows with the lowest numbers, rising, between used and junk ones, so many as are asked for, also none; then they are used. Fewer free ones than asked for, by one and by many; numbers below 0.
func TestTake(t *testing.T) {
	for _, p := range append(upTo(6), great()...) {
		free := numbers(p, 'f')
		for _, n := range []int{0, 1, 2, 3, 4, 5, 6, len(free) / 2, len(free) - 1, len(free)} {
			if n < 0 || n > len(free) {
				continue
			}
			for _, m := range []*alloc.Map{fresh(t, p), loaded(t, p)} {
				takes(t, m, n, free[:n], api.OK)
				looks(t, "Take", m, with(p, 'u', free[:n]...))
			}
		}
		m := loaded(t, p)
		for _, n := range append([]int{-1, len(free) + 1, len(free) + 2, len(p) + 1, api.MaxRows + 1}, far...) {
			switch {
			case n < 0:
				takes(t, m, n, nil, api.ErrArg)
			case n > len(free):
				takes(t, m, n, nil, api.ErrFull)
			}
			looks(t, "Take in vain", m, p)
		}
		takes(t, m, len(free), free, api.OK)
	}
}

// P10.2: one by one, and some at a time: what was taken is not taken again, till all are.
func TestTakeOn(t *testing.T) {
	for _, p := range append(patterns(5), great()...) {
		for _, at := range []int{1, 2, 3, 100} {
			m, free := loaded(t, p), numbers(p, 'f')
			for len(free) > 0 {
				n := min(at, len(free))
				takes(t, m, n, free[:n], api.OK)
				takes(t, m, 0, nil, api.OK)
				free = free[n:]
			}
			takes(t, m, 0, nil, api.OK)
			takes(t, m, 1, nil, api.ErrFull)
			looks(t, "Take of all", m, strings.ReplaceAll(p, "f", "u"))
		}
	}
}

// turner is Drop or Clear: what its rows must be, and what they are then.
type turner struct {
	name     string
	from, to byte
	do       func(m *alloc.Map, rows ...int) api.Errno
}

var turners = []turner{
	{"Drop", 'u', 'j', (*alloc.Map).Drop},
	{"Clear", 'j', 'f', (*alloc.Map).Clear},
}

// want is what the call must answer, and the pattern behind it.
func (x turner) want(p string, rows []int) (string, api.Errno) {
	for _, row := range rows {
		if row < 0 || row >= len(p) {
			return p, api.ErrArg
		}
	}
	for i, row := range rows {
		if p[row] != x.from || slices.Contains(rows[:i], row) {
			return p, api.ErrState
		}
	}
	return with(p, x.to, rows...), api.OK
}

// turns holds the call to what it must answer and do.
func (x turner) turns(t *testing.T, m *alloc.Map, p string, rows []int) string {
	t.Helper()
	now, e := x.want(p, rows)
	if got := x.do(m, rows...); got != e {
		t.Fatalf("%q: %s%v: %v, not %v", p, x.name, rows, got, e)
	}
	looks(t, x.name, m, now)
	return now
}

// lists are all of at most so many numbers, each from -1 to rows.
func lists(most, rows int) [][]int {
	l := [][]int{nil}
	for from := 0; most > 0; most-- {
		to := len(l)
		for ; from < to; from++ {
			for x := range rows + 2 {
				l = append(l, append(slices.Clone(l[from]), x-1))
			}
		}
	}
	return l
}

// P10.3: each pattern of few rows, each list of few numbers, such that are no rows and such that stand there often among them.
func TestTurn(t *testing.T) {
	for _, x := range turners {
		for _, p := range upTo(4) {
			for _, l := range lists(3, len(p)) {
				x.turns(t, loaded(t, p), p, l)
			}
		}
	}
}

// P10.3: each error alone, and those that apply at once: a number that is no row goes ahead of rows that are something else, and of such that stand there twice, wherever each stands.
func TestTurnErrors(t *testing.T) {
	c := chance(2)
	const p = "fujfujfuj"
	for _, x := range turners {
		right, free := numbers(p, x.from), numbers(p, 'f')
		other := numbers(p, byte('u'+'j')-x.from)
		wrong := func(e api.Errno, l ...int) {
			t.Helper()
			if _, want := x.want(p, l); want != e {
				t.Fatalf("the test is wrong: %s%v: %v, not %v", x.name, l, want, e)
			}
			for range 10 {
				x.turns(t, loaded(t, p), p, c.shuffled(l))
			}
		}
		wrong(api.OK)
		wrong(api.OK, right...)
		for _, row := range append([]int{-1, len(p), len(p) + 1, len(p) + 256, right[0] + 256, right[0] + 1<<16, right[0] + 1<<32, right[0] - 1<<32}, far...) {
			wrong(api.ErrArg, row)
			wrong(api.ErrArg, row, row)
			wrong(api.ErrArg, append(right, row)...)
			wrong(api.ErrArg, append(free, row)...)
			wrong(api.ErrArg, right[0], right[0], row)
			wrong(api.ErrArg, right[0], right[0], free[0], other[0], row)
		}
		for _, l := range [][]int{free[:1], other[:1], {right[0], right[0]}, {right[0], right[1], right[0]}, {right[0], free[0], other[0], right[0]}} {
			wrong(api.ErrState, l...)
			wrong(api.ErrState, append(l, right...)...)
		}
	}
}

// P10.3: no rows: nothing is done, whatever the map has.
func TestTurnNone(t *testing.T) {
	for _, x := range turners {
		for _, p := range append(upTo(3), great()...) {
			m := loaded(t, p)
			is(t, x.name+" of none", x.do(m), api.OK)
			x.turns(t, m, p, nil)
			x.turns(t, m, p, []int{})
		}
	}
}

// P10.3: as many rows as there may be, in any order, all at once and one by one; one of them twice; more numbers than there are rows.
func TestTurnMany(t *testing.T) {
	c := chance(3)
	for _, x := range turners {
		for _, p := range great() {
			rows := c.shuffled(numbers(p, x.from))
			m := loaded(t, p)
			if len(rows) > 0 {
				x.turns(t, m, p, append(rows, rows[0]))
				x.turns(t, m, p, append(rows, rows[len(rows)-1]))
				x.turns(t, m, p, append(rows, rows...))
			}
			x.turns(t, m, p, append(rows, api.MaxRows))
			x.turns(t, m, p, append(rows, -1))
			x.turns(t, m, p, rows)
		}
		const rows = 100
		p := strings.Repeat(string(x.from), rows)
		m := loaded(t, p)
		for _, row := range c.shuffled(numbers(p, x.from)) {
			p = x.turns(t, m, p, []int{row})
			p = x.turns(t, m, p, []int{row})
		}
		if p != strings.Repeat(string(x.to), rows) {
			t.Errorf("%s one by one: %q", x.name, p)
		}
	}
}

// P10.4: what each row is, of numbers that are none too.
func TestOf(t *testing.T) {
	for _, p := range append(upTo(5), great()...) {
		for _, m := range []*alloc.Map{fresh(t, p), loaded(t, p)} {
			looks(t, "Of", m, p)
			for _, row := range append([]int{-1, len(p), len(p) + 1, len(p) + 256, 1 << 16, 1 << 32, -1 << 32, -len(p) - 1}, far...) {
				if row >= 0 && row < len(p) {
					continue
				}
				if got := m.Of(row); got != api.RowNone {
					t.Errorf("Of(%d) is %d, of %d rows", row, got, len(p))
				}
			}
		}
	}
}

// P10.4: the rows of each number: of the three kinds, and of those that are none.
func TestRows(t *testing.T) {
	for _, p := range append(patterns(4), great()...) {
		want := map[uint8][]int{}
		for letter, what := range letters {
			want[what] = numbers(p, letter)
		}
		m := loaded(t, p)
		for what := range 256 {
			if got := m.Rows(uint8(what)); !slices.Equal(got, want[uint8(what)]) {
				t.Errorf("%q: Rows(%d): %v", p, what, got)
			}
		}
	}
}

// P10.4: Count, behind each call.
func TestCount(t *testing.T) {
	m := loaded(t, "fujfujfuj")
	counts := func(what string, free, used, junk int) {
		t.Helper()
		if f, u, j := m.Count(); f != free || u != used || j != junk {
			t.Errorf("%s: Count: %d %d %d, not %d %d %d", what, f, u, j, free, used, junk)
		}
	}
	counts("Load", 3, 3, 3)
	takes(t, m, 2, []int{0, 3}, api.OK)
	counts("Take", 1, 5, 3)
	takes(t, m, 2, nil, api.ErrFull)
	counts("Take in vain", 1, 5, 3)
	is(t, "Drop", m.Drop(0, 4, 7), api.OK)
	counts("Drop", 1, 2, 6)
	is(t, "Drop", m.Drop(1, 6), api.ErrState)
	counts("Drop in vain", 1, 2, 6)
	is(t, "Clear", m.Clear(8, 5, 4, 0, 7), api.OK)
	counts("Clear", 6, 2, 1)
	is(t, "Clear", m.Clear(2, 8), api.ErrState)
	counts("Clear in vain", 6, 2, 1)
	m.Of(0)
	m.Rows(api.RowFree)
	counts("Of and Rows", 6, 2, 1)
}

// R3: of nil, and of a map that neither New nor Load made, each call answers ErrNil, ahead of all else, or nothing, and does nothing.
func TestNil(t *testing.T) {
	var value alloc.Map
	for _, m := range []*alloc.Map{nil, new(alloc.Map), &value} {
		for range 2 {
			for _, n := range append([]int{-1, 0, 1, 2, api.MaxRows + 1}, far...) {
				takes(t, m, n, nil, api.ErrNil)
				for _, x := range turners {
					is(t, x.name, x.do(m, n), api.ErrNil)
					is(t, x.name, x.do(m, n, n, 0), api.ErrNil)
				}
				if got := m.Of(n); got != api.RowNone {
					t.Errorf("Of(%d) is %d", n, got)
				}
			}
			for _, x := range turners {
				is(t, x.name+" of no rows", x.do(m), api.ErrNil)
			}
			for what := range 256 {
				if got := m.Rows(uint8(what)); len(got) != 0 {
					t.Errorf("Rows(%d): %v", what, got)
				}
			}
			if free, used, junk := m.Count(); free != 0 || used != 0 || junk != 0 {
				t.Errorf("Count: %d %d %d", free, used, junk)
			}
		}
	}
}

// R3: a map of no rows, which New or Load made, is one.
func TestNoRows(t *testing.T) {
	for _, m := range []*alloc.Map{fresh(t, ""), loaded(t, "")} {
		for range 2 {
			takes(t, m, 0, nil, api.OK)
			takes(t, m, 1, nil, api.ErrFull)
			takes(t, m, -1, nil, api.ErrArg)
			for _, x := range turners {
				is(t, x.name+" of no rows", x.do(m), api.OK)
				is(t, x.name+" of 0", x.do(m, 0), api.ErrArg)
			}
			looks(t, "no rows", m, "")
		}
	}
}

// P10.2: a number below 0 goes ahead of too few free rows, which there are for no number below 0.
func TestTakeBelowZero(t *testing.T) {
	for _, p := range []string{"", "u", "j", "f", "ujuj", "ffff"} {
		m := loaded(t, p)
		for _, n := range []int{-1, -2, -5, -256, -1 << 32, math.MinInt} {
			takes(t, m, n, nil, api.ErrArg)
			looks(t, "Take of a number below 0", m, p)
		}
	}
}

// spare is a list that has more room behind its elements, where something stands too.
func spare(l ...int) []int { return append(slices.Clone(l), 90, 91, 92)[:len(l)] }

// unchanged holds a list of spare to what it was made of.
func unchanged(t *testing.T, what string, l, want []int) {
	t.Helper()
	if !slices.Equal(l[:len(l)+3], append(slices.Clone(want), 90, 91, 92)) {
		t.Errorf("%s: the list that was handed in is %v, not %v", what, l[:len(l)+3], want)
	}
}

// R5: a list that is handed in is neither changed nor kept, whatever the answer.
func TestListsAreNotKept(t *testing.T) {
	used, dirty := spare(4, 1, 4), spare(5, 1, 0, 0)
	m, _ := alloc.Load(6, used, dirty)
	unchanged(t, "used", used, []int{4, 1, 4})
	unchanged(t, "dirty", dirty, []int{5, 1, 0, 0})
	for _, l := range [][]int{used, dirty} {
		for i := range l {
			l[i] = 3
		}
	}
	looks(t, "used and dirty changed", m, "juffuj")
	alloc.Load(3, used, dirty)
	unchanged(t, "used of an error", used, []int{3, 3, 3})
	for _, x := range turners {
		const p = "fujfujfuj"
		rows := numbers(p, x.from)
		for _, l := range [][]int{{rows[2], rows[0]}, {rows[1], 0}, {rows[1], rows[0], rows[1]}, {rows[1], 99}} {
			m := loaded(t, p)
			now, _ := x.want(p, l)
			handed := spare(l...)
			x.do(m, handed...)
			unchanged(t, x.name, handed, l)
			for i := range handed {
				handed[i] = 4
			}
			looks(t, x.name+"'s list changed", m, now)
		}
	}
}

// scribble changes all of a list, and what stands behind it as far as it has room.
func scribble(l []int) {
	l = l[:cap(l)]
	for i := range l {
		l[i] = i + 1
	}
}

// R5: a list that is answered is new memory: it may be changed later, and no other call changes it.
func TestAnswersStay(t *testing.T) {
	const p = "fujfujffff"
	m := loaded(t, p)
	taken, _ := m.Take(3)
	rest := m.Rows(api.RowFree)
	more, _ := m.Take(2)
	lists := map[string][]int{"Take": taken, "more of Take": more, "Rows of free": rest, "Rows of used": m.Rows(api.RowUsed), "Rows of junk": m.Rows(api.RowJunk)}
	again := map[string][]int{"Rows of used": m.Rows(api.RowUsed), "Rows of junk": m.Rows(api.RowJunk)}
	want := map[string][]int{"Take": {0, 3, 6}, "more of Take": {7, 8}, "Rows of free": {7, 8, 9}, "Rows of used": {0, 1, 3, 4, 6, 7, 8}, "Rows of junk": {2, 5}}
	is(t, "Drop", m.Drop(0, 7), api.OK)
	is(t, "Clear", m.Clear(7, 2, 5), api.OK)
	const now = "jufuufufuf"
	looks(t, "calls", m, now)
	for name, l := range lists {
		if !slices.Equal(l, want[name]) {
			t.Errorf("%s: %v behind other calls, not %v", name, l, want[name])
		}
	}
	for name, l := range lists {
		scribble(l)
		looks(t, name+" changed", m, now)
		for other, l := range again {
			if !slices.Equal(l, want[other]) {
				t.Errorf("%s changed: the same list of another call is %v", name, l)
			}
		}
	}
	for a, l := range lists {
		for b, other := range lists {
			if a != b && unsafe.SliceData(l) == unsafe.SliceData(other) {
				t.Errorf("%s and %s share memory", a, b)
			}
		}
	}
	takes(t, m, 3, []int{2, 5, 7}, api.OK)
}

// R6: maps have nothing in common, those of the same lists too.
func TestTwoMaps(t *testing.T) {
	used, dirty := []int{1, 4}, []int{2}
	a, _ := alloc.Load(6, used, dirty)
	b, _ := alloc.Load(6, used, dirty)
	c, d := fresh(t, "ffffff"), fresh(t, "ffffff")
	takes(t, a, 2, []int{0, 3}, api.OK)
	is(t, "Drop", a.Drop(1), api.OK)
	is(t, "Clear", a.Clear(2), api.OK)
	takes(t, c, 4, []int{0, 1, 2, 3}, api.OK)
	looks(t, "the one that was changed", a, "ujfuuf")
	looks(t, "the other one", b, "fujfuf")
	looks(t, "the one that was changed", c, "uuuuff")
	looks(t, "the other one", d, "ffffff")
}

// The chapter's example.
func TestExample(t *testing.T) {
	m := fresh(t, "ffff")
	takes(t, m, 2, []int{0, 1}, api.OK)
	is(t, "Drop", m.Drop(1), api.OK)
	takes(t, m, 1, []int{2}, api.OK)
	is(t, "Clear", m.Clear(1), api.OK)
	takes(t, m, 2, []int{1, 3}, api.OK)
	looks(t, "all", m, "uuuu")
}

// model is a map as the chapter's Words say it, and how often each row was taken and not cleared since.
type model struct {
	pattern string
	taken   []int
}

// step is a call: which one, of how many, of which rows.
type step struct {
	kind rune
	n    int
	rows []int
}

// play holds a call of a map to what it must answer and do.
func (w *model) play(t *testing.T, m *alloc.Map, x step) {
	t.Helper()
	switch x.kind {
	case 't':
		free := numbers(w.pattern, 'f')
		switch {
		case x.n < 0:
			takes(t, m, x.n, nil, api.ErrArg)
		case x.n > len(free):
			takes(t, m, x.n, nil, api.ErrFull)
		default:
			takes(t, m, x.n, free[:x.n], api.OK)
			w.pattern = with(w.pattern, 'u', free[:x.n]...)
			for _, row := range free[:x.n] {
				if w.taken[row]++; w.taken[row] > 1 {
					t.Fatalf("the row %d was taken twice", row)
				}
			}
		}
		looks(t, "Take", m, w.pattern)
	case 'd':
		w.pattern = turners[0].turns(t, m, w.pattern, x.rows)
	case 'c':
		now := turners[1].turns(t, m, w.pattern, x.rows)
		for _, row := range numbers(now, 'f') {
			w.taken[row] = 0
		}
		w.pattern = now
	}
}

// newModel is that of a pattern.
func newModel(pattern string) *model {
	w := &model{pattern, make([]int, len(pattern))}
	for row := range w.taken {
		if pattern[row] != 'f' {
			w.taken[row] = 1
		}
	}
	return w
}

// someRows are rows by chance: mostly some of those that the call is for, each once; now and then others, one twice, or such that are none.
func (c *chance) someRows(p string, from byte) []int {
	l := c.shuffled(numbers(p, from))
	l = l[:c.below(len(l)+1)]
	switch c.below(12) {
	case 0:
		l = append(l, c.below(len(p)+2)-1)
	case 1:
		l = append(l, far[c.below(len(far))], c.below(len(p)+1))
	case 2:
		l = append(l, l...)
	case 3:
		l = append(numbers(p, "fuj"[c.below(3)]), l...)
	}
	return l
}

// P10.5: whatever is done, by chance: each row is one of the three at every time, no row is taken twice, unless it was dropped and cleared between; each call answers as the chapter says.
func TestWhatever(t *testing.T) {
	c := chance(5)
	for range 1500 {
		all := patterns(3)
		p := ""
		for range c.below(5) {
			p += all[c.below(len(all))]
		}
		p += "fuj"[:c.below(4)]
		m, w := loaded(t, p), newModel(p)
		if c.below(2) == 0 {
			m = fresh(t, p)
		}
		for range c.below(60) {
			x := step{kind: []rune("ttdddcc")[c.below(7)]}
			switch x.kind {
			case 't':
				x.n = c.below(max(strings.Count(w.pattern, "f"), 1)+3) - 1
				if c.below(20) == 0 {
					x.n = far[c.below(len(far))]
				}
			case 'd':
				x.rows = c.someRows(w.pattern, 'u')
			case 'c':
				x.rows = c.someRows(w.pattern, 'j')
			}
			w.play(t, m, x)
		}
	}
}

// FuzzMap: whatever calls, a map answers as the chapter says. The first bytes say how many rows there are and what each is; then a byte is a call and how many numbers it has, a byte a number.
func FuzzMap(f *testing.F) {
	f.Add(byte(4), "\x00\x00\x00\x00\x06\x04\x01\x03\x05\x01\x06")
	f.Add(byte(0), "\x00\x03\x01\x00\x05\x00")
	f.Add(byte(9), "\x00\x01\x02\x00\x01\x02\x00\x01\x02\x06\x0d\x01\x04\x01\x0e\x02\x05\x08\x09\x03\x40")
	f.Fuzz(func(t *testing.T, rows byte, text string) {
		n := min(int(rows), len(text))
		p := ""
		for i := range n {
			p += string("fuj"[text[i]%3])
		}
		m, w := loaded(t, p), newModel(p)
		for text = text[n:]; len(text) > 0; {
			kind, many := text[0]%3, int(text[0]/3)
			text = text[1:]
			x := step{kind: []rune("tdc")[kind], n: many - 1}
			for kind > 0 && len(text) > 0 && len(x.rows) < many {
				x.rows = append(x.rows, int(int8(text[0])))
				text = text[1:]
			}
			w.play(t, m, x)
		}
	})
}
