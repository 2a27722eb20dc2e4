package matrix_test

import (
	"math"
	"slices"
	"strings"
	"testing"
	"unsafe"

	"hoard/api"
	"hoard/matrix"
)

// product is the product of two elements as the field's Words say it: of polynomials, of which is kept what is left by the divisor.
func product(a, b byte) byte {
	row := 0
	for i := range 8 {
		if a>>i&1 == 1 {
			row ^= int(b) << i
		}
	}
	for top := 14; top >= 8; top-- {
		if row>>top&1 == 1 {
			row ^= 0x11d << (top - 8)
		}
	}
	return byte(row)
}

// mul has all products, inv all inverses (0 of 0, which has none).
var mul, inv = tables()

func tables() (*[256][256]byte, *[256]byte) {
	var l [256][256]byte
	var of [256]byte
	for a := range 256 {
		for b := range 256 {
			l[a][b] = product(byte(a), byte(b))
			if l[a][b] == 1 {
				of[a] = byte(b)
			}
		}
	}
	return &l, &of
}

// times is the product of two matrices as the Words say it.
func times(a, b api.Matrix) api.Matrix {
	m := make(api.Matrix, len(a))
	for i := range m {
		row := make([]byte, len(b[0]))
		for j := range row {
			for k := range b {
				row[j] ^= mul[a[i][k]][b[k][j]]
			}
		}
		m[i] = string(row)
	}
	return m
}

// unit is the unit of n as the Words say it.
func unit(n int) api.Matrix {
	m := make(api.Matrix, n)
	for i := range m {
		m[i] = strings.Repeat("\x00", i) + "\x01" + strings.Repeat("\x00", n-1-i)
	}
	return m
}

// turned has rows as columns.
func turned(m api.Matrix) api.Matrix {
	l := make(api.Matrix, len(m[0]))
	for j := range l {
		row := make([]byte, len(m))
		for i := range m {
			row[i] = m[i][j]
		}
		l[j] = string(row)
	}
	return l
}

// chance makes numbers by a rule.
type chance uint64

func (c *chance) next() uint32 {
	*c = *c*6364136223846793005 + 1442695040888963407
	return uint32(*c >> 32)
}

// below makes a number below n.
func (c *chance) below(n int) int { return int(c.next() % uint32(n)) }

// element makes one that is not 0.
func (c *chance) element() byte { return byte(1 + c.below(255)) }

// text makes one of n bytes.
func (c *chance) text(n int) string {
	l := make([]byte, n)
	for i := range l {
		l[i] = byte(c.next() >> 24)
	}
	return string(l)
}

// matrix makes one of so many rows and columns.
func (c *chance) matrix(rows, cols int) api.Matrix {
	m := make(api.Matrix, rows)
	for i := range m {
		m[i] = c.text(cols)
	}
	return m
}

// order makes the numbers below n in some order.
func (c *chance) order(n int) []int {
	l := make([]int, n)
	for i := range l {
		l[i] = i
	}
	for i := range l {
		j := i + c.below(n-i)
		l[i], l[j] = l[j], l[i]
	}
	return l
}

// whole makes a matrix of n rows and columns that can be undone: of two that have 0 above and below the diagonal, the product, its rows in some order.
func (c *chance) whole(n int) api.Matrix {
	low, high := make(api.Matrix, n), make(api.Matrix, n)
	for i := range n {
		low[i] = c.text(i) + string([]byte{c.element()}) + strings.Repeat("\x00", n-1-i)
		high[i] = strings.Repeat("\x00", i) + string([]byte{c.element()}) + c.text(n-1-i)
	}
	m := times(low, high)
	mixed := make(api.Matrix, n)
	for i, j := range c.order(n) {
		mixed[i] = m[j]
	}
	return mixed
}

// same is a matrix whose rows are all s.
func same(rows int, s string) api.Matrix { return slices.Repeat(api.Matrix{s}, rows) }

// sides are those that matrices are tried with.
var sides = []int{1, 2, 3, 4, 5, 7, 8, 9, 31, 32, 33, 63, 64}

// wrong are numbers that no matrix may have of rows or columns: bytes of some of them are those of numbers it may have.
var wrong = []int{0, -1, -2, -63, -64, -65, -255, math.MinInt32, math.MinInt, math.MinInt + 1, 65, 66, 127, 128, 255, 256, 257, 300, 1 << 16, 1<<16 + 1, 1 << 32, 1<<32 + 1, math.MaxInt32, math.MaxInt - 64, math.MaxInt - 1, math.MaxInt}

// mayNot are matrices that may not be.
func mayNot() []api.Matrix {
	l := []api.Matrix{nil, {}, {""}, {"", ""}, {"", "", ""}, {"a", ""}, {"", "a"}, {"a", "bc"}, {"ab", "c"}, {"ab", "c", "de"}, {"a", "b", ""}, {"", "a", "b"}, {"abc", "ab", "a"}}
	for _, n := range []int{63, 64, 65, 66, 127, 128, 129, 256, 257, 320} {
		l = append(l, same(n, ""))
		if n <= api.MaxSide {
			continue
		}
		for _, other := range []int{1, 2, 63, 64, 65, n} {
			l = append(l, same(n, strings.Repeat("x", other)), same(other, strings.Repeat("x", n)))
		}
	}
	for _, rows := range []int{2, 3, 5, 63, 64} {
		for _, cols := range []int{1, 2, 3, 5, 63, 64} {
			for at := range rows {
				for _, other := range []int{0, cols - 1, cols + 1, cols + 256} {
					m := same(rows, strings.Repeat("x", cols))
					m[at] = strings.Repeat("x", other)
					l = append(l, m)
				}
			}
		}
	}
	return l
}

// isNone tells if there is no matrix, beside that error.
func isNone(m api.Matrix, e, want api.Errno) bool { return len(m) == 0 && e == want }

// P5.1: a matrix of each number of rows and columns may be, whatever its elements are.
func TestMay(t *testing.T) {
	for rows := 1; rows <= api.MaxSide; rows++ {
		for cols := 1; cols <= api.MaxSide; cols++ {
			for _, s := range []string{"x", "\x00", "\xff"} {
				if !matrix.May(same(rows, strings.Repeat(s, cols))) {
					t.Fatalf("%d rows of %d times %x may not be", rows, cols, s)
				}
			}
		}
	}
	for _, m := range []api.Matrix{{"ab"}, {"a", "b"}, {"ä", "bc"}, {"ab", "cd", "ef"}} {
		if !matrix.May(m) {
			t.Errorf("%q may not be", m)
		}
	}
}

// P5.1: no rows, no columns, too many of them, rows of unlike lengths.
func TestMayNot(t *testing.T) {
	for _, m := range mayNot() {
		if matrix.May(m) {
			t.Errorf("%d rows may be: %x", len(m), m)
		}
	}
	if matrix.May(make(api.Matrix, 1<<20)) || matrix.May(same(1, strings.Repeat("x", 1<<20))) || matrix.May(same(1<<20, strings.Repeat("x", 1<<10))) {
		t.Error("a great one may be")
	}
}

// P5.1: the unit of each n.
func TestUnit(t *testing.T) {
	for n := 1; n <= api.MaxSide; n++ {
		m := matrix.Unit(n)
		if len(m) != n {
			t.Fatalf("Unit(%d) has %d rows", n, len(m))
		}
		for i, row := range m {
			if len(row) != n {
				t.Fatalf("row %d of Unit(%d) has %d elements", i, n, len(row))
			}
			for j := range n {
				if (i == j) != (row[j] == 1) || (i != j) != (row[j] == 0) {
					t.Fatalf("Unit(%d): %d at row %d, column %d", n, row[j], i, j)
				}
			}
		}
	}
	if m := matrix.Unit(2); !slices.Equal(m, api.Matrix{"\x01\x00", "\x00\x01"}) {
		t.Errorf("Unit(2): %x", m)
	}
}

// P5.1: there is no unit of another n.
func TestUnitOfWrongNumbers(t *testing.T) {
	for _, n := range wrong {
		if m := matrix.Unit(n); len(m) != 0 {
			t.Errorf("Unit(%d) has %d rows", n, len(m))
		}
	}
}

// P5.1: products that are known.
func TestTimesWrittenOut(t *testing.T) {
	for _, c := range []struct{ a, b, want api.Matrix }{
		{api.Matrix{"\x00"}, api.Matrix{"\x00"}, api.Matrix{"\x00"}},
		{api.Matrix{"\x02"}, api.Matrix{"\x80"}, api.Matrix{"\x1d"}},
		{api.Matrix{"\x02\x03"}, api.Matrix{"\x01", "\x07"}, api.Matrix{"\x0b"}},
		{api.Matrix{"\x01", "\x07"}, api.Matrix{"\x02\x03"}, api.Matrix{"\x02\x03", "\x0e\x09"}},
		{api.Matrix{"\x01\x02", "\x03\x04"}, api.Matrix{"\x01\x00", "\x00\x02"}, api.Matrix{"\x01\x04", "\x03\x08"}},
		{api.Matrix{"\x01\x00", "\x00\x02"}, api.Matrix{"\x01\x02", "\x03\x04"}, api.Matrix{"\x01\x02", "\x06\x08"}},
		{api.Matrix{"\x00\x01", "\x01\x00"}, api.Matrix{"abc", "def"}, api.Matrix{"def", "abc"}},
		{api.Matrix{"\x01\x01", "\x01\x02"}, api.Matrix{"\xf5\xf4", "\xf4\xf4"}, api.Matrix{"\x01\x00", "\x00\x01"}},
		{api.Matrix{"\x01\x01"}, api.Matrix{"ab", "ab"}, api.Matrix{"\x00\x00"}},
		{api.Matrix{"\x00\x00", "\x01\x00", "\x00\x01"}, api.Matrix{"a", "b"}, api.Matrix{"\x00", "a", "b"}},
	} {
		if m, e := matrix.Times(c.a, c.b); !slices.Equal(m, c.want) || e != api.OK {
			t.Errorf("Times(%x, %x): %x %v, not %x", c.a, c.b, m, e, c.want)
		}
	}
}

// P5.1: products of matrices of all kinds of sides are as the Words say.
func TestTimes(t *testing.T) {
	r := chance(1)
	for _, rows := range sides {
		for _, between := range sides {
			for _, cols := range sides {
				if rows*between*cols > 70000 && rows != 64 {
					continue
				}
				a, b := r.matrix(rows, between), r.matrix(between, cols)
				if m, e := matrix.Times(a, b); !slices.Equal(m, times(a, b)) || e != api.OK {
					t.Fatalf("%d rows, %d, %d columns: %x %v, not %x", rows, between, cols, m, e, times(a, b))
				}
			}
		}
	}
}

// P5.1: the unit changes nothing, from either side; a matrix of 0 makes 0; products go in any grouping.
func TestTimesByRules(t *testing.T) {
	r := chance(2)
	for _, rows := range sides {
		for _, cols := range sides {
			m := r.matrix(rows, cols)
			if x, e := matrix.Times(matrix.Unit(rows), m); !slices.Equal(x, m) || e != api.OK {
				t.Fatalf("the unit by %d rows of %d: %x %v", rows, cols, x, e)
			}
			if x, e := matrix.Times(m, matrix.Unit(cols)); !slices.Equal(x, m) || e != api.OK {
				t.Fatalf("%d rows of %d by the unit: %x %v", rows, cols, x, e)
			}
			none := same(cols, "\x00\x00\x00")
			if x, e := matrix.Times(m, none); !slices.Equal(x, same(rows, none[0])) || e != api.OK {
				t.Fatalf("%d rows of %d by 0: %x %v", rows, cols, x, e)
			}
			a, b := r.matrix(3, rows), r.matrix(cols, 2)
			am, _ := matrix.Times(a, m)
			mb, _ := matrix.Times(m, b)
			x, e := matrix.Times(am, b)
			y, f := matrix.Times(a, mb)
			if len(x) != 3 || !slices.Equal(x, y) || e != api.OK || f != api.OK {
				t.Fatalf("%d rows of %d between two: %x %v, %x %v", rows, cols, x, e, y, f)
			}
		}
	}
}

// P5.1: whichever may not be, there is no product: ahead of sides that do not go together too.
func TestTimesForm(t *testing.T) {
	fine := []api.Matrix{unit(1), unit(2), unit(64), same(1, "ab"), same(2, "a"), same(64, "x"), same(1, strings.Repeat("x", 64))}
	for _, m := range mayNot() {
		for _, f := range fine {
			if x, e := matrix.Times(m, f); !isNone(x, e, api.ErrForm) {
				t.Errorf("Times(%x, %x): %x %v", m, f, x, e)
			}
			if x, e := matrix.Times(f, m); !isNone(x, e, api.ErrForm) {
				t.Errorf("Times(%x, %x): %x %v", f, m, x, e)
			}
		}
		if x, e := matrix.Times(m, m); !isNone(x, e, api.ErrForm) {
			t.Errorf("Times(%x, itself): %x %v", m, x, e)
		}
	}
}

// P5.1: sides that do not go together, whatever else is the same of the two.
func TestTimesSide(t *testing.T) {
	some := []int{1, 2, 3, 63, 64}
	for _, rows := range some {
		for _, cols := range some {
			for _, behind := range some {
				for _, last := range some {
					if cols == behind {
						continue
					}
					a, b := same(rows, strings.Repeat("x", cols)), same(behind, strings.Repeat("y", last))
					if x, e := matrix.Times(a, b); !isNone(x, e, api.ErrSide) {
						t.Errorf("%d rows of %d by %d rows of %d: %x %v", rows, cols, behind, last, x, e)
					}
				}
			}
		}
	}
}

// P5.2: what is known to be undone.
func TestUndoWrittenOut(t *testing.T) {
	for _, c := range []struct{ m, want api.Matrix }{
		{api.Matrix{"\x01"}, api.Matrix{"\x01"}},
		{api.Matrix{"\x02"}, api.Matrix{"\x8e"}},
		{api.Matrix{"\x01\x01", "\x01\x02"}, api.Matrix{"\xf5\xf4", "\xf4\xf4"}},
		{api.Matrix{"\x00\x01", "\x01\x00"}, api.Matrix{"\x00\x01", "\x01\x00"}},
		{api.Matrix{"\x02\x00", "\x00\x03"}, api.Matrix{"\x8e\x00", "\x00\xf4"}},
		{api.Matrix{"\x00\x02", "\x03\x00"}, api.Matrix{"\x00\xf4", "\x8e\x00"}},
		{api.Matrix{"\x01\x05", "\x00\x01"}, api.Matrix{"\x01\x05", "\x00\x01"}},
		{api.Matrix{"\x01\x00", "\x05\x01"}, api.Matrix{"\x01\x00", "\x05\x01"}},
		{api.Matrix{"\x00\x01\x00", "\x00\x00\x01", "\x01\x00\x00"}, api.Matrix{"\x00\x00\x01", "\x01\x00\x00", "\x00\x01\x00"}},
		{api.Matrix{"\x01\x01\x00", "\x01\x01\x01", "\x00\x01\x01"}, api.Matrix{"\x00\x01\x01", "\x01\x01\x01", "\x01\x01\x00"}},
	} {
		if m, e := matrix.Undo(c.m); !slices.Equal(m, c.want) || e != api.OK {
			t.Errorf("Undo(%x): %x %v, not %x", c.m, m, e, c.want)
		}
	}
}

// P5.2: each matrix of one element is undone by its inverse; that of 0 can't be.
func TestUndoOfOne(t *testing.T) {
	for a := range 256 {
		m, e := matrix.Undo(api.Matrix{string([]byte{byte(a)})})
		if a == 0 {
			if !isNone(m, e, api.ErrSingular) {
				t.Errorf("Undo(00): %x %v", m, e)
			}
		} else if !slices.Equal(m, api.Matrix{string([]byte{inv[a]})}) || e != api.OK {
			t.Errorf("Undo(%02x): %x %v", a, m, e)
		}
	}
}

// P5.2: all matrices of two rows and columns of some elements are undone as their determinant tells.
func TestUndoOfTwo(t *testing.T) {
	some := []byte{0, 1, 2, 3, 8, 0x1d, 0x53, 0x80, 0x8e, 0xa4, 0xc3, 0xf4, 0xff} // c3 a4 is a rune
	for _, a := range some {
		for _, b := range some {
			for _, c := range some {
				for _, d := range some {
					m := api.Matrix{string([]byte{a, b}), string([]byte{c, d})}
					x, e := matrix.Undo(m)
					by := inv[mul[a][d]^mul[b][c]]
					if by == 0 {
						if !isNone(x, e, api.ErrSingular) {
							t.Fatalf("Undo(%x): %x %v", m, x, e)
						}
						continue
					}
					want := api.Matrix{string([]byte{mul[by][d], mul[by][b]}), string([]byte{mul[by][c], mul[by][a]})}
					if !slices.Equal(x, want) || e != api.OK {
						t.Fatalf("Undo(%x): %x %v, not %x", m, x, e, want)
					}
				}
			}
		}
	}
}

// determinant is the sum of the products of the elements of the first row with the determinants of what is left (no element has another opposite than itself).
func determinant(m api.Matrix) byte {
	if len(m) == 0 {
		return 1
	}
	sum := byte(0)
	for j := range len(m[0]) {
		left := make(api.Matrix, len(m)-1)
		for i := range left {
			left[i] = m[i+1][:j] + m[i+1][j+1:]
		}
		sum ^= mul[m[0][j]][determinant(left)]
	}
	return sum
}

// isUndone tells if Undo answers as it must of a matrix of n rows and columns.
func isUndone(m, x api.Matrix, e api.Errno) bool {
	if determinant(m) == 0 {
		return isNone(x, e, api.ErrSingular)
	}
	return e == api.OK && len(x) == len(m) && len(x[0]) == len(m) && slices.Equal(times(m, x), unit(len(m))) && slices.Equal(times(x, m), unit(len(m)))
}

// P5.2: all matrices of three rows and columns of 0, 1 and 2, and many of four of 0 and 1: rows change places at each step of some, others can't be undone.
func TestUndoOfThreeAndFour(t *testing.T) {
	for number := range 19683 {
		l := make([]byte, 9)
		for i := range l {
			l[i] = byte(number % 3)
			number /= 3
		}
		m := api.Matrix{string(l[:3]), string(l[3:6]), string(l[6:])}
		if x, e := matrix.Undo(m); !isUndone(m, x, e) {
			t.Fatalf("Undo(%x): %x %v", m, x, e)
		}
	}
	for number := 0; number < 1<<16; number += 3 {
		l := make([]byte, 16)
		for i := range l {
			l[i] = byte(number >> i & 1)
		}
		m := api.Matrix{string(l[:4]), string(l[4:8]), string(l[8:12]), string(l[12:])}
		if x, e := matrix.Undo(m); !isUndone(m, x, e) {
			t.Fatalf("Undo(%x): %x %v", m, x, e)
		}
	}
}

// P5.2 and P5.4: matrices of each number of rows that can be undone, are: with what is undone the product is the unit, from both sides, and what is undone twice is the matrix.
func TestUndo(t *testing.T) {
	r := chance(3)
	for n := 1; n <= api.MaxSide; n++ {
		for range 2 {
			m := r.whole(n)
			x, e := matrix.Undo(m)
			if e != api.OK || !matrix.May(x) || len(x) != n || len(x[0]) != n {
				t.Fatalf("%d rows: %x %v", n, x, e)
			}
			if !slices.Equal(times(m, x), unit(n)) {
				t.Fatalf("%d rows by what is undone: %x", n, times(m, x))
			}
			if y, e := matrix.Times(x, m); !slices.Equal(y, unit(n)) || e != api.OK {
				t.Fatalf("what is undone by %d rows: %x %v", n, y, e)
			}
			if y, e := matrix.Undo(x); !slices.Equal(y, m) || e != api.OK {
				t.Fatalf("%d rows undone twice: %x %v, not %x", n, y, e, m)
			}
		}
		if x, e := matrix.Undo(unit(n)); !slices.Equal(x, unit(n)) || e != api.OK {
			t.Fatalf("the unit of %d: %x %v", n, x, e)
		}
	}
}

// orders are all orders of the numbers below n.
func orders(n int) [][]int {
	if n == 0 {
		return [][]int{nil}
	}
	var l [][]int
	for _, o := range orders(n - 1) {
		for at := range n {
			l = append(l, slices.Insert(slices.Clone(o), at, n-1))
		}
	}
	return l
}

// P5.2: the unit's rows in another order are undone just if rows change places: by themselves, turned.
func TestUndoChangesPlaces(t *testing.T) {
	var l [][]int
	for n := 1; n <= 6; n++ {
		l = append(l, orders(n)...)
	}
	r := chance(4)
	for _, n := range sides {
		mixed := r.order(n)
		o := slices.Sorted(slices.Values(mixed))
		back := slices.Clone(o)
		slices.Reverse(back)
		l = append(l, mixed, o, back, append(slices.Clone(o[1:]), 0), append([]int{n - 1}, o[:n-1]...))
	}
	for _, o := range l {
		m := make(api.Matrix, len(o))
		by := make([]byte, len(o))
		for i, j := range o {
			by[i] = r.element()
			row := []byte(unit(len(o))[j])
			row[j] = by[i]
			m[i] = string(row)
		}
		want := make(api.Matrix, len(o))
		for i, j := range o {
			row := make([]byte, len(o))
			row[i] = inv[by[i]]
			want[j] = string(row)
		}
		if x, e := matrix.Undo(m); !slices.Equal(x, want) || e != api.OK {
			t.Fatalf("the order %v: %x %v, not %x", o, x, e, want)
		}
	}
}

// P5.2: 0 on the whole diagonal, and 1 elsewhere: that of an even number of rows is undone by itself, that of an odd one can't be.
func TestUndoWithNothingOnTheDiagonal(t *testing.T) {
	for n := 1; n <= api.MaxSide; n++ {
		m := make(api.Matrix, n)
		for i := range m {
			m[i] = strings.Repeat("\x01", i) + "\x00" + strings.Repeat("\x01", n-1-i)
		}
		x, e := matrix.Undo(m)
		if n%2 == 0 && (!slices.Equal(x, m) || e != api.OK) || n%2 == 1 && !isNone(x, e, api.ErrSingular) {
			t.Errorf("%d rows: %x %v", n, x, e)
		}
	}
}

// less makes a matrix whose row at is the sum of the others, each multiplied by some element.
func (c *chance) less(m api.Matrix, at int) api.Matrix {
	l := slices.Clone(m)
	row := make([]byte, len(m[0]))
	for i := range m {
		by := byte(c.next())
		for j := range row {
			if i != at {
				row[j] ^= mul[by][m[i][j]]
			}
		}
	}
	l[at] = string(row)
	return l
}

// singular are matrices made of m that can't be undone, by its row at.
func (c *chance) singular(m api.Matrix, at int) []api.Matrix {
	n := len(m)
	nothing := slices.Clone(m)
	nothing[at] = strings.Repeat("\x00", n)
	l := []api.Matrix{nothing, c.less(m, at)}
	if n > 1 {
		other := (at + 1 + c.below(n-1)) % n
		twice, many := slices.Clone(m), slices.Clone(m)
		twice[at] = m[other]
		many[at] = times(api.Matrix{string([]byte{c.element()})}, api.Matrix{m[other]})[0]
		l = append(l, twice, many)
	}
	return l
}

// P5.2: a row of 0, two same rows, one that is another one multiplied, a sum of others; and columns likewise: wherever they stand, nothing undoes it.
func TestUndoSingular(t *testing.T) {
	r := chance(5)
	for _, n := range sides {
		for at := range n {
			if n > 9 && at > 2 && at < n-3 && at%8 != 0 {
				continue
			}
			for i, m := range r.singular(r.whole(n), at) {
				if x, e := matrix.Undo(m); !isNone(x, e, api.ErrSingular) {
					t.Fatalf("kind %d of %d rows, at row %d: %x %v", i, n, at, x, e)
				}
				if x, e := matrix.Undo(turned(m)); !isNone(x, e, api.ErrSingular) {
					t.Fatalf("kind %d of %d columns, at column %d: %x %v", i, n, at, x, e)
				}
			}
		}
		for _, s := range []string{"\x00", "\x05"} {
			m := same(n, strings.Repeat(s, n))
			if x, e := matrix.Undo(m); (n > 1 || s == "\x00") && !isNone(x, e, api.ErrSingular) {
				t.Fatalf("%x: %x %v", m, x, e)
			}
		}
	}
}

// P5.2: other than as many rows as columns, also where no row has anything, or rows are the same.
func TestUndoSide(t *testing.T) {
	r := chance(6)
	for _, rows := range sides {
		for _, cols := range sides {
			if rows == cols {
				continue
			}
			for _, m := range []api.Matrix{r.matrix(rows, cols), same(rows, strings.Repeat("\x00", cols)), same(rows, strings.Repeat("\x01", cols))} {
				if x, e := matrix.Undo(m); !isNone(x, e, api.ErrSide) {
					t.Errorf("%d rows of %d: %x %v", rows, cols, x, e)
				}
			}
		}
	}
}

// P5.2: what may not be, whether it has as many rows as columns or not, and whether anything could undo it or not.
func TestUndoForm(t *testing.T) {
	l := append(mayNot(), unit(65), unit(66), unit(128), unit(256), same(65, strings.Repeat("\x00", 65)), same(65, strings.Repeat("\x00", 64)), api.Matrix{"\x00", ""}, api.Matrix{"\x00\x00", "\x00"}, api.Matrix{"\x01\x00", "\x00\x01\x00"})
	for _, m := range l {
		if x, e := matrix.Undo(m); !isNone(x, e, api.ErrForm) {
			t.Errorf("%d rows, %x: %x %v", len(m), m, x, e)
		}
	}
}

// P5.3: Cauchy's rows of each numbers, element by element.
func TestCauchy(t *testing.T) {
	for rows := 1; rows <= api.MaxSide; rows++ {
		for cols := 1; cols <= api.MaxSide; cols++ {
			if rows*cols > 500 && rows%5 > 0 && cols%7 > 0 && rows+cols < 120 {
				continue
			}
			want := make(api.Matrix, rows)
			for i := range want {
				row := make([]byte, cols)
				for j := range row {
					row[j] = inv[(cols+i)^j]
				}
				want[i] = string(row)
			}
			if m, e := matrix.Cauchy(rows, cols); !slices.Equal(m, want) || e != api.OK {
				t.Fatalf("Cauchy(%d, %d): %x %v, not %x", rows, cols, m, e, want)
			}
		}
	}
}

// P5.3: Cauchy's rows, written out.
func TestCauchyWrittenOut(t *testing.T) {
	for _, c := range []struct {
		rows, cols int
		want       api.Matrix
	}{
		{1, 1, api.Matrix{"\x01"}},
		{1, 2, api.Matrix{"\x8e\xf4"}},
		{2, 1, api.Matrix{"\x01", "\x8e"}},
		{2, 2, api.Matrix{"\x8e\xf4", "\xf4\x8e"}},
		{2, 3, api.Matrix{"\xf4\x8e\x01", "\x47\xa7\x7a"}},
	} {
		if m, e := matrix.Cauchy(c.rows, c.cols); !slices.Equal(m, c.want) || e != api.OK {
			t.Errorf("Cauchy(%d, %d): %x %v, not %x", c.rows, c.cols, m, e, c.want)
		}
	}
}

// P5.3: numbers that no matrix may have, each of the two, and both.
func TestCauchyOfWrongNumbers(t *testing.T) {
	for _, n := range wrong {
		for _, other := range append([]int{1, 2, 63, 64}, wrong...) {
			if m, e := matrix.Cauchy(n, other); !isNone(m, e, api.ErrArg) {
				t.Errorf("Cauchy(%d, %d): %d rows, %v", n, other, len(m), e)
			}
			if m, e := matrix.Cauchy(other, n); !isNone(m, e, api.ErrArg) {
				t.Errorf("Cauchy(%d, %d): %d rows, %v", other, n, len(m), e)
			}
		}
	}
}

// P5.3: rows that are picked: in that order, some several times, some not at all.
func TestPick(t *testing.T) {
	m := api.Matrix{"ab", "cd", "ef"}
	for _, c := range []struct {
		rows []int
		want api.Matrix
	}{
		{[]int{0}, api.Matrix{"ab"}},
		{[]int{2}, api.Matrix{"ef"}},
		{[]int{0, 1, 2}, m},
		{[]int{2, 1, 0}, api.Matrix{"ef", "cd", "ab"}},
		{[]int{1, 2}, api.Matrix{"cd", "ef"}},
		{[]int{1, 1}, api.Matrix{"cd", "cd"}},
		{[]int{2, 0, 2, 2, 0, 1}, api.Matrix{"ef", "ab", "ef", "ef", "ab", "cd"}},
	} {
		if x, e := matrix.Pick(m, c.rows...); !slices.Equal(x, c.want) || e != api.OK {
			t.Errorf("Pick(%v): %q %v, not %q", c.rows, x, e, c.want)
		}
	}
	r := chance(7)
	for _, n := range sides {
		for _, cols := range []int{1, 2, 63, 64} {
			m := r.matrix(n, cols)
			for _, picked := range sides {
				rows := make([]int, picked)
				want := make(api.Matrix, picked)
				for i := range rows {
					rows[i] = r.below(n)
					want[i] = m[rows[i]]
				}
				if x, e := matrix.Pick(m, rows...); !slices.Equal(x, want) || e != api.OK {
					t.Fatalf("%v of %d rows of %d: %x %v, not %x", rows, n, cols, x, e, want)
				}
			}
		}
	}
}

// P5.3: no rows are picked, or one more than a matrix may have, and more; MaxSide are fine, also of one row.
func TestPickOfWrongNumbers(t *testing.T) {
	for _, m := range []api.Matrix{{"a"}, {"ab", "cd"}, unit(63), unit(64), same(64, "a")} {
		if x, e := matrix.Pick(m); !isNone(x, e, api.ErrArg) {
			t.Errorf("none of %d rows: %x %v", len(m), x, e)
		}
		if x, e := matrix.Pick(m, []int{}...); !isNone(x, e, api.ErrArg) {
			t.Errorf("an empty list of %d rows: %x %v", len(m), x, e)
		}
		if x, e := matrix.Pick(m, make([]int, api.MaxSide)...); !slices.Equal(x, same(api.MaxSide, m[0])) || e != api.OK {
			t.Errorf("MaxSide times the first of %d rows: %x %v", len(m), x, e)
		}
		for _, n := range []int{65, 66, 127, 128, 256, 257, 320, 1 << 16, 1<<16 + 1, 1 << 20} {
			if x, e := matrix.Pick(m, make([]int, n)...); !isNone(x, e, api.ErrArg) {
				t.Errorf("%d of %d rows: %d rows, %v", n, len(m), len(x), e)
			}
		}
	}
}

// P5.3: a row that there is not, wherever it stands among those that are picked.
func TestPickOfRowsThatAreNot(t *testing.T) {
	for _, m := range []api.Matrix{{"a"}, {"ab"}, {"ab", "cd"}, {"a", "b", "c"}, same(5, "xy"), unit(64)} {
		for _, no := range []int{-1, -2, -64, -256, math.MinInt32, math.MinInt, len(m), len(m) + 1, len(m) + 64, 64, 65, 256, 257, 1 << 32, math.MaxInt32, math.MaxInt} {
			for _, n := range []int{1, 2, 3, 64} {
				for at := range n {
					rows := make([]int, n)
					rows[at] = no
					if x, e := matrix.Pick(m, rows...); !isNone(x, e, api.ErrArg) {
						t.Fatalf("%v of %d rows: %x %v", rows, len(m), x, e)
					}
				}
			}
		}
	}
}

// P5.3: of what may not be nothing is picked, ahead of rows that may not be picked.
func TestPickForm(t *testing.T) {
	for _, m := range mayNot() {
		for _, rows := range [][]int{nil, {0}, {0, 1}, {1, 0, 1}, {-1}, {64}, {math.MaxInt}, make([]int, 64), make([]int, 65)} {
			if x, e := matrix.Pick(m, rows...); !isNone(x, e, api.ErrForm) {
				t.Errorf("%d of %d rows, %x: %x %v", len(rows), len(m), m, x, e)
			}
		}
	}
}

// P5.3: a's rows, and b's behind them, up to MaxSide together; with one more there are too many.
func TestBelow(t *testing.T) {
	if m, e := matrix.Below(api.Matrix{"ab", "cd"}, api.Matrix{"ef"}); !slices.Equal(m, api.Matrix{"ab", "cd", "ef"}) || e != api.OK {
		t.Errorf("%q %v", m, e)
	}
	if m, e := matrix.Below(api.Matrix{"ab"}, api.Matrix{"ab"}); !slices.Equal(m, api.Matrix{"ab", "ab"}) || e != api.OK {
		t.Errorf("%q %v", m, e)
	}
	r := chance(8)
	for above := 1; above <= api.MaxSide; above++ {
		for below := 1; below <= api.MaxSide; below++ {
			cols := sides[r.below(len(sides))]
			a, b := r.matrix(above, cols), r.matrix(below, cols)
			m, e := matrix.Below(a, b)
			switch {
			case above+below > api.MaxSide:
				if !isNone(m, e, api.ErrArg) {
					t.Fatalf("%d rows and %d: %d rows, %v", above, below, len(m), e)
				}
			case !slices.Equal(m, slices.Concat(a, b)) || e != api.OK:
				t.Fatalf("%d rows and %d of %d: %x %v", above, below, cols, m, e)
			}
		}
	}
}

// P5.3: rows of unlike lengths are not put together, ahead of too many of them.
func TestBelowSide(t *testing.T) {
	some := []int{1, 2, 3, 32, 63, 64}
	for _, above := range some {
		for _, cols := range some {
			for _, below := range some {
				for _, other := range some {
					if cols == other {
						continue
					}
					a, b := same(above, strings.Repeat("x", cols)), same(below, strings.Repeat("y", other))
					if m, e := matrix.Below(a, b); !isNone(m, e, api.ErrSide) {
						t.Errorf("%d rows of %d, %d of %d: %x %v", above, cols, below, other, m, e)
					}
				}
			}
		}
	}
}

// P5.3: whichever may not be, they are not put together: ahead of unlike lengths, and of too many.
func TestBelowForm(t *testing.T) {
	fine := []api.Matrix{{"a"}, {"ab"}, {"a", "b"}, same(64, "x"), same(1, strings.Repeat("x", 64)), unit(64)}
	for _, m := range mayNot() {
		for _, f := range fine {
			if x, e := matrix.Below(m, f); !isNone(x, e, api.ErrForm) {
				t.Errorf("Below(%x, %x): %x %v", m, f, x, e)
			}
			if x, e := matrix.Below(f, m); !isNone(x, e, api.ErrForm) {
				t.Errorf("Below(%x, %x): %x %v", f, m, x, e)
			}
		}
		if x, e := matrix.Below(m, m); !isNone(x, e, api.ErrForm) {
			t.Errorf("Below(%x, itself): %x %v", m, x, e)
		}
	}
}

// choices hands on each choice of size of the numbers below n, upwards, till one is refused.
func choices(n, size int, take func([]int) bool) {
	l := make([]int, size)
	for i := range l {
		l[i] = i
	}
	for take(l) {
		at := size - 1
		for at >= 0 && l[at] == n-size+at {
			at--
		}
		if at < 0 {
			return
		}
		l[at]++
		for i := at + 1; i < size; i++ {
			l[i] = l[i-1] + 1
		}
	}
}

// spread is the unit of cols with Cauchy's rows below it.
func spread(t *testing.T, rows, cols int) api.Matrix {
	c, e := matrix.Cauchy(rows, cols)
	if e != api.OK {
		t.Fatalf("Cauchy(%d, %d): %v", rows, cols, e)
	}
	m, e := matrix.Below(matrix.Unit(cols), c)
	if e != api.OK || len(m) != rows+cols {
		t.Fatalf("the unit of %d with %d rows below it: %d rows, %v", cols, rows, len(m), e)
	}
	return m
}

// isUndoneBy tells if that choice of m's rows is undone, from both sides.
func isUndoneBy(t *testing.T, m api.Matrix, choice []int) bool {
	picked, e := matrix.Pick(m, choice...)
	if e != api.OK {
		t.Errorf("%v of %d rows: %v", choice, len(m), e)
		return false
	}
	x, e := matrix.Undo(picked)
	if e != api.OK || !slices.Equal(times(picked, x), unit(len(x))) || !slices.Equal(times(x, picked), unit(len(x))) {
		t.Errorf("%v of %d rows: %x %v", choice, len(m), x, e)
		return false
	}
	return true
}

// P5.4: each choice of as many rows of the unit with Cauchy's rows below it as there are columns can be undone: all choices of few rows, and where there are few of them.
func TestEachChoice(t *testing.T) {
	for cols := 1; cols <= 6; cols++ {
		for rows := 1; rows <= 6; rows++ {
			m := spread(t, rows, cols)
			choices(rows+cols, cols, func(l []int) bool { return isUndoneBy(t, m, l) })
		}
	}
	for _, n := range []int{12, 31, 32, 63, 64} {
		for _, cols := range []int{1, 2, n - 1} {
			m := spread(t, n-cols, cols)
			choices(n, cols, func(l []int) bool { return isUndoneBy(t, m, l) })
		}
	}
	m := spread(t, 2, 30)
	choices(32, 30, func(l []int) bool { return isUndoneBy(t, m, l) })
}

// P5.4: some choices, in whatever order, where there are too many: those of Cauchy's rows alone too.
func TestSomeChoices(t *testing.T) {
	r := chance(9)
	for _, n := range []int{16, 32, 63, 64} {
		for cols := 1; cols < n; cols++ {
			m := spread(t, n-cols, cols)
			last := make([]int, cols)
			for i := range last {
				last[i] = n - 1 - i
			}
			if !isUndoneBy(t, m, last) || !isUndoneBy(t, m, r.order(n)[:cols]) || !isUndoneBy(t, m, r.order(n)[:cols]) {
				return
			}
		}
	}
	c, _ := matrix.Cauchy(64, 64)
	for at := range 64 {
		m := slices.Concat(unit(64)[:at], c[at:at+1], unit(64)[at+1:])
		if !isUndoneBy(t, m, r.order(64)) {
			return
		}
	}
	isUndoneBy(t, c, r.order(64))
}

// within tells if a's bytes are some of b's.
func within(a, b string) bool {
	at := uintptr(unsafe.Pointer(unsafe.StringData(a)))
	from := uintptr(unsafe.Pointer(unsafe.StringData(b)))
	return at >= from && at < from+uintptr(len(b))
}

// R5: what is handed in is as it was, what stands behind it in its memory too.
func TestNothingIsChanged(t *testing.T) {
	r := chance(10)
	whole := r.whole(8)
	all := append(slices.Clone(whole), "behind", "it")
	numbers := []int{3, 1, 2, 0, 7, 9}
	for range 2 {
		m, rows := all[:8], numbers[:3]
		matrix.May(m)
		matrix.Times(m, m)
		matrix.Undo(m)
		matrix.Undo(m[:7])
		matrix.Pick(m, rows...)
		matrix.Below(m, m)
		matrix.Below(m[:4], m[6:])
		if !slices.Equal(all, append(slices.Clone(whole), "behind", "it")) {
			t.Fatalf("the matrix is another one now: %x", all)
		}
		if !slices.Equal(numbers, []int{3, 1, 2, 0, 7, 9}) {
			t.Fatalf("the rows are others now: %v", numbers)
		}
	}
}

// R5, R6: answers are memory of their own: who changes one changes neither what was handed in nor what is answered next.
func TestAnswersAreNew(t *testing.T) {
	r := chance(11)
	m, none := r.whole(20), same(20, strings.Repeat("\x00", 20))
	one := unit(20)
	calls := []func() api.Matrix{
		func() api.Matrix { return matrix.Unit(20) },
		func() api.Matrix { x, _ := matrix.Times(m, one); return x },
		func() api.Matrix { x, _ := matrix.Times(one, m); return x },
		func() api.Matrix { x, _ := matrix.Times(m, none); return x },
		func() api.Matrix { x, _ := matrix.Undo(m); return x },
		func() api.Matrix { x, _ := matrix.Undo(one); return x },
		func() api.Matrix { x, _ := matrix.Cauchy(20, 20); return x },
		func() api.Matrix { x, _ := matrix.Pick(m, 0, 1, 2, 1, 1); return x },
		func() api.Matrix { x, _ := matrix.Below(m, m); return x },
	}
	before := slices.Clone(m)
	for i, call := range calls {
		got := call()
		want := slices.Clone(got)
		if len(got) == 0 {
			t.Errorf("answer %d: nothing", i)
		}
		for _, row := range got {
			if slices.ContainsFunc(slices.Concat(m, one, none), func(s string) bool { return within(row, s) }) {
				t.Errorf("answer %d is bytes of what was handed in", i)
			}
		}
		clear(got)
		if again := call(); !slices.Equal(again, want) {
			t.Errorf("answer %d is %x, and then %x", i, want, again)
		}
		if !slices.Equal(m, before) || !slices.Equal(one, unit(20)) {
			t.Fatalf("answer %d is what was handed in", i)
		}
	}
}

// R4: a nil matrix and one without rows, no rows and a list of none of them, are the same.
func TestNilIsEmpty(t *testing.T) {
	fine := api.Matrix{"a"}
	for _, m := range []api.Matrix{nil, {}} {
		_, one := matrix.Times(m, fine)
		_, two := matrix.Times(fine, m)
		_, undo := matrix.Undo(m)
		_, pick := matrix.Pick(m, 0)
		_, above := matrix.Below(m, fine)
		_, below := matrix.Below(fine, m)
		if e := []api.Errno{one, two, undo, pick, above, below}; matrix.May(m) || !slices.Equal(e, slices.Repeat([]api.Errno{api.ErrForm}, 6)) {
			t.Errorf("%v %v", matrix.May(m), e)
		}
	}
}

// cut is s in rows of size bytes; what is left is one too.
func cut(s string, size int) api.Matrix {
	var m api.Matrix
	for size > 0 && s != "" {
		n := min(size, len(s))
		m = append(m, s[:n])
		s = s[n:]
	}
	return m
}

// may is what May has to answer.
func may(m api.Matrix) bool {
	return len(m) > 0 && len(m) <= 64 && m[0] != "" && len(m[0]) <= 64 && !slices.ContainsFunc(m, func(s string) bool { return len(s) != len(m[0]) })
}

// FuzzMatrix: whatever is handed in, each call ends, and answers by its promise.
func FuzzMatrix(f *testing.F) {
	f.Add("abcd", 2, "ef", 2, 1, 0)
	f.Add("\x01\x01\x01\x02", 2, "", 0, -1, 65)
	f.Add("\x01\x01\x01\x01", 2, "abc", 2, 64, 64)
	f.Fuzz(func(t *testing.T, s string, size int, text string, other, x, y int) {
		a, b := cut(s, size), cut(text, other)
		if matrix.May(a) != may(a) {
			t.Errorf("May(%x): %v", a, matrix.May(a))
		}
		wantE := func(name string, m api.Matrix, e api.Errno, refused ...bool) {
			errors := []api.Errno{api.ErrForm, api.ErrSide, api.ErrArg}
			want := api.OK
			if i := slices.Index(refused, true); i >= 0 {
				want = errors[i]
			}
			if e != want || (e == api.OK) != may(m) || e != api.OK && len(m) != 0 {
				t.Errorf("%s of %x, %x, %d, %d: %x %v, not %v", name, a, b, x, y, m, e, want)
			}
		}
		form := !may(a) || !may(b)
		m, e := matrix.Times(a, b)
		wantE("Times", m, e, form, !form && len(a[0]) != len(b))
		m, e = matrix.Below(a, b)
		wantE("Below", m, e, form, !form && len(a[0]) != len(b[0]), !form && len(a)+len(b) > 64)
		m, e = matrix.Pick(a, x, y)
		wantE("Pick", m, e, !may(a), false, min(x, y) < 0 || max(x, y) >= len(a))
		m, e = matrix.Cauchy(x, y)
		wantE("Cauchy", m, e, false, false, min(x, y) < 1 || max(x, y) > 64)
		if m, e = matrix.Undo(a); e != api.ErrSingular {
			wantE("Undo", m, e, !may(a), may(a) && len(a) != len(a[0]))
		} else if len(m) != 0 || len(a) <= 6 && determinant(a) != 0 {
			t.Errorf("Undo(%x): %x %v", a, m, e)
		}
		if e == api.OK && !slices.Equal(times(a, m), unit(len(a))) {
			t.Errorf("Undo(%x): %x", a, m)
		}
	})
}
