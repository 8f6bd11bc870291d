package solve

import (
	"slices"
	"testing"

	"strongbox/api"
)

// product is told bit by bit, without the field that the package leans on.
func product(a, b uint8) uint8 {
	sum := 0
	for i := range 8 {
		if b>>i&1 == 1 {
			sum ^= int(a) << i
		}
	}
	for i := 15; i >= 8; i-- {
		if sum>>i&1 == 1 {
			sum ^= 0x11D << (i - 8)
		}
	}
	return uint8(sum)
}

// table has all products: large matrices ask for millions of them.
type table [256][256]uint8

func products() *table {
	all := &table{}
	for a := range all {
		for b := range all[a] {
			all[a][b] = product(uint8(a), uint8(b))
		}
	}
	return all
}

// crossed is the product of two matrices, straight by the chapter's words.
func (p *table) crossed(a, b [][]uint8) [][]uint8 {
	m := filled(len(a), len(b[0]), 0)
	for i := range m {
		for k := range b {
			for j := range m[i] {
				m[i][j] ^= p[a[i][k]][b[k][j]]
			}
		}
	}
	return m
}

// determinant is told by its minors, which asks for no step down.
func determinant(m [][]uint8) uint8 {
	if len(m) == 0 {
		return 1
	}
	var sum uint8
	for j, number := range m[0] {
		if number != 0 {
			sum ^= product(number, determinant(without(m[1:], j)))
		}
	}
	return sum
}

func without(m [][]uint8, column int) [][]uint8 {
	rest := make([][]uint8, len(m))
	for i, row := range m {
		rest[i] = slices.Delete(slices.Clone(row), column, column+1)
	}
	return rest
}

// rankByMinors is the size of the largest square part whose determinant is not 0.
func rankByMinors(m [][]uint8) int {
	best := 0
	for rows := range 1 << len(m) {
		for columns := range 1 << len(m[0]) {
			part := square(m, rows, columns)
			if part != nil && len(part) > best && determinant(part) != 0 {
				best = len(part)
			}
		}
	}
	return best
}

// square is the part of those rows and columns whose bits are set; nil if it is not square.
func square(m [][]uint8, rows, columns int) [][]uint8 {
	var part [][]uint8
	for i := range m {
		if rows>>i&1 == 0 {
			continue
		}
		var row []uint8
		for j := range m[i] {
			if columns>>j&1 == 1 {
				row = append(row, m[i][j])
			}
		}
		part = append(part, row)
	}
	if len(part) == 0 || len(part) != len(part[0]) {
		return nil
	}
	return part
}

// numbers are the same ones in each run, and look like any.
type numbers uint32

func (n *numbers) next() int {
	*n = *n*1664525 + 1013904223
	return int(*n >> 8)
}

func (n *numbers) list(length int) []uint8 {
	v := make([]uint8, length)
	for i := range v {
		v[i] = uint8(n.next())
		if n.next()%5 == 0 {
			v[i] = 0
		}
	}
	return v
}

func (n *numbers) matrix(rows, columns int) [][]uint8 {
	m := make([][]uint8, rows)
	for i := range m {
		m[i] = n.list(columns)
	}
	return m
}

// whole can be turned about: a product of two that have something all along where row and column are the same, and 0 on one side of it, with its rows mixed.
func (n *numbers) whole(p *table, size int) [][]uint8 {
	low, high := n.matrix(size, size), n.matrix(size, size)
	for i := range size {
		low[i][i], high[i][i] = uint8(1+n.next()%255), uint8(1+n.next()%255)
		for j := range i {
			low[j][i], high[i][j] = 0, 0
		}
	}
	m := p.crossed(low, high)
	for i := range m {
		j := i + n.next()%(size-i)
		m[i], m[j] = m[j], m[i]
	}
	return m
}

// stepped is a matrix of so many rows that are done, as it is when it has stepped down.
func (n *numbers) stepped(rows, columns, rank int) [][]uint8 {
	m := n.matrix(rows, columns)
	at := n.rising(columns, rank)
	for i, row := range m {
		if i >= rank {
			clear(row)
			continue
		}
		clear(row[:at[i]])
		for k, column := range at {
			row[column] = 0
			if k == i {
				row[column] = 1
			}
		}
	}
	return m
}

// rising are so many of the numbers below a bound.
func (n *numbers) rising(bound, count int) []int {
	var all []int
	for i := range bound {
		if n.next()%(bound-i) < count-len(all) {
			all = append(all, i)
		}
	}
	return all
}

func filled(rows, columns int, number uint8) [][]uint8 {
	m := make([][]uint8, rows)
	for i := range m {
		m[i] = slices.Repeat([]uint8{number}, columns)
	}
	return m
}

func one(n int) [][]uint8 {
	m := filled(n, n, 0)
	for i := range m {
		m[i][i] = 1
	}
	return m
}

func column(v []uint8) [][]uint8 {
	m := make([][]uint8, len(v))
	for i := range v {
		m[i] = []uint8{v[i]}
	}
	return m
}

// wrong are lists of rows that may not be a matrix.
func wrong() map[string][][]uint8 {
	shorter := one(255)
	shorter[254] = shorter[254][:254]
	longer := one(254)
	longer[253] = append(longer[253], 7)
	return map[string][][]uint8{
		"nil":                    nil,
		"no rows":                {},
		"one row too many":       filled(256, 1, 1),
		"one row too many, wide": filled(256, 255, 1),
		"one column too many":    filled(1, 256, 1),
		"high and too wide":      filled(255, 256, 1),
		"all too many":           one(256),
		"many rows":              filled(1000, 2, 1),
		"a great square":         one(257),
		"a row of none":          {{}},
		"a nil row":              {nil},
		"rows of none":           filled(3, 0, 0),
		"255 rows of none":       filled(255, 0, 0),
		"first row of none":      {{}, {1}},
		"second row of none":     {{1}, {}},
		"second row is nil":      {{1, 2}, nil},
		"second row longer":      {{1}, {1, 2}},
		"second row shorter":     {{1, 2}, {1}},
		"square but for one":     {{1, 0, 0}, {0, 1}, {0, 0, 1}},
		"last row shorter":       shorter,
		"last row longer":        longer,
		"only first too long":    {make([]uint8, 256), {1}},
		"as many in all":         {{1, 2, 3}, {4}},
	}
}

func held(m [][]uint8) [][]uint8 {
	c := make([][]uint8, len(m))
	for i := range m {
		c[i] = slices.Clone(m[i])
	}
	return c
}

func alike(a, b [][]uint8) bool {
	return slices.EqualFunc(a, b, slices.Equal[[]uint8])
}

// scribble writes all over a list, with the room behind its end.
func scribble(v []uint8) {
	v = v[:cap(v)]
	for i := range v {
		v[i] ^= 0xA5
	}
}

// roomy has rows with room behind their ends, in which a mark stands.
func roomy(m [][]uint8) [][]uint8 {
	all := make([][]uint8, len(m), len(m)+2)
	for i, row := range m {
		all[i] = append(append(make([]uint8, 0, len(row)+3), row...), 99, 98, 97)[:len(row)]
	}
	copy(all[len(m):cap(all)], [][]uint8{{55}, {56}})
	return all
}

func untouched(t *testing.T, name string, m, was [][]uint8) {
	t.Helper()
	if !alike(m, was) {
		t.Errorf("%s: what was handed in is now %v, was %v", name, m, was)
	}
	for i, row := range m {
		if !slices.Equal(row[len(row):len(row)+3], []uint8{99, 98, 97}) {
			t.Errorf("%s: behind row %d stands %v", name, i, row[len(row):len(row)+3])
		}
	}
	if !alike(m[len(m):len(m)+2], [][]uint8{{55}, {56}}) {
		t.Errorf("%s: behind the rows stands %v", name, m[len(m):len(m)+2])
	}
}

// apart writes into each row of an answer in turn, and looks whether another one has changed.
func apart(t *testing.T, name string, m [][]uint8) {
	t.Helper()
	for i := range m {
		was := held(m)
		scribble(m[i])
		for j := range m {
			if j != i && !slices.Equal(m[j], was[j]) {
				t.Errorf("%s: rows %d and %d share memory", name, i, j)
			}
		}
	}
}

func turn(t *testing.T, m [][]uint8) [][]uint8 {
	t.Helper()
	about, e := Turn(m)
	if e != api.OK {
		t.Fatalf("%v turned about: %d", m, e)
	}
	return about
}

// The chapter's examples.
func TestExamples(t *testing.T) {
	m := [][]uint8{{1, 1}, {0, 1}}
	if about, e := Turn(m); e != api.OK || !alike(about, m) {
		t.Error("1 1, 0 1 turned about:", about, e)
	}
	if about, e := Turn([][]uint8{{1, 1}, {1, 1}}); e != api.ErrNone || len(about) != 0 {
		t.Error("1 1, 1 1 turned about:", about, e)
	}
	if rank, e := Rank([][]uint8{{1, 1}, {1, 1}}); e != api.OK || rank != 1 {
		t.Error("the rank of 1 1, 1 1:", rank, e)
	}
	if about, e := Turn([][]uint8{{2}}); e != api.OK || !alike(about, [][]uint8{{142}}) {
		t.Error("2 turned about:", about, e)
	}
	if v, e := Solve(m, []uint8{3, 1}); e != api.OK || !slices.Equal(v, []uint8{2, 1}) {
		t.Error("Solve:", v, e)
	}
}

// P4.1: of one row of one number all there are.
func TestOfOne(t *testing.T) {
	for a := range 256 {
		m := [][]uint8{{uint8(a)}}
		about, e := Turn(m)
		rank, er := Rank(m)
		down, ed := Down(m)
		v, ev := Solve(m, []uint8{77})
		if er != api.OK || ed != api.OK {
			t.Errorf("%d: %d, %d", a, er, ed)
		}
		if a == 0 {
			if e != api.ErrNone || len(about) != 0 || rank != 0 || !alike(down, m) || ev != api.ErrNone || len(v) != 0 {
				t.Error("of 0:", about, e, rank, down, v, ev)
			}
			continue
		}
		if e != api.OK || product(about[0][0], uint8(a)) != 1 || rank != 1 || !alike(down, [][]uint8{{1}}) {
			t.Errorf("%d: %v, %d, %d, %v", a, about, e, rank, down)
		}
		if ev != api.OK || len(v) != 1 || product(v[0], uint8(a)) != 77 {
			t.Errorf("%d by what is 77? %v, %d", a, v, ev)
		}
	}
}

// P4.1: matrices that step down in more than one way: rows go up over others, columns are passed over.
func TestDownByHand(t *testing.T) {
	for _, c := range []struct {
		m, down [][]uint8
		rank    int
	}{
		{[][]uint8{{0, 0}, {0, 0}}, [][]uint8{{0, 0}, {0, 0}}, 0},
		{[][]uint8{{0, 0, 5}}, [][]uint8{{0, 0, 1}}, 1},
		{[][]uint8{{0}, {0}, {3}}, [][]uint8{{1}, {0}, {0}}, 1},
		{[][]uint8{{7, 7, 7}, {7, 7, 7}}, [][]uint8{{1, 1, 1}, {0, 0, 0}}, 1},
		{[][]uint8{{0, 1}, {1, 0}}, [][]uint8{{1, 0}, {0, 1}}, 2},
		{[][]uint8{{0, 0, 1}, {0, 1, 0}, {1, 0, 0}}, one(3), 3},
		{[][]uint8{{0, 1, 9}, {0, 0, 0}, {1, 0, 8}}, [][]uint8{{1, 0, 8}, {0, 1, 9}, {0, 0, 0}}, 2},
		{[][]uint8{{1, 2}, {2, 4}, {0, 0}}, [][]uint8{{1, 2}, {0, 0}, {0, 0}}, 1},
		{[][]uint8{{0, 1, 0, 4}, {0, 0, 1, 5}, {0, 1, 1, 1}}, [][]uint8{{0, 1, 0, 4}, {0, 0, 1, 5}, {0, 0, 0, 0}}, 2},
		{[][]uint8{{1, 6, 0, 2}, {0, 0, 1, 3}, {1, 6, 1, 0}}, [][]uint8{{1, 6, 0, 0}, {0, 0, 1, 0}, {0, 0, 0, 1}}, 3},
	} {
		down, e := Down(c.m)
		if e != api.OK || !alike(down, c.down) {
			t.Errorf("%v stepped down: %v, %d, not %v", c.m, down, e, c.down)
		}
		if rank, e := Rank(c.m); e != api.OK || rank != c.rank {
			t.Errorf("the rank of %v: %d, %d, not %d", c.m, rank, e, c.rank)
		}
	}
}

// P4.1: of all sizes, and of each rank, a matrix that was made of what it steps down to.
func TestDown(t *testing.T) {
	p, n := products(), numbers(1)
	sizes := []int{1, 2, 3, 4, 5, 7, 12, 13, 20}
	for _, rows := range sizes {
		for _, columns := range sizes {
			for rank := range min(rows, columns) + 1 {
				want := n.stepped(rows, columns, rank)
				m := p.crossed(n.whole(p, rows), want)
				down, e := Down(m)
				if e != api.OK || !alike(down, want) {
					t.Fatalf("%v stepped down: %v, %d, not %v", m, down, e, want)
				}
				if again, e := Down(down); e != api.OK || !alike(again, want) {
					t.Fatalf("%v stepped down once more: %v, %d", want, again, e)
				}
				if got, e := Rank(m); e != api.OK || got != rank {
					t.Fatalf("the rank of %v: %d, %d, not %d", m, got, e, rank)
				}
			}
		}
	}
}

// P4.1: the largest there may be, and long and narrow ones.
func TestDownLarge(t *testing.T) {
	p, n := products(), numbers(2)
	for _, c := range [][3]int{{255, 255, 255}, {255, 255, 254}, {255, 255, 0}, {255, 1, 1}, {1, 255, 1}, {255, 1, 0}, {1, 255, 0}, {255, 30, 30}, {30, 255, 30}, {255, 100, 17}, {200, 255, 40}} {
		want := n.stepped(c[0], c[1], c[2])
		m := p.crossed(n.whole(p, c[0]), want)
		if down, e := Down(m); e != api.OK || !alike(down, want) {
			t.Errorf("%v stepped down: %d, not as it should", c, e)
		}
		if rank, e := Rank(m); e != api.OK || rank != c[2] {
			t.Errorf("the rank of %v: %d, %d", c, rank, e)
		}
	}
}

// P4.1: the rank, told by minors, of matrices of any numbers, and of few ones.
func TestRankByMinors(t *testing.T) {
	n := numbers(3)
	for range 1500 {
		m := n.matrix(1+n.next()%4, 1+n.next()%5)
		if n.next()%2 == 0 {
			for i := range m {
				for j := range m[i] {
					m[i][j] %= 2
				}
			}
		}
		if rank, e := Rank(m); e != api.OK || rank != rankByMinors(m) {
			t.Fatalf("the rank of %v: %d, %d, not %d", m, rank, e, rankByMinors(m))
		}
	}
}

// P4.2: just those whose determinant is not 0 can be turned about, and these have all their rows as rank.
func TestTurnSmall(t *testing.T) {
	p := products()
	few := []uint8{0, 1, 2, 3, 142, 255}
	for i := range 6 * 6 * 6 * 6 {
		mayTurn(t, p, [][]uint8{{few[i%6], few[i/6%6]}, {few[i/36%6], few[i/216]}})
	}
	for bits := range 1 << 9 {
		m := filled(3, 3, 0)
		for k := range 9 {
			m[k/3][k%3] = uint8(bits >> k & 1)
		}
		mayTurn(t, p, m)
	}
	n := numbers(4)
	for range 1000 {
		mayTurn(t, p, n.matrix(4, 4))
	}
}

func mayTurn(t *testing.T, p *table, m [][]uint8) {
	t.Helper()
	about, e := Turn(m)
	rank, er := Rank(m)
	v := make([]uint8, len(m))
	_, ev := Solve(m, v)
	if er != api.OK {
		t.Fatalf("the rank of %v: %d", m, er)
	}
	if determinant(m) == 0 {
		if e != api.ErrNone || len(about) != 0 || rank == len(m) || ev != api.ErrNone {
			t.Errorf("%v turned about: %v, %d; of rank %d; solved: %d", m, about, e, rank, ev)
		}
		return
	}
	if e != api.OK || rank != len(m) || ev != api.OK {
		t.Fatalf("%v turned about: %d; of rank %d; solved: %d", m, e, rank, ev)
	}
	if !alike(p.crossed(m, about), one(len(m))) || !alike(p.crossed(about, m), one(len(m))) {
		t.Errorf("%v turned about: %v", m, about)
	}
}

// P4.2: in either row, and twice; the largest ones, too.
func TestTurn(t *testing.T) {
	p, n := products(), numbers(5)
	sizes := []int{100, 254, 255}
	for size := 1; size <= 30; size++ {
		sizes = append(sizes, size)
	}
	for _, size := range sizes {
		m := n.whole(p, size)
		about := turn(t, m)
		if !alike(p.crossed(m, about), one(size)) {
			t.Fatalf("%d rows by them turned about are not One", size)
		}
		if !alike(p.crossed(about, m), one(size)) {
			t.Fatalf("%d rows turned about by them are not One", size)
		}
		if !alike(turn(t, about), m) {
			t.Fatalf("%d rows turned about twice are others", size)
		}
		if rank, e := Rank(m); e != api.OK || rank != size {
			t.Fatalf("the rank of %d rows: %d, %d", size, rank, e)
		}
	}
}

// P4.2: of each rank below its rows a matrix has no other one.
func TestNotTurned(t *testing.T) {
	p, n := products(), numbers(6)
	for _, size := range []int{1, 2, 3, 6, 12, 13, 40} {
		for rank := range size {
			m := p.crossed(n.whole(p, size), n.stepped(size, size, rank))
			if about, e := Turn(m); e != api.ErrNone || len(about) != 0 {
				t.Fatalf("%d rows of rank %d turned about: %v, %d", size, rank, about, e)
			}
			for _, v := range [][]uint8{make([]uint8, size), n.list(size)} {
				if got, e := Solve(m, v); e != api.ErrNone || len(got) != 0 {
					t.Fatalf("%d rows of rank %d solved: %v, %d", size, rank, got, e)
				}
			}
			if got, e := Rank(m); e != api.OK || got != rank {
				t.Fatalf("%d rows of rank %d: %d, %d", size, rank, got, e)
			}
		}
	}
	m := p.crossed(n.whole(p, 255), n.stepped(255, 255, 254))
	if about, e := Turn(m); e != api.ErrNone || len(about) != 0 {
		t.Error("255 rows of rank 254 turned about:", e)
	}
	if v, e := Solve(m, make([]uint8, 255)); e != api.ErrNone || len(v) != 0 {
		t.Error("255 rows of rank 254 solved:", e)
	}
}

// P4.3: the product of the matrix and what is told is v, and what v was made of is told.
func TestSolve(t *testing.T) {
	p, n := products(), numbers(7)
	sizes := []int{100, 254, 255}
	for size := 1; size <= 30; size++ {
		sizes = append(sizes, size, size)
	}
	for _, size := range sizes {
		m := n.whole(p, size)
		for _, v := range [][]uint8{n.list(size), make([]uint8, size), slices.Repeat([]uint8{255}, size)} {
			got, e := Solve(m, v)
			if e != api.OK || len(got) != size || !alike(p.crossed(m, column(got)), column(v)) {
				t.Fatalf("%d rows solved: %v, %d", size, got, e)
			}
			if about := turn(t, m); !alike(p.crossed(about, column(v)), column(got)) {
				t.Fatalf("%d rows: not what the matrix turned about makes of it: %v", size, got)
			}
		}
		x := n.list(size)
		v := slices.Concat(p.crossed(m, column(x))...)
		if got, e := Solve(m, v); e != api.OK || !slices.Equal(got, x) {
			t.Fatalf("%d rows solved: %v, %d, not %v", size, got, e, x)
		}
	}
}

// P4.3: of each list just one: of two rows all lists are gone through.
func TestSolveEach(t *testing.T) {
	m := [][]uint8{{0, 3}, {200, 9}}
	met := map[[2]uint8]bool{}
	for i := range 1 << 16 {
		v := []uint8{uint8(i), uint8(i >> 8)}
		got, e := Solve(m, v)
		if e != api.OK || len(got) != 2 {
			t.Fatal(v, got, e)
		}
		if product(3, got[1]) != v[0] || product(200, got[0])^product(9, got[1]) != v[1] {
			t.Fatalf("%v: %v", v, got)
		}
		met[[2]uint8(got)] = true
	}
	if len(met) != 1<<16 {
		t.Error("two lists have one answer:", len(met))
	}
}

// P4.1: what may not be is refused by each call, whatever else is wrong.
func TestRefused(t *testing.T) {
	for name, m := range wrong() {
		if about, e := Turn(m); e != api.ErrForm || len(about) != 0 {
			t.Errorf("%s turned about: %v, %d", name, about, e)
		}
		if rank, e := Rank(m); e != api.ErrForm || rank != 0 {
			t.Errorf("the rank of %s: %d, %d", name, rank, e)
		}
		if down, e := Down(m); e != api.ErrForm || len(down) != 0 {
			t.Errorf("%s stepped down: %v, %d", name, down, e)
		}
		for _, length := range []int{0, 1, 2, 3, len(m), len(m) + 1, 255, 256} {
			if v, e := Solve(m, make([]uint8, length)); e != api.ErrForm || len(v) != 0 {
				t.Errorf("%s and %d numbers solved: %v, %d", name, length, v, e)
			}
		}
	}
}

// P4.1: what is not square is refused by Turn and Solve alone, also if its rank is less than its rows.
func TestNotSquare(t *testing.T) {
	n := numbers(8)
	sizes := []int{1, 2, 3, 11, 12, 13, 254, 255}
	for _, rows := range sizes {
		for _, columns := range sizes {
			if rows == columns {
				continue
			}
			for _, m := range [][][]uint8{n.matrix(rows, columns), filled(rows, columns, 0), filled(rows, columns, 1)} {
				if about, e := Turn(m); e != api.ErrForm || len(about) != 0 {
					t.Errorf("%d rows of %d turned about: %v, %d", rows, columns, about, e)
				}
				for _, length := range []int{rows, columns} {
					if v, e := Solve(m, make([]uint8, length)); e != api.ErrForm || len(v) != 0 {
						t.Errorf("%d rows of %d solved: %v, %d", rows, columns, v, e)
					}
				}
				_, er := Rank(m)
				down, ed := Down(m)
				if er != api.OK || ed != api.OK || len(down) != rows || len(down[0]) != columns {
					t.Errorf("%d rows of %d: rank %d, stepped down %d", rows, columns, er, ed)
				}
			}
		}
	}
}

// P4.1: a list that is not as long as the rows is refused ahead of a matrix that can't be turned about.
func TestSolveLength(t *testing.T) {
	for _, size := range []int{1, 2, 3, 12, 13, 255} {
		for _, length := range []int{0, 1, 2, 3, 4, 11, 12, 13, 14, 254, 255, 256, 1000} {
			want, wantNone := api.ErrForm, api.ErrForm
			if length == size {
				want, wantNone = api.OK, api.ErrNone
			}
			v := make([]uint8, length)
			if got, e := Solve(one(size), v); e != want || e != api.OK && len(got) != 0 {
				t.Errorf("%d rows and %d numbers: %v, %d", size, length, got, e)
			}
			if got, e := Solve(filled(size, size, 0), v); e != wantNone || len(got) != 0 {
				t.Errorf("%d rows of 0 and %d numbers: %v, %d", size, length, got, e)
			}
		}
	}
	if got, e := Solve([][]uint8{{1}}, nil); e != api.ErrForm || len(got) != 0 {
		t.Errorf("no numbers: %v, %d", got, e)
	}
}

// R3: what is handed in stays as it is, also behind its ends, and when the answer is written over.
func TestNewMemory(t *testing.T) {
	p, n := products(), numbers(9)
	for size := 1; size <= 12; size++ {
		for _, plain := range [][][]uint8{n.whole(p, size), one(size), n.stepped(size, size, size/2), n.matrix(size, 3)} {
			m, v := roomy(plain), roomy([][]uint8{n.list(size)})
			wasV := held(v)

			about, _ := Turn(m)
			first := held(about)
			apart(t, "Turn", about)
			down, _ := Down(m)
			stepped := held(down)
			apart(t, "Down", down)
			x, _ := Solve(m, v[0])
			told := slices.Clone(x)
			scribble(x)
			Rank(m)

			untouched(t, "m", m, plain)
			untouched(t, "v", v, wasV)
			about, _ = Turn(m)
			down, _ = Down(m)
			x, _ = Solve(m, v[0])
			if !alike(about, first) || !alike(down, stepped) || !slices.Equal(x, told) {
				t.Error("another answer the second time:", about, down, x)
			}
			for i := range m {
				scribble(m[i])
			}
			scribble(v[0])
			if !alike(about, first) || !alike(down, stepped) || !slices.Equal(x, told) {
				t.Error("what was handed in was kept:", about, down, x)
			}
		}
	}
}

// R3: rows that are one and the same memory, or cut out of one list, are rows like any.
func TestSharedRows(t *testing.T) {
	row := []uint8{5, 6, 7}
	m := [][]uint8{row, row, row}
	if down, e := Down(m); e != api.OK || !alike(down[1:], filled(2, 3, 0)) {
		t.Error("stepped down:", down, e)
	}
	if rank, e := Rank(m); e != api.OK || rank != 1 {
		t.Error("rank:", rank, e)
	}
	if about, e := Turn(m); e != api.ErrNone || len(about) != 0 {
		t.Error("turned about:", about, e)
	}
	if v, e := Solve(m, row); e != api.ErrNone || len(v) != 0 {
		t.Error("solved:", v, e)
	}
	if !slices.Equal(row, []uint8{5, 6, 7}) {
		t.Error("the row has changed:", row)
	}

	all := []uint8{1, 1, 0, 1}
	m = [][]uint8{all[0:2], all[2:4]}
	if about, e := Turn(m); e != api.OK || !alike(about, [][]uint8{{1, 1}, {0, 1}}) {
		t.Error("turned about:", about, e)
	}
	if v, e := Solve(m, all[1:3]); e != api.OK || !slices.Equal(v, []uint8{1, 0}) {
		t.Error("solved:", v, e)
	}
	if !slices.Equal(all, []uint8{1, 1, 0, 1}) {
		t.Error("the list has changed:", all)
	}
}
