package matrix

import (
	"math"
	"slices"
	"testing"

	"strongbox/api"
)

const most = api.MaxStores

// product is told bit by bit, without the field that the package leans on.
func product(a, b uint8) uint8 {
	sum := 0
	for i := range 8 {
		if b>>i&1 == 1 {
			sum ^= int(a) << i
		}
	}
	for i := 15; i >= 8; i-- {
		if sum>>i&1 == 1 {
			sum ^= 0x11D << (i - 8)
		}
	}
	return uint8(sum)
}

// inverse is found by trying.
func inverse(t *testing.T, a uint8) uint8 {
	t.Helper()
	for b := range 256 {
		if product(a, uint8(b)) == 1 {
			return uint8(b)
		}
	}
	t.Fatalf("no inverse of %d", a)
	return 0
}

// numbers are the same ones in each run, and look like any.
type numbers uint32

func (n *numbers) next() int {
	*n = *n*1664525 + 1013904223
	return int(*n >> 8)
}

func (n *numbers) list(length int) []uint8 {
	v := make([]uint8, length)
	for i := range v {
		v[i] = uint8(n.next())
		if n.next()%5 == 0 {
			v[i] = 0
		}
	}
	return v
}

func (n *numbers) matrix(rows, columns int) [][]uint8 {
	m := make([][]uint8, rows)
	for i := range m {
		m[i] = n.list(columns)
	}
	return m
}

func (n *numbers) size() int { return 1 + n.next()%most }

// filled has so many rows of so many numbers; there may be none of them.
func filled(rows, columns int) [][]uint8 {
	m := make([][]uint8, rows)
	for i := range m {
		m[i] = slices.Repeat([]uint8{7}, columns)
	}
	return m
}

// wrong are lists of rows that may not be a matrix.
func wrong() map[string][][]uint8 {
	ragged := filled(most, 3)
	ragged[most-1] = ragged[most-1][:2]
	longer := filled(most, 3)
	longer[most-1] = append(longer[most-1], 7)
	return map[string][][]uint8{
		"nil":                 nil,
		"no rows":             {},
		"one row too many":    filled(most+1, 1),
		"many rows":           filled(1000, 2),
		"a number too many":   filled(1, most+1),
		"all too many":        filled(most+1, most+1),
		"a row of none":       {{}},
		"a nil row":           {nil},
		"rows of none":        filled(3, 0),
		"first row of none":   {{}, {1}},
		"second row of none":  {{1}, {}},
		"second row is nil":   {{1, 2}, nil},
		"second row longer":   {{1}, {1, 2}},
		"second row shorter":  {{1, 2}, {1}},
		"last row shorter":    ragged,
		"last row longer":     longer,
		"only first too long": {make([]uint8, most+1), {1}},
	}
}

func held(m [][]uint8) [][]uint8 {
	c := make([][]uint8, len(m))
	for i := range m {
		c[i] = slices.Clone(m[i])
	}
	return c
}

// alike is held against what the package's own Same says.
func alike(a, b [][]uint8) bool {
	if len(a) != len(b) {
		return false
	}
	for i := range a {
		if string(a[i]) != string(b[i]) {
			return false
		}
	}
	return true
}

// scribble writes all over a list, with the room behind its end.
func scribble(v []uint8) {
	v = v[:cap(v)]
	for i := range v {
		v[i] ^= 0xA5
	}
}

// roomy has a row with room behind its end, in which a mark stands.
func roomy(m [][]uint8) [][]uint8 {
	all := make([][]uint8, len(m), len(m)+2)
	for i, row := range m {
		all[i] = append(append(make([]uint8, 0, len(row)+3), row...), 99, 98, 97)[:len(row)]
	}
	copy(all[len(m):cap(all)], [][]uint8{{55}, {56}})
	return all
}

func untouched(t *testing.T, name string, m, was [][]uint8) {
	t.Helper()
	if !alike(m, was) {
		t.Errorf("%s: what was handed in is now %v, was %v", name, m, was)
	}
	for i, row := range m {
		if rest := row[len(row):cap(row)]; len(rest) >= 3 && !slices.Equal(rest[:3], []uint8{99, 98, 97}) {
			t.Errorf("%s: behind row %d stands %v", name, i, rest)
		}
	}
	if rest := m[len(m):cap(m)]; len(rest) >= 2 && (!slices.Equal(rest[0], []uint8{55}) || !slices.Equal(rest[1], []uint8{56})) {
		t.Errorf("%s: behind the rows stands %v", name, rest)
	}
}

// apart writes into each row of an answer in turn, and looks whether another one has changed.
func apart(t *testing.T, name string, m [][]uint8) {
	t.Helper()
	for i := range m {
		was := held(m)
		scribble(m[i])
		for j := range m {
			if j != i && !slices.Equal(m[j], was[j]) {
				t.Errorf("%s: rows %d and %d share memory", name, i, j)
			}
		}
	}
}

// The chapter's examples.
func TestExamples(t *testing.T) {
	if m, e := One(2); e != api.OK || !alike(m, [][]uint8{{1, 0}, {0, 1}}) {
		t.Error("One(2):", m, e)
	}
	m, e := Of(api.Code{K: 2, N: 4})
	if e != api.OK || !alike(m, [][]uint8{{1, 0}, {0, 1}, {142, 244}, {244, 142}}) {
		t.Error("Of:", m, e)
	}
	v, e := Vec(m, []uint8{5, 7})
	want := []uint8{5, 7, product(142, 5) ^ product(244, 7), product(244, 5) ^ product(142, 7)}
	if e != api.OK || !slices.Equal(v, want) {
		t.Error("Vec:", v, e, "want", want)
	}
	if r, e := Rows(m, []int{1, 1}); e != api.OK || !alike(r, [][]uint8{{0, 1}, {0, 1}}) {
		t.Error("Rows:", r, e)
	}
	if p, e := Mul([][]uint8{{1, 2}, {3, 4}}, [][]uint8{{1, 2, 3}}); e != api.ErrForm || len(p) != 0 {
		t.Error("Mul:", p, e)
	}
}

// P3.1: 1 to MaxStores rows, all of the same 1 to MaxStores numbers.
func TestMay(t *testing.T) {
	for rows := range most + 3 {
		for columns := range most + 3 {
			want := 1 <= rows && rows <= most && 1 <= columns && columns <= most
			if May(filled(rows, columns)) != want {
				t.Errorf("%d rows of %d: not %v", rows, columns, want)
			}
		}
	}
	for name, m := range wrong() {
		if May(m) {
			t.Errorf("%s: may be", name)
		}
	}
	for bad := range most {
		for _, length := range []int{0, 3, 5, most, most + 1} {
			m := filled(most, 4)
			m[bad] = make([]uint8, length)
			if May(m) {
				t.Errorf("row %d of %d numbers among such of 4: may be", bad, length)
			}
		}
	}
}

// P3.1: 1 <= K <= N <= MaxStores.
func TestMayCode(t *testing.T) {
	for k := -2; k <= most+2; k++ {
		for n := -2; n <= most+2; n++ {
			want := 1 <= k && k <= n && n <= most
			if MayCode(api.Code{K: k, N: n}) != want {
				t.Errorf("%d of %d: not %v", k, n, want)
			}
		}
	}
	for _, c := range wrongCodes() {
		if MayCode(c) {
			t.Errorf("%d of %d: may be", c.K, c.N)
		}
	}
}

func wrongCodes() []api.Code {
	codes := []api.Code{{}, {K: 0, N: 1}, {K: -1, N: 3}, {K: 3, N: 2}, {K: 1, N: most + 1}, {K: most + 1, N: most + 1}, {K: most, N: most + 1}, {K: 1, N: -1}, {K: -2, N: -1}, {K: most + 1, N: most}}
	for _, far := range []int{math.MinInt, math.MaxInt, 256, 257, 258, 1<<32 + 3} {
		codes = append(codes, api.Code{K: far, N: 4}, api.Code{K: 2, N: far}, api.Code{K: far, N: far})
	}
	return codes
}

// P3.1: the same rows, of any lists.
func TestSame(t *testing.T) {
	same := [][2][][]uint8{
		{nil, nil},
		{nil, {}},
		{{{}}, {nil}},
		{{nil, {1}, {}}, {{}, {1}, nil}},
		{{{1, 2}, {3}}, {{1, 2}, {3}}},
		{filled(40, 50), filled(40, 50)},
	}
	for _, p := range same {
		if !Same(p[0], p[1]) || !Same(p[1], p[0]) {
			t.Errorf("%v and %v are the same", p[0], p[1])
		}
	}
	unlike := [][2][][]uint8{
		{nil, {nil}},
		{{}, {{}}},
		{{{}}, {{}, {}}},
		{{{0}}, {{}}},
		{{{0}}, {{0, 0}}},
		{{{1, 2}}, {{1}, {2}}},
		{{{1}, {2}}, {{2}, {1}}},
		{{{1, 2}}, {{2, 1}}},
		{{{1, 2}, {3, 4}}, {{1, 2}, {3, 5}}},
		{{{1, 2}, {3, 4}}, {{1, 2}}},
		{{{1, 2}, {3, 4}}, {{1, 2}, {3, 4}, {0, 0}}},
		{{{1, 2}, {3, 4}}, {{1, 2}, {3}}},
	}
	for _, p := range unlike {
		if Same(p[0], p[1]) || Same(p[1], p[0]) {
			t.Errorf("%v and %v are not the same", p[0], p[1])
		}
	}
}

// P3.1: what stands behind the ends of lists is not asked.
func TestSameBehindEnds(t *testing.T) {
	a, b := [][]uint8{{1, 2, 3}, {4}}, [][]uint8{{1, 2, 9}, {5}}
	if Same(a, b) {
		t.Error("the same")
	}
	if !Same([][]uint8{a[0][:2]}, [][]uint8{b[0][:2]}) {
		t.Error("the beginnings are not the same")
	}
}

// P3.1
func TestOne(t *testing.T) {
	for n := 1; n <= most; n++ {
		m, e := One(n)
		if e != api.OK || len(m) != n {
			t.Fatalf("One(%d): %v, %d", n, m, e)
		}
		for i, row := range m {
			if len(row) != n {
				t.Fatalf("One(%d): row %d has %d", n, i, len(row))
			}
			for j, number := range row {
				if number != 0 && i != j || number != 1 && i == j {
					t.Errorf("One(%d): at %d, %d stands %d", n, i, j, number)
				}
			}
		}
		apart(t, "One", m)
		if again, _ := One(n); again[0][0] != 1 {
			t.Error("One: what was written into an answer is told again")
		}
	}
	for _, n := range []int{0, -1, most + 1, 256, 257, math.MinInt, math.MaxInt} {
		if m, e := One(n); e != api.ErrArg || len(m) != 0 {
			t.Errorf("One(%d): %v, %d", n, m, e)
		}
	}
}

// P3.1: all codes that may be.
func TestOf(t *testing.T) {
	for n := 1; n <= most; n++ {
		for k := 1; k <= n; k++ {
			m, e := Of(api.Code{K: k, N: n})
			if e != api.OK || len(m) != n {
				t.Fatalf("%d of %d: %v, %d", k, n, m, e)
			}
			for i, row := range m {
				if len(row) != k {
					t.Fatalf("%d of %d: row %d has %d", k, n, i, len(row))
				}
				for j, number := range row {
					if want := inCode(t, k, i, j); number != want {
						t.Errorf("%d of %d: at %d, %d stands %d, not %d", k, n, i, j, number, want)
					}
				}
			}
			apart(t, "Of", m)
		}
	}
	for _, c := range wrongCodes() {
		if m, e := Of(c); e != api.ErrArg || len(m) != 0 {
			t.Errorf("%d of %d: %v, %d", c.K, c.N, m, e)
		}
	}
}

func inCode(t *testing.T, k, i, j int) uint8 {
	t.Helper()
	if i >= k {
		return inverse(t, uint8(i^j))
	}
	if i == j {
		return 1
	}
	return 0
}

// P3.1: one answer is not another one's memory.
func TestOfAnew(t *testing.T) {
	c := api.Code{K: 3, N: 5}
	a, _ := Of(c)
	was := held(a)
	for _, row := range a {
		scribble(row)
	}
	if b, _ := Of(c); !alike(b, was) {
		t.Error("what was written into an answer is told again:", b)
	}
}

// P3.2: each number of a product, of matrices of all sizes.
func TestMul(t *testing.T) {
	n := numbers(1)
	for rows := 1; rows <= most; rows++ {
		for middle := 1; middle <= most; middle++ {
			for columns := 1; columns <= most; columns++ {
				a, b := n.matrix(rows, middle), n.matrix(middle, columns)
				p, e := Mul(a, b)
				if e != api.OK || !alike(p, crossed(a, b)) {
					t.Fatalf("%v by %v: %v, %d", a, b, p, e)
				}
			}
		}
	}
}

// crossed goes straight by the chapter's words.
func crossed(a, b [][]uint8) [][]uint8 {
	p := filled(len(a), len(b[0]))
	for i := range p {
		for j := range p[i] {
			p[i][j] = 0
			for k := range b {
				p[i][j] ^= product(a[i][k], b[k][j])
			}
		}
	}
	return p
}

// P3.2: what may not be multiplied.
func TestMulRefused(t *testing.T) {
	for name, m := range wrong() {
		for n := 1; n <= most; n++ {
			if p, e := Mul(m, filled(n, 2)); e != api.ErrForm || len(p) != 0 {
				t.Errorf("%s by %d rows: %v, %d", name, n, p, e)
			}
			if p, e := Mul(filled(2, n), m); e != api.ErrForm || len(p) != 0 {
				t.Errorf("rows of %d by %s: %v, %d", n, name, p, e)
			}
		}
		if p, e := Mul(m, m); e != api.ErrForm || len(p) != 0 {
			t.Errorf("%s by itself: %v, %d", name, p, e)
		}
	}
	for a := 1; a <= most; a++ {
		for b := 1; b <= most; b++ {
			want := api.ErrForm
			if a == b {
				want = api.OK
			}
			if p, e := Mul(filled(b, a), filled(b, a)); e != want || e != api.OK && len(p) != 0 {
				t.Errorf("rows of %d by %d rows: %v, %d", a, b, p, e)
			}
		}
	}
}

// P3.2: of each row the sum of its products with v.
func TestVec(t *testing.T) {
	n := numbers(2)
	for rows := 1; rows <= most; rows++ {
		for columns := 1; columns <= most; columns++ {
			m, v := n.matrix(rows, columns), n.list(columns)
			want := make([]uint8, rows)
			for i := range m {
				for j := range v {
					want[i] ^= product(m[i][j], v[j])
				}
			}
			if got, e := Vec(m, v); e != api.OK || !slices.Equal(got, want) {
				t.Fatalf("%v and %v: %v, %d", m, v, got, e)
			}
			for length := range most + 3 {
				if got, e := Vec(m, make([]uint8, length)); length != columns && (e != api.ErrForm || len(got) != 0) {
					t.Errorf("rows of %d and %d numbers: %v, %d", columns, length, got, e)
				}
			}
		}
	}
	for name, m := range wrong() {
		for length := range most + 3 {
			if got, e := Vec(m, make([]uint8, length)); e != api.ErrForm || len(got) != 0 {
				t.Errorf("%s and %d numbers: %v, %d", name, length, got, e)
			}
		}
	}
	if got, e := Vec([][]uint8{{1}}, nil); e != api.ErrForm || len(got) != 0 {
		t.Errorf("no numbers: %v, %d", got, e)
	}
}

// P3.2: rows as they are asked for.
func TestRows(t *testing.T) {
	n := numbers(3)
	for range 500 {
		m := n.matrix(n.size(), n.size())
		which := make([]int, n.size())
		for i := range which {
			which[i] = n.next() % len(m)
		}
		got, e := Rows(m, which)
		if e != api.OK || len(got) != len(which) {
			t.Fatalf("%v of %v: %v, %d", which, m, got, e)
		}
		for to, from := range which {
			if !slices.Equal(got[to], m[from]) {
				t.Errorf("%v of %v: %v", which, m, got)
			}
		}
	}
}

// P3.2: one row MaxStores times, of a matrix of one row; each is memory of its own.
func TestRowsOfOne(t *testing.T) {
	m := [][]uint8{{1, 2, 3}}
	got, e := Rows(m, make([]int, most))
	if e != api.OK || len(got) != most {
		t.Fatal(got, e)
	}
	for _, row := range got {
		if !slices.Equal(row, m[0]) {
			t.Error(got)
		}
	}
	apart(t, "Rows", got)
	if !slices.Equal(m[0], []uint8{1, 2, 3}) {
		t.Error("the matrix has changed:", m)
	}
}

// P3.2: what is refused, and that the matrix is looked at first.
func TestRowsRefused(t *testing.T) {
	bad := [][]int{nil, {}, {3}, {-1}, {0, 3}, {0, -1}, {-1, 0}, {0, 1, 2, 3}, {math.MinInt}, {math.MaxInt}, {256}, {1 << 32}, make([]int, most+1), make([]int, 1000)}
	last := make([]int, most)
	last[most-1] = 3
	bad = append(bad, last)
	for _, which := range bad {
		if got, e := Rows(filled(3, 2), which); e != api.ErrArg || len(got) != 0 {
			t.Errorf("%v: %v, %d", which, got, e)
		}
	}
	for name, m := range wrong() {
		for _, which := range append(bad, []int{0}, []int{0, 0}) {
			if got, e := Rows(m, which); e != api.ErrForm || len(got) != 0 {
				t.Errorf("%s, %v: %v, %d", name, which, got, e)
			}
		}
	}
	for rows := 1; rows <= most; rows++ {
		for i := -2; i < most+2; i++ {
			want := api.ErrArg
			if 0 <= i && i < rows {
				want = api.OK
			}
			if _, e := Rows(filled(rows, 1), []int{i}); e != want {
				t.Errorf("row %d of %d: %d", i, rows, e)
			}
		}
	}
}

// R3: what is handed in stays as it is, also behind its ends, and when the answer is written over.
func TestNewMemory(t *testing.T) {
	n := numbers(4)
	for range 200 {
		rows, middle, columns := n.size(), n.size(), n.size()
		a, b := roomy(n.matrix(rows, middle)), roomy(n.matrix(middle, columns))
		wasA, wasB := held(a), held(b)

		p, _ := Mul(a, b)
		apart(t, "Mul", p)
		some, _ := Rows(a, []int{rows - 1, 0, rows - 1})
		apart(t, "Rows", some)
		v := roomy([][]uint8{n.list(middle)})
		wasV := held(v)
		s, _ := Vec(a, v[0])
		scribble(s)
		May(a)
		Same(a, b)

		untouched(t, "a", a, wasA)
		untouched(t, "b", b, wasB)
		untouched(t, "v", v, wasV)
		if again, _ := Mul(a, b); !alike(again, crossed(wasA, wasB)) {
			t.Error("Mul: another answer the second time")
		}
	}
}

// R3: where an answer says the same as an argument it is new memory all the same.
func TestNotLent(t *testing.T) {
	a := [][]uint8{{1, 2}, {3, 4}}
	one, _ := One(2)
	left, _ := Mul(one, a)
	right, _ := Mul(a, one)
	all, _ := Rows(a, []int{0, 1})
	v := []uint8{8, 9}
	same, _ := Vec(one, v)
	for _, m := range [][][]uint8{left, right, all, {same}} {
		for _, row := range m {
			scribble(row)
		}
	}
	if !alike(a, [][]uint8{{1, 2}, {3, 4}}) || !alike(one, [][]uint8{{1, 0}, {0, 1}}) || !slices.Equal(v, []uint8{8, 9}) {
		t.Error("what was handed in has changed:", a, one, v)
	}

	which := []int{1, 0}
	got, _ := Rows(a, which)
	a[0][0], which[0] = 77, 0
	if !alike(got, [][]uint8{{3, 4}, {1, 2}}) {
		t.Error("what was handed in was kept:", got)
	}
}

// P3.3: in any order.
func TestInAnyOrder(t *testing.T) {
	n := numbers(5)
	mul := func(a, b [][]uint8) [][]uint8 {
		p, e := Mul(a, b)
		if e != api.OK {
			t.Fatalf("%v by %v: %d", a, b, e)
		}
		return p
	}
	vec := func(m [][]uint8, v []uint8) []uint8 {
		s, e := Vec(m, v)
		if e != api.OK {
			t.Fatalf("%v and %v: %d", m, v, e)
		}
		return s
	}
	for range 1000 {
		w, x, y, z := n.size(), n.size(), n.size(), n.size()
		a, b, c := n.matrix(w, x), n.matrix(x, y), n.matrix(y, z)
		if !Same(mul(mul(a, b), c), mul(a, mul(b, c))) {
			t.Fatalf("(a b) c is not a (b c): %v, %v, %v", a, b, c)
		}
		left, _ := One(w)
		right, _ := One(x)
		if !Same(mul(left, a), a) || !Same(mul(a, right), a) {
			t.Fatalf("a by One, or One by a, is not a: %v", a)
		}
		v := n.list(y)
		if !slices.Equal(vec(mul(a, b), v), vec(a, vec(b, v))) {
			t.Fatalf("Vec of a b is not Vec of a, of Vec of b: %v, %v, %v", a, b, v)
		}
	}
}

// P3.4: products crosswise are not the same, there is no 0, and no two rows are alike.
func TestApart(t *testing.T) {
	for n := 1; n <= most; n++ {
		for k := 1; k <= n; k++ {
			m, _ := Of(api.Code{K: k, N: n})
			if len(m) != n {
				t.Fatalf("%d of %d: %v", k, n, m)
			}
			for a := range m {
				if a >= k && slices.Contains(m[a], 0) {
					t.Errorf("%d of %d: a 0 in row %d", k, n, a)
				}
				for b := range a {
					if k >= 2 && slices.Equal(m[a], m[b]) {
						t.Errorf("%d of %d: rows %d and %d are the same", k, n, a, b)
					}
					if b >= k {
						crosswise(t, m[a], m[b])
					}
				}
			}
		}
	}
}

func crosswise(t *testing.T, a, b []uint8) {
	t.Helper()
	for i := range a {
		for j := range i {
			if product(a[i], b[j]) == product(a[j], b[i]) {
				t.Errorf("%v and %v: the same crosswise at %d and %d", a, b, i, j)
			}
		}
	}
}

// P3.5: rows of a product are the product of these rows.
func TestRowsOfProduct(t *testing.T) {
	n := numbers(6)
	for range 500 {
		rows, middle, columns := n.size(), n.size(), n.size()
		a, b := n.matrix(rows, middle), n.matrix(middle, columns)
		which := make([]int, n.size())
		for i := range which {
			which[i] = n.next() % rows
		}
		p, _ := Mul(a, b)
		some, e := Rows(p, which)
		if e != api.OK {
			t.Fatal(e)
		}
		part, _ := Rows(a, which)
		if want, e := Mul(part, b); e != api.OK || !Same(some, want) {
			t.Fatalf("%v of %v by %v: %v, not %v", which, a, b, some, want)
		}
	}
}
