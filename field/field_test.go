package field

import (
	"math"
	"math/big"
	"sync"
	"testing"
)

// product is told bit by bit, as the chapter's words say it, without powers and logarithms.
func product(a, b int) int {
	sum := 0
	for i := range 8 {
		if b>>i&1 == 1 {
			sum ^= a << i
		}
	}
	for i := 15; i >= 8; i-- {
		if sum>>i&1 == 1 {
			sum ^= 0x11D << (i - 8)
		}
	}
	return sum
}

// power goes step by step: by 2 upwards, and by the inverse of 2 (142) downwards.
func power(n int) int {
	step := 2
	if n < 0 {
		step, n = 142, -n
	}
	p := 1
	for range n {
		p = product(p, step)
	}
	return p
}

// rest is n less 255 as often as may be, told by numbers that can't run over.
func rest(n int) int {
	return int(new(big.Int).Mod(big.NewInt(int64(n)), big.NewInt(255)).Int64())
}

// fields are a field and a nil one: they answer the same.
func fields() []*Field { return []*Field{New(), nil} }

// P2.1: the chapter's examples.
func TestExamples(t *testing.T) {
	for _, f := range fields() {
		if s := f.Add(5, 3); s != 6 {
			t.Errorf("Add(5, 3): %d", s)
		}
		if p := f.Mul(2, 128); p != 29 {
			t.Errorf("Mul(2, 128): %d", p)
		}
		if p := f.Exp(8); p != 29 {
			t.Errorf("Exp(8): %d", p)
		}
		if v, is := f.Inv(2); v != 142 || !is {
			t.Errorf("Inv(2): %d, %v", v, is)
		}
		if n, is := f.Log(29); n != 8 || !is {
			t.Errorf("Log(29): %d, %v", n, is)
		}
		if v, is := f.Inv(0); v != 0 || is {
			t.Errorf("Inv(0): %d, %v", v, is)
		}
	}
}

// P2.1: New is a field, not nil, and each call makes one of its own.
func TestNew(t *testing.T) {
	a, b := New(), New()
	if a == nil || b == nil || a == b {
		t.Fatal("New tells nil, or one field twice")
	}
	if *a != *b {
		t.Error("two fields are not the same")
	}
}

// P2.1: sums and products of all pairs, of a field and of nil.
func TestPairs(t *testing.T) {
	for _, f := range fields() {
		for a := range 256 {
			for b := range 256 {
				if s := f.Add(uint8(a), uint8(b)); int(s) != a^b {
					t.Fatalf("Add(%d, %d): %d", a, b, s)
				}
				if p := f.Mul(uint8(a), uint8(b)); int(p) != product(a, b) {
					t.Fatalf("Mul(%d, %d): %d, not %d", a, b, p, product(a, b))
				}
			}
		}
	}
}

// P2.1: inverses and logarithms of all numbers; of 0 there are none.
func TestInvLog(t *testing.T) {
	for _, f := range fields() {
		if v, is := f.Inv(0); v != 0 || is {
			t.Errorf("Inv(0): %d, %v", v, is)
		}
		if n, is := f.Log(0); n != 0 || is {
			t.Errorf("Log(0): %d, %v", n, is)
		}
		for a := 1; a < 256; a++ {
			if v, is := f.Inv(uint8(a)); !is || product(a, int(v)) != 1 {
				t.Errorf("Inv(%d): %d, %v", a, v, is)
			}
			if n, is := f.Log(uint8(a)); !is || n < 0 || n > 254 || power(n) != a {
				t.Errorf("Log(%d): %d, %v", a, n, is)
			}
		}
		if v, is := f.Inv(1); v != 1 || !is {
			t.Errorf("Inv(1): %d, %v", v, is)
		}
		if n, is := f.Log(1); n != 0 || !is {
			t.Errorf("Log(1): %d, %v", n, is)
		}
	}
}

// P2.1: powers around 0 and over several turns, both ways.
func TestExpSmall(t *testing.T) {
	for _, f := range fields() {
		for n := -1100; n <= 1100; n++ {
			if p := f.Exp(n); int(p) != power(n) {
				t.Errorf("Exp(%d): %d, not %d", n, p, power(n))
			}
		}
		for _, n := range []int{-510, -255, 0, 255, 510} {
			if p := f.Exp(n); p != 1 {
				t.Errorf("Exp(%d): %d", n, p)
			}
		}
	}
}

// P2.1: powers at the ends of int, and of the smaller kinds of whole numbers.
func TestExpGreat(t *testing.T) {
	var ns []int
	for i := range 600 {
		ns = append(ns, math.MinInt+i, math.MaxInt-i, math.MinInt32+i, math.MaxInt32-i, 1<<40+i, -1<<40-i)
	}
	for _, f := range fields() {
		for _, n := range ns {
			p := f.Exp(n)
			if int(p) != power(rest(n)) {
				t.Errorf("Exp(%d): %d, not %d", n, p, power(rest(n)))
			}
			// The least int has no number of the other sign: it comes back as itself.
			if n != math.MinInt && f.Mul(p, f.Exp(-n)) != 1 {
				t.Errorf("Exp(%d) times Exp(%d) is not 1", n, -n)
			}
		}
	}
}

// P2.2: pairs in any row; 0 and 1 do what they should; all but 0 have one inverse.
func TestFieldOfPairs(t *testing.T) {
	f := New()
	for i := range 256 {
		a := uint8(i)
		if f.Add(a, 0) != a || f.Add(a, a) != 0 || f.Mul(a, 1) != a || f.Mul(a, 0) != 0 {
			t.Errorf("0 and 1 beside %d", a)
		}
		ones := 0
		for j := range 256 {
			b := uint8(j)
			if f.Add(a, b) != f.Add(b, a) || f.Mul(a, b) != f.Mul(b, a) {
				t.Errorf("%d and %d in the other row", a, b)
			}
			if f.Mul(a, b) == 0 && a != 0 && b != 0 {
				t.Errorf("%d times %d is 0", a, b)
			}
			if f.Mul(a, b) == 1 {
				ones++
				if v, is := f.Inv(a); v != b || !is {
					t.Errorf("Inv(%d): %d, %v, not %d", a, v, is, b)
				}
			}
		}
		if want := min(i, 1); ones != want {
			t.Errorf("%d has %d inverses", a, ones)
		}
	}
}

// P2.2: all threes: any brackets, and products over sums.
func TestFieldOfThrees(t *testing.T) {
	f := New()
	for i := range 256 {
		for j := range 256 {
			a, b := uint8(i), uint8(j)
			sum, prod := f.Add(a, b), f.Mul(a, b)
			for k := range 256 {
				c := uint8(k)
				if f.Add(sum, c) != f.Add(a, f.Add(b, c)) {
					t.Fatalf("brackets of the sum of %d, %d and %d", a, b, c)
				}
				if f.Mul(prod, c) != f.Mul(a, f.Mul(b, c)) {
					t.Fatalf("brackets of the product of %d, %d and %d", a, b, c)
				}
				if f.Mul(sum, c) != f.Add(f.Mul(a, c), f.Mul(b, c)) {
					t.Fatalf("the sum of %d and %d times %d", a, b, c)
				}
			}
		}
	}
}

// P2.3: Exp of a sum is the product of the Exps, below 0 too.
func TestExpOfSums(t *testing.T) {
	f := New()
	for a := -300; a <= 300; a++ {
		for b := -300; b <= 300; b++ {
			if f.Exp(a+b) != f.Mul(f.Exp(a), f.Exp(b)) {
				t.Fatalf("Exp(%d + %d)", a, b)
			}
		}
	}
	for _, a := range []int{math.MinInt, math.MinInt + 1, math.MaxInt, math.MaxInt - 254} {
		for b := range 255 {
			if a > 0 {
				b = -b
			}
			if f.Exp(a+b) != f.Mul(f.Exp(a), f.Exp(b)) {
				t.Errorf("Exp(%d + %d)", a, b)
			}
		}
	}
}

// P2.3: Log of a product is the sum of the Logs, less 255 where it is that or more; Exp and Log undo each other.
func TestLogOfProducts(t *testing.T) {
	f := New()
	for i := 1; i < 256; i++ {
		a := uint8(i)
		n, _ := f.Log(a)
		if f.Exp(n) != a {
			t.Errorf("Exp(Log(%d)): %d", a, f.Exp(n))
		}
		for j := 1; j < 256; j++ {
			b := uint8(j)
			m, _ := f.Log(b)
			want := n + m
			if want >= 255 {
				want -= 255
			}
			if l, is := f.Log(f.Mul(a, b)); l != want || !is {
				t.Fatalf("Log of %d times %d: %d, %v, not %d", a, b, l, is, want)
			}
		}
	}
	for n := range 255 {
		if l, is := f.Log(f.Exp(n)); l != n || !is {
			t.Errorf("Log(Exp(%d)): %d, %v", n, l, is)
		}
	}
}

// R1: a field that New did not make tells nothing of worth, but it does not panic.
func TestZeroField(t *testing.T) {
	f := &Field{}
	for i := range 256 {
		a := uint8(i)
		f.Add(a, a)
		f.Mul(a, a)
		f.Inv(a)
		f.Log(a)
		f.Exp(i - 128)
	}
}

// R2: no call changes the field, also where several ask it at once.
func TestUnchanged(t *testing.T) {
	f := New()
	before := *f
	var all sync.WaitGroup
	for w := range 4 {
		all.Add(1)
		go func() {
			defer all.Done()
			for i := range 256 {
				a := uint8(i)
				f.Mul(a, uint8(w))
				f.Inv(a)
				f.Log(a)
				f.Exp(-i * w)
			}
		}()
	}
	all.Wait()
	if *f != before {
		t.Error("a call changed the field")
	}
}
