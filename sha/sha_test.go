package sha

import (
	"crypto/sha256"
	"encoding/hex"
	"math/big"
	"strings"
	"testing"

	"strongbox/api"
)

// sample are n bytes of all kinds, the same ones each time; seed says which.
func sample(n, seed int) string {
	b := make([]byte, n)
	x := uint32(seed)*2654435761 + 1
	for i := range b {
		x = x*1664525 + 1013904223
		b[i] = byte(x >> 24)
	}
	return string(b)
}

func want(s string) string {
	d := sha256.Sum256([]byte(s))
	return string(d[:])
}

// P1.1: digests that the chapter tells, and some that everybody knows.
func TestSumKnown(t *testing.T) {
	for _, x := range []struct{ s, first, last string }{
		{"", "e3b0c44298fc1c14", "7852b855"},
		{"abc", "ba7816bf8f01cfea", "f20015ad"},
		{strings.Repeat("a", 1000), "41edece4", ""},
		{"", "e3b0c44298fc1c149afbf4c8996fb92427ae41e4649b934ca495991b7852b855", ""},
		{"abc", "ba7816bf8f01cfea414140de5dae2223b00361a396177a9cb410ff61f20015ad", ""},
		{"abcdbcdecdefdefgefghfghighijhijkijkljklmklmnlmnomnopnopq", "248d6a61d20638b8e5c026930c3e6039a33ce45964ff2167f6ecedd419db06c1", ""},
		{strings.Repeat("a", 1000000), "cdc76e5c9914fb9281a1c7e284d73e67f1809a48a497200e046d39ccc7112cd0", ""},
	} {
		d := Hex(Sum(x.s))
		if len(d) != 64 || !strings.HasPrefix(d, x.first) || !strings.HasSuffix(d, x.last) {
			t.Errorf("Sum of %d bytes: %s", len(x.s), d)
		}
	}
}

// P1.1: each length around several multiples of 64, where what is filled up changes; and bytes that are all one.
func TestSumLengths(t *testing.T) {
	for n := range 5*64 + 2 {
		if s := sample(n, n); Sum(s) != want(s) {
			t.Errorf("Sum of %d bytes: %s", n, Hex(Sum(s)))
		}
	}
	for _, n := range []int{1023, 1024, 1025, 4096, 16384, 32768, 65535, 65536, 65537, 1 << 20} {
		for _, s := range []string{sample(n, n), strings.Repeat("\x00", n), strings.Repeat("\xff", n), strings.Repeat("\x80", n)} {
			if Sum(s) != want(s) {
				t.Errorf("Sum of %d bytes: %s", n, Hex(Sum(s)))
			}
		}
	}
}

// P1.1: what bytes are filled up by, where how many bits they have needs more than four bytes, too.
func TestEnding(t *testing.T) {
	for _, size := range []int{0, 1, 31, 32, 55, 56, 63, 64, 65, 1<<29 - 1, 1 << 29, 1<<31 - 1} {
		end := ending(size)
		zeros := len(end) - 9
		tail := []byte{0, 0, 0, byte(size >> 29), byte(size >> 21), byte(size >> 13), byte(size >> 5), byte(size << 3)}
		if zeros < 0 || zeros > 63 || (size+len(end))%64 != 0 || end != "\x80"+strings.Repeat("\x00", zeros)+string(tail) {
			t.Errorf("behind %d bytes: %x", size, end)
		}
	}
}

// P1.1: the tables are what the chapter says of the primes' roots.
func TestRoots(t *testing.T) {
	below := new(big.Int).SetUint64(1<<32 - 1)
	low := func(x *big.Int) uint32 { return uint32(new(big.Int).And(x, below).Uint64()) }
	i := 0
	for p := int64(2); i < len(cubeRoots); p++ {
		if !big.NewInt(p).ProbablyPrime(0) {
			continue
		}
		if i < len(squareRoots) {
			root := new(big.Int).Sqrt(new(big.Int).Lsh(big.NewInt(p), 64))
			if squareRoots[i] != low(root) {
				t.Errorf("square root of %d: %08x", p, squareRoots[i])
			}
		}
		if root := cubeRoot(new(big.Int).Lsh(big.NewInt(p), 96)); cubeRoots[i] != low(root) {
			t.Errorf("cube root of %d: %08x", p, cubeRoots[i])
		}
		i++
	}
}

// cubeRoot is the greatest number whose cube is at most x, which is below 2^120.
func cubeRoot(x *big.Int) *big.Int {
	root := new(big.Int)
	for bit := 40; bit >= 0; bit-- {
		more := new(big.Int).SetBit(root, bit, 1)
		if new(big.Int).Exp(more, big.NewInt(3), nil).Cmp(x) <= 0 {
			root = more
		}
	}
	return root
}

// P1.1: hexes, of each byte and of bytes of many lengths.
func TestHex(t *testing.T) {
	if Hex("") != "" || Hex("\x00\xff") != "00ff" || Hex("\x0f\xf0\x9a") != "0ff09a" {
		t.Error("Hex:", Hex(""), Hex("\x00\xff"), Hex("\x0f\xf0\x9a"))
	}
	for b := range 256 {
		s := string([]byte{byte(b)})
		if Hex(s) != hex.EncodeToString([]byte(s)) {
			t.Error("Hex of", b, Hex(s))
		}
	}
	for n := range 70 {
		if s := sample(n, n); Hex(s) != hex.EncodeToString([]byte(s)) {
			t.Error("Hex of", n, "bytes:", Hex(s))
		}
	}
}

// P1.1: the bytes of a hex.
func TestUnhex(t *testing.T) {
	for _, x := range []struct{ s, want string }{
		{"", ""}, {"00ff", "\x00\xff"}, {"61", "a"}, {"0123456789abcdef", "\x01\x23\x45\x67\x89\xab\xcd\xef"},
	} {
		if got, e := Unhex(x.s); got != x.want || e != api.OK {
			t.Errorf("Unhex of %q: %q, %d", x.s, got, e)
		}
	}
}

// P1.1, R4: what is no hex: ErrForm, and no bytes.
func TestUnhexWrong(t *testing.T) {
	refused := func(s string) {
		t.Helper()
		if got, e := Unhex(s); got != "" || e != api.ErrForm {
			t.Errorf("Unhex of %q: %q, %d", s, got, e)
		}
	}
	for _, s := range []string{"0", "abc", "00f", "0F", "F0", "AB", "g0", "0g", " 00", "00 ", "0x00", "0\n", "\x00\x00", "é", "+1", "-1", "00ffzz", "zz00ff"} {
		refused(s)
	}
	for b := range 256 {
		s := string([]byte{byte(b)})
		refused(s)
		if strings.Contains("0123456789abcdef", s) {
			if _, e := Unhex(s + "0"); e != api.OK {
				t.Errorf("Unhex of %q: %d", s+"0", e)
			}
			continue
		}
		refused(s + "0")
		refused("0" + s)
		refused("00ff" + s + "0")
		refused("00f" + s)
	}
}

// P1.2: a hash of no bytes, and what adding none changes.
func TestNew(t *testing.T) {
	h := New()
	if h.Len() != 0 || h.Sum() != want("") {
		t.Error("New:", h.Len(), Hex(h.Sum()))
	}
	if e := h.Add(""); e != api.OK || h.Len() != 0 || h.Sum() != want("") {
		t.Error("Add of none:", e, h.Len(), Hex(h.Sum()))
	}
}

// P1.2: Sum stays as it is, and more may be added behind it; at each length around two blocks.
func TestSumStays(t *testing.T) {
	all := sample(200, 1)
	h := New()
	for i := range len(all) {
		if h.Len() != i || h.Sum() != want(all[:i]) || h.Sum() != want(all[:i]) || h.Len() != i {
			t.Fatal("behind", i, "bytes:", h.Len(), Hex(h.Sum()))
		}
		if e := h.Add(all[i : i+1]); e != api.OK {
			t.Fatal("Add:", e)
		}
	}
}

// P1.2, R2: a copy and what it was made of do not see one another, whatever is left over in them.
func TestCopy(t *testing.T) {
	for n := range 131 {
		for _, more := range []int{1, 63, 64, 65, 200} {
			base, one, two := sample(n, 1), sample(more, 2), sample(more, 3)
			h := New()
			h.Add(base)
			c := h.Copy()
			if c == nil || c == h || c.Len() != n || c.Sum() != want(base) {
				t.Fatal("Copy behind", n, "bytes")
			}
			h.Add(one)
			if c.Len() != n || c.Sum() != want(base) {
				t.Fatal("the copy sees what is added to the hash:", n, more)
			}
			c.Add(two)
			if h.Len() != n+more || h.Sum() != want(base+one) {
				t.Fatal("the hash sees what is added to the copy:", n, more)
			}
			if c.Len() != n+more || c.Sum() != want(base+two) {
				t.Fatal("the copy is wrong:", n, more)
			}
		}
	}
}

// P1.2, R2: copies of one hash, and of copies, each go their own way.
func TestCopies(t *testing.T) {
	base := sample(70, 4)
	h := New()
	h.Add(base)
	var l []*Hash
	for i := range 8 {
		c := h.Copy()
		if i > 0 {
			c = l[i-1].Copy()
		}
		c.Add(sample(9, i))
		l = append(l, c)
	}
	all := base
	for i, c := range l {
		all += sample(9, i)
		if c.Len() != len(all) || c.Sum() != want(all) {
			t.Error("copy", i, c.Len(), Hex(c.Sum()))
		}
	}
	if h.Len() != len(base) || h.Sum() != want(base) {
		t.Error("the first one:", h.Len(), Hex(h.Sum()))
	}
}

// P1.2, R1: a nil hash.
func TestNil(t *testing.T) {
	var h *Hash
	for _, s := range []string{"", "a", sample(100, 1)} {
		if e := h.Add(s); e != api.ErrNil {
			t.Error("Add:", e)
		}
	}
	if h.Sum() != want("") || h.Len() != 0 || h.Copy() != nil {
		t.Error("nil:", Hex(h.Sum()), h.Len(), h.Copy())
	}
}

// R1: a hash that was not made by New does not panic.
func TestOtherwise(t *testing.T) {
	h := &Hash{}
	h.Add(sample(100, 1))
	c := h.Copy()
	c.Add(sample(100, 2))
	if len(h.Sum()) != 32 || len(c.Sum()) != 32 {
		t.Error("Sum:", Hex(h.Sum()), Hex(c.Sum()))
	}
}

// P1.3: one text in two pieces, cut at each place, and in three.
func TestTwoPieces(t *testing.T) {
	all := sample(260, 5)
	for i := range len(all) + 1 {
		h := New()
		h.Add(all[:i])
		h.Add(all[i:])
		if h.Len() != len(all) || h.Sum() != want(all) {
			t.Error("cut at", i, Hex(h.Sum()))
		}
		h = New()
		h.Add(all[:i/2])
		h.Add(all[i/2 : i])
		h.Add(all[i:])
		if h.Len() != len(all) || h.Sum() != Sum(all) {
			t.Error("cut at", i/2, i, Hex(h.Sum()))
		}
	}
}

// P1.3: one text in pieces that are all as long, and in pieces that grow, with empty ones between.
func TestManyPieces(t *testing.T) {
	all := sample(3000, 6)
	add := func(h *Hash, s string) {
		t.Helper()
		if h.Add(s) != api.OK || h.Add("") != api.OK {
			t.Fatal("Add")
		}
	}
	for n := 1; n <= 200; n++ {
		h, g := New(), New()
		for i := 0; i < len(all); i += n {
			add(h, all[i:min(i+n, len(all))])
		}
		for i, k := 0, n; i < len(all); i, k = i+k, k+1 {
			add(g, all[i:min(i+k, len(all))])
		}
		if h.Len() != len(all) || h.Sum() != Sum(all) || g.Len() != len(all) || g.Sum() != Sum(all) {
			t.Error("pieces of", n, Hex(h.Sum()), Hex(g.Sum()))
		}
	}
}

// P1.4: there and back, both ways.
func TestBack(t *testing.T) {
	for n := range 300 {
		s := sample(n, n)
		if got, e := Unhex(Hex(s)); got != s || e != api.OK {
			t.Errorf("Unhex of Hex of %d bytes: %q, %d", n, got, e)
		}
	}
	const digits = "0123456789abcdef"
	for i := range 256 {
		x := string([]byte{digits[i/16], digits[i%16]})
		for _, s := range []string{x, x + "7e", "7e" + x} {
			if got, e := Unhex(s); e != api.OK || Hex(got) != s {
				t.Errorf("Hex of Unhex of %s: %s, %d", s, Hex(got), e)
			}
		}
	}
}

func BenchmarkSum(b *testing.B) {
	s := sample(1024, 1)
	b.SetBytes(int64(len(s)))
	for range b.N {
		Sum(s)
	}
}
