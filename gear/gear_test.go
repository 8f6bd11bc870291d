package gear

import (
	"math"
	"math/big"
	"strings"
	"sync"
	"testing"
	"unsafe"
)

// sample are n bytes of all kinds, the same ones each time; seed says which.
func sample(n, seed int) string {
	b := make([]byte, n)
	x := uint32(seed)*2654435761 + 1
	for i := range b {
		x = x*1664525 + 1013904223
		b[i] = byte(x >> 24)
	}
	return string(b)
}

// one is a text of a single byte.
func one(b int) string { return string([]byte{byte(b)}) }

// round goes round at 64 bits what was told by numbers that can't run over.
func round(n *big.Int) *big.Int {
	return n.Mod(n, new(big.Int).Lsh(big.NewInt(1), 64))
}

// numberOf is a byte's number by the words of the chapter, step by step, without the language's wrap-round.
func numberOf(b int) uint64 {
	times := func(n *big.Int, by string) *big.Int {
		factor, _ := new(big.Int).SetString(by, 10)
		return round(new(big.Int).Mul(n, factor))
	}
	withItself := func(n *big.Int, down uint) *big.Int {
		return new(big.Int).Xor(n, new(big.Int).Rsh(n, down))
	}
	n := times(big.NewInt(int64(b)+1), "11400714819323198485")
	n = times(withItself(n, 30), "13787848793156543929")
	n = times(withItself(n, 27), "10723151780598845931")
	return withItself(n, 31).Uint64()
}

// rolled is what a hash becomes over a text by the words of the chapter: step by step, by numbers that can't run over.
func rolled(h uint64, text string) uint64 {
	n := new(big.Int).SetUint64(h)
	for _, b := range []byte(text) {
		n.Add(n, new(big.Int).Set(n))
		n = round(n.Add(n, new(big.Int).SetUint64(numberOf(int(b)))))
	}
	return n.Uint64()
}

// behind is what Roll makes of a hash, byte by byte.
func behind(h uint64, text string) uint64 {
	for _, b := range []byte(text) {
		h = Roll(h, b)
	}
	return h
}

// hashes are those that the edges are at, and some others.
func hashes() []uint64 {
	return []uint64{
		0, 1, 2, 3, 255, 256,
		1<<32 - 1, 1 << 32,
		1<<63 - 1, 1 << 63, 1<<63 + 1,
		math.MaxUint64 - 1, math.MaxUint64,
		-numberOf(0), -numberOf(255), 12091928270393934362,
	}
}

// texts are the edges of Over: no bytes, one, twice the same, no text of the language's runes, around 64 bytes, and many.
func texts() []string {
	all := []string{
		"", "a", "aa", "ab", "ba", "abc", "\x00", "\x00\x00", "\x00\x00\x00", "\xff", "\xff\xff", "\x00\xff", "\xff\x00",
		"é", "\xc3", "\xa9", "\xc3\x28", "\xf0\x9f\x94\x91", "\xed\xa0\x80", "\xff\xfe\xfd", "a\x80b", "\u2028\x00\n",
	}
	for _, n := range []int{2, 3, 7, 62, 63, 64, 65, 66, 127, 128, 129, 1024, 16384} {
		all = append(all, sample(n, n), strings.Repeat("\x00", n), strings.Repeat("\xff", n), strings.Repeat("é", n))
	}
	return all
}

// P13.1: the chapter's examples.
func TestExamples(t *testing.T) {
	const zero uint64 = 16294208416658607535
	if n := Number(0); n != zero {
		t.Error("Number(0):", n)
	}
	if h := Roll(1, 0); h != zero+2 {
		t.Error("Roll(1, 0):", h)
	}
	if h := Over(""); h != 0 {
		t.Error("Over of no bytes:", h)
	}
	three := zero
	three += zero
	three += zero
	if h := Over("\x00\x00"); h != three {
		t.Error("Over of one byte 0 twice:", h)
	}
}

// P13.1: some numbers and hashes that were told outside of the language.
func TestKnown(t *testing.T) {
	for b, want := range map[uint8]uint64{
		0:   16294208416658607535,
		1:   7960286522194355700,
		2:   487617019471545679,
		10:  7313543279846440201,
		97:  17189161910051005891,
		127: 1355684918954531865,
		128: 10995855354961528897,
		254: 80788758552623550,
		255: 6510009041307890078,
	} {
		if n := Number(b); n != want {
			t.Errorf("Number(%d): %d", b, n)
		}
	}
	if h := Over("abc"); h != 12091928270393934362 {
		t.Error("Over(abc):", h)
	}
	all := ""
	for b := range 256 {
		all += one(b)
	}
	if h := Over(all); h != 6865820359157461802 {
		t.Error("Over of all bytes:", h)
	}
}

// P13.1: each of the 256 bytes, by the words, step by step; the byte 255 and 1 are 256, not 0.
func TestNumber(t *testing.T) {
	for b := range 256 {
		if n := Number(uint8(b)); n != numberOf(b) {
			t.Errorf("Number(%d): %d, not %d", b, n, numberOf(b))
		}
	}
	if Number(255) == 0 {
		t.Error("Number(255): gone round at 8 bits")
	}
}

// P13.1: hashes at the edges, those whose double goes round too, over each byte.
func TestRoll(t *testing.T) {
	for _, h := range hashes() {
		for b := range 256 {
			if got, want := Roll(h, uint8(b)), rolled(h, one(b)); got != want {
				t.Errorf("Roll(%d, %d): %d, not %d", h, b, got, want)
			}
		}
	}
	for _, b := range []uint8{0, 255} {
		n := Number(b)
		for _, x := range []struct{ h, want uint64 }{
			{0, n},
			{1, n + 2},
			{math.MaxUint64, n - 2},
			{1 << 63, n},
			{1<<63 + 1, n + 2},
			{1<<63 - 1, n - 2},
		} {
			if got := Roll(x.h, b); got != x.want {
				t.Errorf("Roll(%d, %d): %d, not %d", x.h, b, got, x.want)
			}
		}
	}
}

// P13.1: Over is what 0 becomes over all bytes, and no more than Roll does, one byte behind the other.
func TestOver(t *testing.T) {
	for _, text := range texts() {
		got := Over(text)
		if want := rolled(0, text); got != want {
			t.Errorf("Over of %d bytes (%.10q): %d, not %d", len(text), text, got, want)
		}
		if got != behind(0, text) {
			t.Errorf("Over of %d bytes (%.10q): not what Roll makes of 0", len(text), text)
		}
	}
	for n := range 200 {
		if text := sample(n, 1000+n); Over(text) != rolled(0, text) {
			t.Errorf("Over of %d bytes: %d, not %d", n, Over(text), rolled(0, text))
		}
	}
	for b := range 256 {
		if text := one(b); Over(text) != Number(uint8(b)) || Over(text+text) != 3*Number(uint8(b)) {
			t.Errorf("Over of the byte %d, once and twice: %d, %d", b, Over(text), Over(text+text))
		}
	}
}

// P13.1: what stands in which place counts: bytes that change places make another hash.
func TestPlaces(t *testing.T) {
	for a := range 256 {
		for b := range a {
			if Over(one(a)+one(b)) == Over(one(b)+one(a)) {
				t.Errorf("Over of the bytes %d and %d: as the other way round", a, b)
			}
		}
	}
}

// P13.1: many bytes, and each call that it ends.
func TestMany(t *testing.T) {
	text := strings.Repeat(sample(1000, 3), 5000)
	if Over(text) != rolled(0, text[len(text)-200:]) {
		t.Error("Over of five million bytes:", Over(text))
	}
}

// P13.2: behind 64 bytes, or more, whatever the hash was at first.
func TestWindow(t *testing.T) {
	for _, n := range []int{64, 65, 66, 100, 127, 128, 129, 1000} {
		for seed := range 4 {
			text := sample(n, seed)
			want := rolled(0, text[n-64:])
			if Over(text) != want || Over(text[n-64:]) != want {
				t.Errorf("Over of %d bytes: not that of the last 64", n)
			}
			for _, h := range hashes() {
				if behind(h, text) != want {
					t.Errorf("%d behind %d bytes: not that of the last 64", h, n)
				}
			}
			for _, ahead := range []string{"", "a", "\x00", "\xff", sample(63, 9), sample(64, 9), sample(500, 9)} {
				if Over(ahead+text) != want {
					t.Errorf("Over of %d bytes behind %d others: not that of the last 64", n, len(ahead))
				}
			}
		}
	}
	for _, b := range []int{0, 1, 127, 128, 255} {
		all := strings.Repeat(one(b), 64)
		if want := Over(all); Over(all+all) != want || behind(math.MaxUint64, all) != want || want != -Number(uint8(b)) {
			t.Errorf("the byte %d, 64 times: %d", b, want)
		}
	}
}

// P13.2: behind 63 bytes, and fewer, what stood first is still told, by its lowest bits.
func TestBelowWindow(t *testing.T) {
	for n := range 64 {
		text := sample(n, 40+n)
		if behind(1, text)-behind(0, text) != 1<<n {
			t.Errorf("1 behind %d bytes: not told from 0", n)
		}
		for _, h := range hashes() {
			if behind(h, text)-Over(text) != h<<n {
				t.Errorf("%d behind %d bytes: not told by its lowest bits", h, n)
			}
		}
	}
	text := sample(63, 7)
	for _, h := range hashes() {
		if even := h%2 == 0; even != (behind(h, text) == Over(text)) {
			t.Errorf("%d behind 63 bytes: whether it is odd is not told", h)
		}
	}
	for a := range 256 {
		if odd := numberOf(a)%2 == 1; odd == (Over(one(a)+text) == Over(text)) {
			t.Errorf("the byte %d ahead of 63: whether its number is odd is not told", a)
		}
	}
}

// P13.3: two parts, either one empty, both, and a second one around 64 bytes.
func TestTwoParts(t *testing.T) {
	sizes := []int{0, 1, 2, 3, 31, 32, 33, 62, 63, 64, 65, 66, 128, 300}
	for _, n := range sizes {
		for _, m := range sizes {
			for seed := range 3 {
				twoParts(t, sample(n, seed), sample(m, 10+seed))
			}
		}
	}
	for _, first := range texts() {
		for _, second := range []string{"", "\x00", "\xff", "\xa9", sample(62, 1), sample(63, 1), sample(64, 1), sample(65, 1)} {
			twoParts(t, first, second)
		}
	}
}

func twoParts(t *testing.T, first, second string) {
	t.Helper()
	doubled := Over(first)
	for range len(second) {
		doubled += doubled
	}
	if got := Over(first + second); got != Over(second)+doubled {
		t.Errorf("Over of %d and %d bytes: %d", len(first), len(second), got)
	}
	if len(second) > 63 && doubled != 0 {
		t.Errorf("a hash doubled %d times: %d", len(second), doubled)
	}
}

// P13.4: no two bytes have one number.
func TestApart(t *testing.T) {
	for a := range 256 {
		for b := range a {
			if Number(uint8(a)) == Number(uint8(b)) {
				t.Errorf("the bytes %d and %d: both %d", a, b, Number(uint8(a)))
			}
			if Over(one(a)) == Over(one(b)) || Roll(7, uint8(a)) == Roll(7, uint8(b)) {
				t.Errorf("the bytes %d and %d: one hash", a, b)
			}
		}
	}
}

// What goes over the bytes of a text goes over those of a list, too, in their order, each once and none beyond its end.
func TestEach(t *testing.T) {
	for _, text := range texts() {
		var ofText, ofList []byte
		each(text, func(b uint8) { ofText = append(ofText, b) })
		room := []byte(text + "room")
		each(room[:len(text)], func(b uint8) { ofList = append(ofList, b) })
		if string(ofText) != text || string(ofList) != text || string(room) != text+"room" {
			t.Errorf("each of %d bytes (%.10q): %d of the text, %d of the list", len(text), text, len(ofText), len(ofList))
		}
	}
	each([]uint8(nil), func(uint8) { t.Error("a byte of a nil list") })
}

// R3: a text that is handed in is not changed, not read beyond its ends, and not kept: what stands there later is what counts.
func TestNothingKept(t *testing.T) {
	for _, n := range []int{1, 2, 63, 64, 65, 500} {
		room := []byte("ahead" + sample(n, n) + "behind")
		was := string(room)
		text := unsafe.String(&room[5], n)
		first := Over(text)
		if string(room) != was {
			t.Errorf("Over of %d bytes: they were changed", n)
		}
		copy(room, "AHEAD")
		copy(room[5+n:], "BEHIND")
		if Over(text) != first {
			t.Errorf("Over of %d bytes: what stands around them counts", n)
		}
		for i := range n {
			room[5+i] ^= 0x55
		}
		if got := Over(text); got != rolled(0, string(room[5:5+n])) || got == first {
			t.Errorf("Over of %d bytes that were written over: %d", n, got)
		}
		copy(room, was)
		if Over(text) != first {
			t.Errorf("Over of %d bytes, as they were at first: another hash", n)
		}
	}
}

// R2: nothing is left behind: neither the order of calls counts, nor how many there are at a time.
func TestNothingLeft(t *testing.T) {
	all := texts()
	var wait sync.WaitGroup
	for g := range 8 {
		wait.Go(func() {
			for i := range all {
				text := all[(i*(2*g+1)+g)%len(all)]
				h := Over(text)
				Number(uint8(i))
				Roll(math.MaxUint64, uint8(g))
				if h != Over(text) || len(text) < 70 && h != rolled(0, text) {
					t.Errorf("Over of %d bytes: %d", len(text), h)
				}
			}
		})
	}
	wait.Wait()
	if Over("") != 0 || Over("a") != Number('a') {
		t.Error("Over behind other calls:", Over(""), Over("a"))
	}
}
