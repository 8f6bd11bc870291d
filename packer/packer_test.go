package packer

import (
	"crypto/sha256"
	"encoding/binary"
	"encoding/hex"
	"math/rand"
	"reflect"
	"slices"
	"strconv"
	"strings"
	"sync"
	"testing"
	"unsafe"

	"strongbox/api"
	"strongbox/pack"
)

// most is how many bytes two chunks of a pack, or more, may have together; greatest is how many one chunk may have.
const (
	most     = 4096
	greatest = 16384
)

// sample are n bytes of all kinds, the same ones each time; seed says which.
func sample(n, seed int) string {
	b := make([]byte, n)
	x := uint32(seed)*2654435761 + 1
	for i := range b {
		x = x*1664525 + 1013904223
		b[i] = byte(x >> 24)
	}
	return string(b)
}

// row is one byte, n times.
func row(n int, b byte) string { return strings.Repeat(string([]byte{b}), n) }

// singles are the first n bytes that there are, as chunks.
func singles(n int) []string {
	var chunks []string
	for b := range n {
		chunks = append(chunks, row(1, byte(b)))
	}
	return chunks
}

// pairs are n chunks of two bytes each, of which no two are alike.
func pairs(n int) []string {
	var chunks []string
	for i := range n {
		chunks = append(chunks, string([]byte{byte(i >> 8), byte(i)}))
	}
	return chunks
}

// ofSizes are chunks of so many bytes, of which no two are alike.
func ofSizes(sizes ...int) []string {
	var chunks []string
	for i, size := range sizes {
		chunks = append(chunks, row(size, byte(i)))
	}
	return chunks
}

// digestOf is the SHA-256 of bytes, told without the program's own.
func digestOf(text string) string {
	sum := sha256.Sum256([]byte(text))
	return string(sum[:])
}

// blobOf are the bytes of chunks' pack, straight by chapter 15.
func blobOf(chunks []string) string {
	b := binary.BigEndian.AppendUint16([]byte("pak1"), uint16(len(chunks)))
	for _, chunk := range chunks {
		b = binary.BigEndian.AppendUint16(b, uint16(len(chunk)))
	}
	return string(b) + strings.Join(chunks, "")
}

// asPack is the pack of chunks, straight by the chapter's words.
func asPack(chunks []string) Pack {
	blob := blobOf(chunks)
	p := Pack{Blob: blob, Digest: digestOf(blob)}
	at := 6 + 2*len(chunks)
	for _, chunk := range chunks {
		p.Chunks = append(p.Chunks, digestOf(chunk))
		p.Places = append(p.Places, api.Place{Pack: digestOf(blob), At: at, Len: len(chunk)})
		at += len(chunk)
	}
	return p
}

// asPacks are the packs of groups of chunks.
func asPacks(groups [][]string) []Pack {
	var packs []Pack
	for _, group := range groups {
		packs = append(packs, asPack(group))
	}
	return packs
}

// told says by the chapter's words which chunks go together, step by step.
func told(chunks []string) (groups [][]string, e api.Errno) {
	for i, chunk := range chunks {
		if len(chunk) == 0 || len(chunk) > greatest {
			return nil, api.ErrForm
		}
		if slices.Contains(chunks[:i], chunk) {
			continue
		}
		last := len(groups) - 1
		if last >= 0 && len(strings.Join(groups[last], ""))+len(chunk) <= most {
			groups[last] = append(groups[last], chunk)
			continue
		}
		groups = append(groups, []string{chunk})
	}
	return groups, api.OK
}

// same says whether packs are those, each part of them.
func same(packs, want []Pack) bool {
	return slices.EqualFunc(packs, want, func(a, b Pack) bool {
		return a.Blob == b.Blob && a.Digest == b.Digest && slices.Equal(a.Chunks, b.Chunks) && slices.Equal(a.Places, b.Places)
	})
}

// shown is what a test tells of chunks.
func shown(chunks []string) string {
	var b strings.Builder
	b.WriteString(strconv.Itoa(len(chunks)) + " chunks:")
	for _, chunk := range chunks[:min(8, len(chunks))] {
		b.WriteString(" " + strconv.Itoa(len(chunk)) + " " + strconv.Quote(chunk[:min(6, len(chunk))]))
	}
	return b.String()
}

// shownPacks is what a test tells of packs: of each one how many chunks it has, and how many bytes.
func shownPacks(packs []Pack) string {
	text := strconv.Itoa(len(packs)) + " packs:"
	for _, p := range packs[:min(8, len(packs))] {
		text += " " + strconv.Itoa(len(p.Chunks)) + "/" + strconv.Itoa(len(p.Blob))
	}
	return text
}

// goes says that chunks go together just so.
func goes(t *testing.T, chunks []string, groups ...[]string) {
	t.Helper()
	packs, e := Gather(chunks)
	if e != api.OK || !same(packs, asPacks(groups)) {
		t.Errorf("Gather of %s: %s, %d, not %s", shown(chunks), shownPacks(packs), e, shownPacks(asPacks(groups)))
	}
}

// goesAsTold holds Gather against the chapter's words.
func goesAsTold(t *testing.T, chunks []string) {
	t.Helper()
	groups, e := told(chunks)
	if e != api.OK {
		refused(t, chunks)
		return
	}
	goes(t, chunks, groups...)
}

func refused(t *testing.T, chunks []string) {
	t.Helper()
	if packs, e := Gather(chunks); e != api.ErrForm || len(packs) != 0 {
		t.Errorf("Gather of %s: %s, %d", shown(chunks), shownPacks(packs), e)
	}
}

// lists are chunks of all kinds that may be gathered.
func lists() [][]string {
	all := [][]string{
		nil, {}, {"a"}, {"a", "bc"}, {"bc", "a"}, {"a", "a"}, {"a", "b", "a", "c", "b"}, {"\x00", "\x00\x00", "\x00"}, {"\xff\xfe", "\xed\xa0\x80", "é", "\xc3", "\xa9"},
		{sample(most, 1)}, {sample(most+1, 2)}, {sample(greatest-1, 3)}, {sample(greatest, 4)}, {sample(greatest, 5), sample(greatest, 6), sample(greatest, 5)},
		{"a", sample(9000, 7), "b"}, {sample(9000, 7), "b", "a"}, {"b", "a", sample(9000, 7)}, {"a", sample(9000, 7), "a", "b"},
		ofSizes(2000, 2000, 2000), ofSizes(most-1, 1), ofSizes(1, most-1), ofSizes(most, 1), ofSizes(1, most), ofSizes(most-1, 2), ofSizes(most/2, most/2, 1, most-1, 1),
		ofSizes(1000, 1000, 1000, 1000, 96, 1), ofSizes(1000, 1000, 1000, 1000, 97, 1), ofSizes(most-1, most-1, 1, 1), ofSizes(most+1, most+1, 1, 1),
		singles(256), pairs(256), pairs(257), pairs(most / 2), pairs(most/2 + 1), pairs(4500), slices.Concat(singles(256), pairs(2500), singles(256)),
		{pack1(), pack1()[:8], "pak1"}, {digestOf("a"), "a", digestOf("")},
	}
	for step := 1; step < 1500; step += 97 {
		var chunks []string
		for i := range 30 {
			chunks = append(chunks, sample(1+i*step%1600, i%23))
		}
		all = append(all, chunks)
	}
	return all
}

// pack1 is a pack's blob, as bytes of a chunk.
func pack1() string { return blobOf([]string{"a", "bc"}) }

// The chapter's examples.
func TestExamples(t *testing.T) {
	a, b, c := row(2000, 'a'), row(2000, 'b'), row(2000, 'c')
	goes(t, []string{a, b, c}, []string{a, b}, []string{c})
	alone := sample(9000, 1)
	goes(t, []string{alone}, []string{alone})
	goes(t, []string{"x", alone, "y"}, []string{"x"}, []string{alone}, []string{"y"})
	goes(t, []string{a, a}, []string{a})
}

// P16.1: a pack told by hand, its digests told by others.
func TestByHand(t *testing.T) {
	packs, e := Gather([]string{"a", "abc", "a"})
	if e != api.OK || len(packs) != 1 {
		t.Fatal(shownPacks(packs), e)
	}
	p := packs[0]
	if p.Blob != "pak1\x00\x02\x00\x01\x00\x03aabc" {
		t.Errorf("the blob is %q", p.Blob)
	}
	var chunks []string
	for _, digest := range p.Chunks {
		chunks = append(chunks, hex.EncodeToString([]byte(digest)))
	}
	if !slices.Equal(chunks, []string{"ca978112ca1bbdcafac231b39a23dc4da786eff8147c4e72b9807785afee48bb", "ba7816bf8f01cfea414140de5dae2223b00361a396177a9cb410ff61f20015ad"}) {
		t.Errorf("the chunks are %v", chunks)
	}
	if p.Digest != digestOf("pak1\x00\x02\x00\x01\x00\x03aabc") {
		t.Errorf("the digest is %x", p.Digest)
	}
	if !slices.Equal(p.Places, []api.Place{{Pack: p.Digest, At: 10, Len: 1}, {Pack: p.Digest, At: 11, Len: 3}}) {
		t.Errorf("the places are %v", p.Places)
	}
	if n := Bytes(packs); n != 14 {
		t.Errorf("%d bytes", n)
	}
}

// P16.1: no chunks at all are no packs.
func TestNone(t *testing.T) {
	for _, chunks := range [][]string{nil, {}, make([]string, 0, 5)} {
		if packs, e := Gather(chunks); e != api.OK || len(packs) != 0 {
			t.Errorf("%s, %d", shownPacks(packs), e)
		}
	}
}

// P16.1: one chunk, of all sizes around each edge, alone, and ahead of and behind a small one, and both.
func TestOneChunk(t *testing.T) {
	for _, n := range []int{1, 2, 3, 63, 64, 65, 255, 256, 257, 1024, most - 2, most - 1, most, most + 1, 2 * most, 9000, greatest - 1, greatest} {
		chunk := sample(n, n)
		goes(t, []string{chunk}, []string{chunk})
		goes(t, []string{chunk, chunk, chunk}, []string{chunk})
		for _, list := range [][]string{{"é!", chunk}, {chunk, "é!"}} {
			if n <= 4093 {
				goes(t, list, list)
				continue
			}
			goes(t, list, list[:1], list[1:])
		}
		goesAsTold(t, []string{"é!", chunk, "?"})
		goesAsTold(t, []string{"é!", "?", chunk, "x", "y"})
	}
	for n := 1; n <= 300; n++ {
		goes(t, []string{sample(n, n)}, []string{sample(n, n)})
	}
}

// P16.1: one of each byte, and bytes that are no text.
func TestAnyBytes(t *testing.T) {
	for b := range 256 {
		goes(t, []string{row(1, byte(b))}, []string{row(1, byte(b))})
		goes(t, []string{row(3, byte(b)), "\xc3\x28", row(1, byte(b)), row(3, byte(b))}, []string{row(3, byte(b)), "\xc3\x28", row(1, byte(b))})
	}
	goes(t, []string{"\xff", "\xfe", "\xff\xfe", "\x80", "\xed\xa0\x80", "�"}, []string{"\xff", "\xfe", "\xff\xfe", "\x80", "\xed\xa0\x80", "�"})
}

// P16.1: one alone above MaxPack bytes closes the pack ahead of it, and nothing goes in with it.
func TestAboveMaxPack(t *testing.T) {
	for _, n := range []int{most + 1, 5000, 9000, greatest} {
		big, other := sample(n, 1), sample(n, 2)
		goes(t, []string{big, "a", "b"}, []string{big}, []string{"a", "b"})
		goes(t, []string{"a", "b", big}, []string{"a", "b"}, []string{big})
		goes(t, []string{"a", big, "b"}, []string{"a"}, []string{big}, []string{"b"})
		goes(t, []string{"a", "b", big, "c", "d"}, []string{"a", "b"}, []string{big}, []string{"c", "d"})
		goes(t, []string{big, other}, []string{big}, []string{other})
		goes(t, []string{big, other, "a", big, "b"}, []string{big}, []string{other}, []string{"a", "b"})
		goes(t, []string{"a", big, "a", big, "b", "a"}, []string{"a"}, []string{big}, []string{"b"})
		goes(t, []string{big, big}, []string{big})
	}
}

// P16.1: two chunks, and three, that have MaxPack bytes together, and one more, or one less, shared out in all ways.
func TestFull(t *testing.T) {
	for first := 1; first < most; first += 31 {
		a := row(first, 1)
		less, just, more := row(most-first-1, 2), row(most-first, 2), row(most-first+1, 2)
		if less != "" {
			goes(t, []string{a, less}, []string{a, less})
			goes(t, []string{"x", a, less, "y"}, []string{"x", a, less}, []string{"y"})
			goes(t, []string{a, less, "xy", "z"}, []string{a, less}, []string{"xy", "z"})
		}
		goes(t, []string{a, just}, []string{a, just})
		goes(t, []string{just, a}, []string{just, a})
		goes(t, []string{a, just, "x"}, []string{a, just}, []string{"x"})
		goes(t, []string{a, more}, []string{a}, []string{more})
		goes(t, []string{more, a}, []string{more}, []string{a})
		goes(t, []string{"x", a, just}, []string{"x", a}, []string{just})
	}
	six := ofSizes(most-1, 1, 1, most-1, most, 1)
	goes(t, six, six[:2], six[2:4], six[4:5], six[5:])
}

// P16.1: bytes count, not chunks: as many as may be go into one pack, and the next one opens another.
func TestManyChunks(t *testing.T) {
	for n := 1; n <= 256; n++ {
		goes(t, singles(n), singles(n))
	}
	goes(t, slices.Repeat(singles(256), 20), singles(256))
	all := pairs(1 << 16)
	var groups [][]string
	for group := range slices.Chunk(all, most/2) {
		groups = append(groups, group)
	}
	goes(t, all, groups...)
	goes(t, append(slices.Clone(all), all...), groups...)
	full := append(singles(256), pairs(1920)...)
	goes(t, append(slices.Clone(full), "abc"), full, []string{"abc"})
	goes(t, append([]string{"abc"}, full...), append([]string{"abc"}, full[:2174]...), full[2174:])
}

// P16.1: the next chunk goes into the pack that is open, never into one that is closed, however small it is.
func TestNeverBack(t *testing.T) {
	goes(t, []string{row(3000, 1), row(2000, 2), row(1000, 3), row(1096, 4), "x", "y"}, []string{row(3000, 1)}, []string{row(2000, 2), row(1000, 3), row(1096, 4)}, []string{"x", "y"})
	goes(t, []string{"a", row(most, 1), "b", row(most, 2), "c"}, []string{"a"}, []string{row(most, 1)}, []string{"b"}, []string{row(most, 2)}, []string{"c"})
	chunks := []string{"z", "y", row(4000, 9), "b", "a"} // not by their bytes either
	goes(t, chunks, chunks)
}

// P16.1: a chunk that is an earlier one is left out: beside it, with others between, in a pack that is closed, and where without it the pack would be full.
func TestEarlierOnes(t *testing.T) {
	a, b, c, d := row(2000, 'a'), row(2096, 'b'), row(2000, 'c'), row(9000, 'd')
	goes(t, []string{a, a, b}, []string{a, b})
	goes(t, []string{a, b, a}, []string{a, b})
	goes(t, []string{a, b, a, b, c}, []string{a, b}, []string{c})
	goes(t, []string{a, b, c, a, "x"}, []string{a, b}, []string{c, "x"})
	goes(t, []string{a, b, c, b, b, a, c, "x", a}, []string{a, b}, []string{c, "x"})
	goes(t, []string{a, a, "x", a, "y", "x"}, []string{a, "x", "y"})
	goes(t, []string{a, "x", "x", row(2095, 'e')}, []string{a, "x", row(2095, 'e')})
	goes(t, []string{a, "x", a, row(2095, 'e'), "x"}, []string{a, "x", row(2095, 'e')})
	goes(t, []string{d, "x", d, "y", d}, []string{d}, []string{"x", "y"})
	goes(t, []string{"x", d, "x", "y", "x"}, []string{"x"}, []string{d}, []string{"y"})
	goes(t, []string{row(most, 1), row(most, 1), "x", row(most, 1)}, []string{row(most, 1)}, []string{"x"})
}

// P16.1: chunks that begin, or end, as earlier ones, or have their bytes in another row, are not left out.
func TestNearlyEarlierOnes(t *testing.T) {
	goes(t, []string{"ab", "a", "b", "ba", "abab", "aab"}, []string{"ab", "a", "b", "ba", "abab", "aab"})
	var rows []string
	for n := 1; n <= 80; n++ {
		rows = append(rows, row(n, 0))
	}
	goes(t, rows, rows)
	whole := sample(500, 1)
	for place := range whole {
		other := []byte(whole)
		other[place] ^= 1
		goes(t, []string{whole, string(other), whole}, []string{whole, string(other)})
	}
	big, other := sample(greatest, 1), sample(greatest, 1)[:greatest-1]
	goes(t, []string{big, other, other + "x", big}, []string{big}, []string{other}, []string{other + "x"})
}

// P16.1: all kinds of chunks, as they are, twice over, each one twice, and backwards.
func TestAsTold(t *testing.T) {
	for _, chunks := range lists() {
		if len(chunks) > 300 { // the book looks at all earlier ones
			continue
		}
		goesAsTold(t, chunks)
		groups, _ := told(chunks)
		goes(t, slices.Repeat(chunks, 3), groups...)
		var twice []string
		for _, chunk := range chunks {
			twice = append(twice, chunk, chunk)
		}
		goes(t, twice, groups...)
		back := slices.Clone(chunks)
		slices.Reverse(back)
		goesAsTold(t, back)
		goesAsTold(t, slices.Concat(back, chunks))
		goesAsTold(t, slices.Concat(chunks, []string{row(most, 'x')}, back))
	}
}

// P16.1: chunks at random, of sizes around all edges, some of them earlier ones, a few none at all.
func TestAtRandom(t *testing.T) {
	random := rand.New(rand.NewSource(16))
	sizes := []int{1, 1, 2, 3, 64, 500, 1000, 1024, 2047, 2048, 2049, most - 1, most, most + 1, greatest}
	well := 0
	for range 4000 {
		var chunks []string
		for range random.Intn(25) {
			chunks = append(chunks, row(sizes[random.Intn(len(sizes))], byte(random.Intn(6))))
		}
		if random.Intn(8) == 0 {
			chunks = slices.Insert(chunks, random.Intn(len(chunks)+1), row(random.Intn(2)*(greatest+1), 1))
		}
		goesAsTold(t, chunks)
		if _, e := Gather(chunks); e == api.OK {
			well++
		}
	}
	if well < 3000 || well > 3950 {
		t.Error(well, "were taken")
	}
}

// P16.1, the error: a chunk of no bytes, or of more than MaxNode, wherever it stands, and however often.
func TestRefused(t *testing.T) {
	for _, bad := range []string{"", row(greatest+1, 0), sample(greatest+1, 1), sample(greatest+2, 2), row(1<<15, 0), row(1<<16-1, 0), row(1<<16, 0), row(1<<16+1, 0), row(1<<16+5, 'a'), row(1<<20, 0)} {
		refused(t, []string{bad})
		refused(t, []string{bad, bad})
		refused(t, []string{bad, "a", bad})
		for _, chunks := range lists() {
			if len(chunks) > 40 {
				continue
			}
			for place := range len(chunks) + 1 {
				refused(t, slices.Insert(slices.Clone(chunks), place, bad))
			}
		}
		many := pairs(3000)
		refused(t, append(slices.Clone(many), bad))
		refused(t, append([]string{bad}, many...))
		refused(t, slices.Insert(many, 1500, bad, bad))
		refused(t, []string{row(most, 1), row(most, 2), row(greatest, 3), row(greatest, 3), bad})
		refused(t, []string{"a", "a", "a", bad, "a"})
	}
	refused(t, []string{"", row(greatest+1, 0)})
	refused(t, []string{row(greatest+1, 0), ""})
	refused(t, make([]string, 1<<16))
	refused(t, make([]string, 1<<20))
}

// P16.1: how many bytes blobs have: of none, of one, of some, of what was gathered and of any other.
func TestBytes(t *testing.T) {
	for _, l := range [][]Pack{nil, {}, {{}}, {{}, {}}} {
		if n := Bytes(l); n != 0 {
			t.Errorf("%d of no bytes", n)
		}
	}
	other := Pack{Blob: "abc", Digest: "a digest that is none", Chunks: []string{"x", "yz"}, Places: []api.Place{{Pack: "p", At: 100, Len: 1000}}}
	for n := range 20 {
		if got := Bytes(slices.Repeat([]Pack{other}, n)); got != 3*n {
			t.Errorf("%d bytes of %d packs of three", got, n)
		}
	}
	if n := Bytes([]Pack{{Blob: row(1<<20, 0)}, {}, {Blob: "\xff"}, {Digest: "d"}}); n != 1<<20+1 {
		t.Errorf("%d bytes", n)
	}
	for _, chunks := range lists() {
		packs, _ := Gather(chunks)
		size := 0
		for i, p := range packs {
			size += len(p.Blob)
			if n := Bytes(packs[:i+1]); n != size {
				t.Errorf("%d bytes of the first %d packs of %s, not %d", n, i+1, shown(chunks), size)
			}
			if n := Bytes([]Pack{p}); n != len(p.Blob) {
				t.Errorf("%d bytes of one, not %d", n, len(p.Blob))
			}
		}
		if n := Bytes(packs); n != size {
			t.Errorf("%d bytes of the packs of %s, not %d", n, shown(chunks), size)
		}
	}
}

// P16.2: each chunk stands in just one pack, where its place says.
func TestEachOnce(t *testing.T) {
	for _, chunks := range lists() {
		packs, e := Gather(chunks)
		if e != api.OK {
			t.Fatalf("Gather of %s: %d", shown(chunks), e)
		}
		stands := map[string]int{}
		for _, p := range packs {
			if len(p.Chunks) == 0 || len(p.Places) != len(p.Chunks) {
				t.Fatalf("%s: a pack of %d chunks and %d places", shown(chunks), len(p.Chunks), len(p.Places))
			}
			if p.Digest != digestOf(p.Blob) {
				t.Errorf("%s: a pack's digest is not the blob's", shown(chunks))
			}
			for i, place := range p.Places {
				if place.Pack != p.Digest || digestOf(p.Blob[place.At:place.At+place.Len]) != p.Chunks[i] {
					t.Errorf("%s: a chunk does not stand at %d of its pack", shown(chunks), place.At)
				}
				stands[p.Chunks[i]]++
			}
		}
		for _, chunk := range chunks {
			if n := stands[digestOf(chunk)]; n != 1 {
				t.Errorf("%s: a chunk stands in %d places", shown(chunks), n)
			}
			stands[digestOf(chunk)] = 1
		}
		for _, chunk := range chunks {
			delete(stands, digestOf(chunk))
		}
		if len(stands) != 0 {
			t.Errorf("%s: %d chunks more stand there", shown(chunks), len(stands))
		}
	}
}

// P16.2: the packs' chunks, one behind the other, are the chunks, each where it was first.
func TestRow(t *testing.T) {
	for _, chunks := range lists() {
		var first, stand []string
		seen := map[string]int{}
		for _, chunk := range chunks {
			if seen[chunk]++; seen[chunk] == 1 {
				first = append(first, chunk)
			}
		}
		packs, _ := Gather(chunks)
		for _, p := range packs {
			parts, at, e := pack.Read(p.Blob)
			if e != api.OK || len(parts) != len(p.Places) {
				t.Fatalf("%s: no pack's blob, %d", shown(chunks), e)
			}
			for i, place := range p.Places {
				if place.At != at[i] || place.Len != len(parts[i]) {
					t.Errorf("%s: a place is %v, not %d", shown(chunks), place, at[i])
				}
			}
			stand = append(stand, parts...)
		}
		if !slices.Equal(stand, first) {
			t.Errorf("%s: they stand as %s", shown(chunks), shown(stand))
		}
	}
}

// P16.2: there are no two packs beside one another whose chunks would have gone into one.
func TestNoTwoAsOne(t *testing.T) {
	for _, chunks := range lists() {
		packs, _ := Gather(chunks)
		for i := range len(packs) - 1 {
			one, _, _ := pack.Read(packs[i].Blob)
			other, _, _ := pack.Read(packs[i+1].Blob)
			if pack.May(slices.Concat(one, other)) || len(strings.Join(one, "")+other[0]) <= most {
				t.Errorf("%s: the packs %d and %d would have gone into one", shown(chunks), i, i+1)
			}
		}
	}
}

// P16.2: gathered again, each pack's chunks are that pack, and all packs' chunks all packs.
func TestAgain(t *testing.T) {
	for _, chunks := range lists() {
		packs, _ := Gather(chunks)
		var all []string
		for i, p := range packs {
			parts, _, _ := pack.Read(p.Blob)
			if again, e := Gather(parts); e != api.OK || !same(again, packs[i:i+1]) {
				t.Errorf("%s: the pack %d gathered again: %s, %d", shown(chunks), i, shownPacks(again), e)
			}
			all = append(all, parts...)
		}
		if again, e := Gather(all); e != api.OK || !same(again, packs) {
			t.Errorf("%s: all gathered again: %s, %d", shown(chunks), shownPacks(again), e)
		}
	}
}

// lent are chunks over one memory that is written to later, with other bytes around them, and other chunks behind their end.
func lent(chunks []string) ([]string, []byte) {
	room := []byte("ahead" + strings.Join(chunks, "") + "behind the end")
	text := unsafe.String(&room[5], len(room)-5)
	list := make([]string, 0, len(chunks)+3)
	for _, chunk := range chunks {
		list = append(list, text[:len(chunk)])
		text = text[len(chunk):]
	}
	copy(list[len(list):cap(list)], []string{"behind", "", "a"})
	return list, room
}

// R3: what was handed in is not changed, not read beyond its end and not kept: what the caller does to it later shows in no answer.
func TestNothingKept(t *testing.T) {
	for _, chunks := range lists() {
		groups, _ := told(chunks)
		want := asPacks(groups)
		list, room := lent(chunks)
		was := string(room)
		packs, e := Gather(list)
		if e != api.OK || string(room) != was || !slices.Equal(list, chunks) || !slices.Equal(list[len(list):cap(list)], []string{"behind", "", "a"}) {
			t.Errorf("%s: they were changed, %d", shown(chunks), e)
		}
		clear(room)
		clear(list[:cap(list)])
		if !same(packs, want) {
			t.Errorf("%s: the answer is tied to them", shown(chunks))
		}
		if n := Bytes(append(packs, Pack{Blob: "behind"})[:len(packs)]); n != Bytes(want) || !same(packs, want) {
			t.Errorf("%s: %d bytes, or the packs were changed", shown(chunks), n)
		}
	}
}

// R3: what is handed out, its spare room too, is new memory: what is written there shows nowhere.
func TestNewMemory(t *testing.T) {
	for _, chunks := range lists() {
		groups, _ := told(chunks)
		want := asPacks(groups)
		packs, _ := Gather(chunks)
		other, _ := Gather(chunks)
		for i := range packs {
			digests, places := packs[i].Chunks[:cap(packs[i].Chunks)], packs[i].Places[:cap(packs[i].Places)]
			for j := range digests {
				digests[j] = "x"
			}
			for j := range places {
				places[j] = api.Place{Pack: "x", At: -1, Len: -1}
			}
			packs[i].Chunks, packs[i].Places = nil, nil
			if !same(packs[i+1:], want[i+1:]) {
				t.Errorf("%s: what was written into the pack %d shows in another one", shown(chunks), i)
			}
		}
		spare := packs[:cap(packs)]
		for i := range spare {
			spare[i] = Pack{Blob: "x", Digest: "x"}
		}
		if !same(other, want) {
			t.Errorf("%s: what was written into one answer shows in another one", shown(chunks))
		}
		goes(t, chunks, groups...)
	}
}

// R3: no two lists of an answer share memory, their spare room neither.
func TestListsApart(t *testing.T) {
	type span struct{ from, to uintptr }
	spanOf := func(list any) span {
		v := reflect.ValueOf(list)
		return span{v.Pointer(), v.Pointer() + uintptr(v.Cap())*v.Type().Elem().Size()}
	}
	for _, chunks := range lists() {
		packs, _ := Gather(chunks)
		spans := []span{spanOf(packs), spanOf(chunks)}
		for _, p := range packs {
			spans = append(spans, spanOf(p.Chunks), spanOf(p.Places))
		}
		slices.SortFunc(spans, func(a, b span) int {
			if a.from < b.from || a.from == b.from && a.to < b.to {
				return -1
			}
			return 1
		})
		for i := 1; i < len(spans); i++ {
			if spans[i].from < spans[i-1].to {
				t.Errorf("%s: two lists share memory", shown(chunks))
				break
			}
		}
	}
}

// R2: nothing is left behind: neither the order of calls counts, nor how many there are at a time.
func TestNothingLeft(t *testing.T) {
	all := slices.DeleteFunc(lists(), func(chunks []string) bool { return len(chunks) > 300 })
	var wait sync.WaitGroup
	for g := range 8 {
		wait.Go(func() {
			for i := range all {
				goesAsTold(t, all[(i*(2*g+1)+g)%len(all)])
				refused(t, []string{"a", "", "b"})
			}
		})
	}
	wait.Wait()
	for range 20 {
		goes(t, []string{"a", "bc"}, []string{"a", "bc"})
		refused(t, []string{"a", ""})
		goes(t, []string{"bc", "a"}, []string{"bc", "a"})
	}
}
