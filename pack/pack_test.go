package pack

import (
	"encoding/binary"
	"math/rand"
	"slices"
	"strconv"
	"strings"
	"sync"
	"testing"
	"unsafe"

	"strongbox/api"
)

// most is how many bytes two chunks, or more, may have together.
const most = api.MaxPack

// sample are n bytes of all kinds, the same ones each time; seed says which.
func sample(n, seed int) string {
	b := make([]byte, n)
	x := uint32(seed)*2654435761 + 1
	for i := range b {
		x = x*1664525 + 1013904223
		b[i] = byte(x >> 24)
	}
	return string(b)
}

// row is one byte, n times.
func row(n int, b byte) string { return strings.Repeat(string([]byte{b}), n) }

// bare are the bytes of a blob straight by the chapter's words, whatever the numbers.
func bare(count int, sizes []int, behind string) string {
	b := binary.BigEndian.AppendUint16([]byte("pak1"), uint16(count))
	for _, size := range sizes {
		b = binary.BigEndian.AppendUint16(b, uint16(size))
	}
	return string(b) + behind
}

func sizesOf(chunks []string) []int {
	var sizes []int
	for _, chunk := range chunks {
		sizes = append(sizes, len(chunk))
	}
	return sizes
}

// blobOf are the bytes that stand for chunks, whether they may be a pack or not.
func blobOf(chunks []string) string {
	return bare(len(chunks), sizesOf(chunks), strings.Join(chunks, ""))
}

// placesOf is where chunks stand in their bytes.
func placesOf(chunks []string) []int {
	var at []int
	end := len(blobOf(chunks))
	for _, chunk := range slices.Backward(chunks) {
		end -= len(chunk)
		at = append(at, end)
	}
	slices.Reverse(at)
	return at
}

// mayBe says by the chapter's words whether chunks may be a pack.
func mayBe(chunks []string) bool {
	for i, chunk := range chunks {
		if len(chunk) < 1 || len(chunk) > 16384 || slices.Contains(chunks[:i], chunk) {
			return false
		}
	}
	return len(chunks) == 1 || len(chunks) > 1 && len(strings.Join(chunks, "")) <= 4096
}

// packOf says of bytes by the chapter's words whether they are a pack's blob, and of which chunks.
func packOf(blob string) ([]string, bool) {
	if len(blob) < 6 || blob[:4] != "pak1" {
		return nil, false
	}
	count := int(blob[4])*256 + int(blob[5])
	at := 6 + 2*count
	if len(blob) < at {
		return nil, false
	}
	var chunks []string
	for i := range count {
		end := at + int(blob[6+2*i])*256 + int(blob[7+2*i])
		if end > len(blob) {
			return nil, false
		}
		chunks = append(chunks, blob[at:end])
		at = end
	}
	return chunks, at == len(blob) && mayBe(chunks)
}

// parted are the bytes of a text as chunks of so many each, the last one maybe of fewer.
func parted(text string, size int) []string {
	var chunks []string
	for part := range slices.Chunk([]byte(text), size) {
		chunks = append(chunks, string(part))
	}
	return chunks
}

// singles are the first n bytes that there are, as chunks.
func singles(n int) []string {
	var chunks []string
	for b := range n {
		chunks = append(chunks, row(1, byte(b)))
	}
	return chunks
}

// pairs are n chunks of two bytes each, of which no two are alike.
func pairs(n int) []string {
	var chunks []string
	for i := range n {
		chunks = append(chunks, string([]byte{byte(i >> 8), byte(i)}))
	}
	return chunks
}

// few are packs of few bytes, so that each place can be gone over.
func few() [][]string {
	return [][]string{
		{"a"}, {"\x00"}, {"\xff"}, {"a", "bc"}, {"bc", "a"}, {"a", "b", "c"}, {"a", "aa", "aaa"}, {"aaa", "aa", "a"}, {"ab", "c", "a", "bc"},
		{"\x00", "\x00\x00", "\x00\x00\x00"}, {"pak1"}, {"pak1", "\x00\x01"}, {"é", "\xc3", "\xa9"}, {"\xed\xa0\x80", "\xff\xfe", "\x80"},
		{blobOf([]string{"a", "bc"}), "a", "bc"}, parted(sample(60, 1), 12),
	}
}

// packs are chunks of all kinds that may be a pack.
func packs() [][]string {
	all := append(few(),
		[]string{row(64, 0)}, []string{row(255, 1)}, []string{row(256, 2)}, []string{row(257, 3)}, []string{row(0x1234, 4)},
		[]string{sample(most-1, 1)}, []string{sample(most, 2)}, []string{sample(most+1, 3)}, []string{sample(api.MaxNode-1, 4)}, []string{sample(api.MaxNode, 5)},
		[]string{sample(1, 6), sample(most-1, 7)}, []string{sample(most-1, 8), sample(1, 9)}, []string{row(most/2, 1), row(most/2, 2)},
		[]string{row(most/2-1, 1), row(most/2+1, 1)}, []string{row(most/2, 1), row(most/2-1, 1) + "x"}, []string{"x" + row(most/2-1, 1), row(most/2, 1)},
		singles(255), singles(256), pairs(255), pairs(256), pairs(257), pairs(most/2), append(singles(256), pairs((most-256)/2)...),
		append(pairs((most-256)/2), singles(256)...), parted(sample(most, 10), 1000), parted(sample(most, 11), 64), parted(sample(most-1, 12), 100),
		[]string{sample(1024, 13), sample(1024, 14), sample(1024, 15), sample(1024, 16)},
	)
	for n := 1; n <= 40; n++ {
		all = append(all, parted(sample(n*n*2, n), n))
	}
	return all
}

// wrong are chunks that may not be a pack.
func wrong() [][]string {
	all := [][]string{
		nil, {}, {""}, {"", ""}, {"a", ""}, {"", "a"}, {"a", "", "b"}, {"a", "bc", ""},
		{"a", "a"}, {"a", "a", "b"}, {"b", "a", "a"}, {"a", "b", "a"}, {"a", "b", "c", "d", "a"}, {"x", "a", "b", "c", "a", "y"}, {"\x00", "\x00"}, {"\xff\xfe", "a", "\xff\xfe"},
		{sample(api.MaxNode+1, 1)}, {row(api.MaxNode+1, 0)}, {row(1<<16, 0)}, {row(1<<16+1, 0)}, {row(1<<16+5, 0)}, {row(1<<20, 0)},
		{sample(most, 2), "x"}, {"x", sample(most, 3)}, {sample(most/2, 4), sample(most/2+1, 5)}, {sample(most/2+1, 6), sample(most/2, 7)},
		{sample(most/2, 8), sample(most/2, 8)}, {sample(api.MaxNode, 9), "x"}, {"x", sample(api.MaxNode, 10)}, {"x", sample(api.MaxNode+1, 11)}, {sample(api.MaxNode+1, 12), "x"},
		{sample(api.MaxNode, 13), sample(api.MaxNode, 14)}, {sample(most+1, 15), sample(most+1, 15)}, {"a", row(1<<16-1, 0), row(1, 0)},
		append(singles(256), "a"), append(singles(256), pairs((most-256)/2+1)...), append(pairs(most/2), "x"), append([]string{"x"}, pairs(most/2)...),
		pairs(most/2 + 1), pairs(1 << 16), append(pairs(1<<16), "a"), parted(sample(most+1, 16), 1000), parted(sample(most+1, 17), 64), singles(300),
		make([]string, 1<<16), make([]string, 1<<16+1), make([]string, 1<<22), slices.Repeat([]string{"a"}, 1<<20),
	}
	for _, chunks := range few() {
		for i, chunk := range chunks {
			for j := range len(chunks) + 1 {
				all = append(all, slices.Insert(slices.Clone(chunks), j, chunks[i]), slices.Insert(slices.Clone(chunks), j, ""))
			}
			all = append(all, slices.Insert(slices.Clone(chunks), i, row(most, chunk[0])))
		}
	}
	return all
}

// shown is what a test tells of chunks.
func shown(chunks []string) string {
	var b strings.Builder
	b.WriteString(strconv.Itoa(len(chunks)) + " chunks:")
	for _, chunk := range chunks[:min(5, len(chunks))] {
		b.WriteString(" " + strconv.Itoa(len(chunk)) + " " + strconv.Quote(chunk[:min(8, len(chunk))]))
	}
	return b.String()
}

func takes(t *testing.T, chunks []string) {
	t.Helper()
	want, places := blobOf(chunks), placesOf(chunks)
	if !May(chunks) {
		t.Errorf("May of %s: false", shown(chunks))
	}
	if blob, at, e := Make(chunks); e != api.OK || blob != want || !slices.Equal(at, places) {
		t.Errorf("Make of %s: %.60q, %v, %d", shown(chunks), blob, at, e)
	}
	if back, at, e := Read(want); e != api.OK || !slices.Equal(back, chunks) || !slices.Equal(at, places) {
		t.Errorf("Read of the blob of %s: %s, %v, %d", shown(chunks), shown(back), at, e)
	}
}

func readRefused(t *testing.T, what, blob string) {
	t.Helper()
	if chunks, at, e := Read(blob); e != api.ErrForm || len(chunks) != 0 || len(at) != 0 {
		t.Errorf("%s: Read of %d bytes, %.60q: %s, %v, %d", what, len(blob), blob, shown(chunks), at, e)
	}
}

func refused(t *testing.T, chunks []string) {
	t.Helper()
	if May(chunks) {
		t.Errorf("May of %s: true", shown(chunks))
	}
	if blob, at, e := Make(chunks); e != api.ErrForm || blob != "" || len(at) != 0 {
		t.Errorf("Make of %s: %.60q, %v, %d", shown(chunks), blob, at, e)
	}
	fits := len(chunks) < 1<<16
	for _, chunk := range chunks {
		fits = fits && len(chunk) < 1<<16
	}
	if fits {
		readRefused(t, "chunks that may not be", blobOf(chunks))
	}
}

// readAsTold holds Read against the chapter's words, and Make of what it read against the bytes.
func readAsTold(t *testing.T, what, blob string) {
	t.Helper()
	want, is := packOf(blob)
	if !is {
		readRefused(t, what, blob)
		return
	}
	chunks, at, e := Read(blob)
	if e != api.OK || !slices.Equal(chunks, want) || !slices.Equal(at, placesOf(want)) {
		t.Errorf("%s: Read of %.60q: %s, %v, %d", what, blob, shown(chunks), at, e)
	}
	if own, to, e := Make(chunks); e != api.OK || own != blob || !slices.Equal(to, at) {
		t.Errorf("%s: Make of Read of %.60q: %.60q, %v, %d", what, blob, own, to, e)
	}
}

// The chapter's examples.
func TestExamples(t *testing.T) {
	blob, at, e := Make([]string{"a", "bc"})
	if e != api.OK || blob != "pak1\x00\x02\x00\x01\x00\x02abc" || !slices.Equal(at, []int{10, 11}) {
		t.Errorf("Make: %q, %v, %d", blob, at, e)
	}
	chunks, at, e := Read("pak1\x00\x02\x00\x01\x00\x02abc")
	if e != api.OK || !slices.Equal(chunks, []string{"a", "bc"}) || !slices.Equal(at, []int{10, 11}) {
		t.Errorf("Read: %q, %v, %d", chunks, at, e)
	}
	for _, chunks := range [][]string{nil, {}, {"a", "a"}, {""}} {
		refused(t, chunks)
	}
	readRefused(t, "no chunks", "pak1\x00\x00")
}

// P15.1: blobs told by hand: each number has another byte in each place.
func TestMakeByHand(t *testing.T) {
	blob, at, e := Make([]string{row(0x3fab, 'y')})
	if e != api.OK || blob != "pak1\x00\x01\x3f\xab"+row(0x3fab, 'y') || !slices.Equal(at, []int{8}) {
		t.Errorf("one: %.20q, %v, %d", blob, at, e)
	}
	blob, at, e = Make([]string{row(0x0102, 'x'), "\x00", row(0x0304, 'z')})
	if e != api.OK || blob != "pak1\x00\x03\x01\x02\x00\x01\x03\x04"+row(0x0102, 'x')+"\x00"+row(0x0304, 'z') || !slices.Equal(at, []int{12, 12 + 0x0102, 13 + 0x0102}) {
		t.Errorf("three: %.20q, %v, %d", blob, at, e)
	}
	many := pairs(0x0123)
	blob, at, e = Make(many)
	if e != api.OK || blob != "pak1\x01\x23"+strings.Repeat("\x00\x02", 0x0123)+strings.Join(many, "") || len(at) != 0x0123 || at[0] != 6+2*0x0123 || at[0x0122] != len(blob)-2 {
		t.Errorf("many: %.20q, %v, %d", blob, at, e)
	}
}

// P15.1, P15.2: chunks of all kinds that may be a pack, there and back.
func TestBack(t *testing.T) {
	for _, chunks := range packs() {
		if !mayBe(chunks) {
			t.Fatalf("%s may not be a pack", shown(chunks))
		}
		takes(t, chunks)
		blob, at, e := Make(chunks)
		back, to, f := Read(blob)
		if e != api.OK || f != api.OK || !slices.Equal(back, chunks) || !slices.Equal(to, at) {
			t.Errorf("Read of Make of %s: %s, %v, not %v, %d, %d", shown(chunks), shown(back), to, at, e, f)
		}
		readAsTold(t, "blobs", blob)
	}
	for n := 1; n <= 300; n++ {
		takes(t, []string{sample(n, n)})
		takes(t, []string{row(n, 0), "x"})
	}
}

// P15.1: chunks that may not be a pack.
func TestRefused(t *testing.T) {
	for _, chunks := range wrong() {
		refused(t, chunks)
	}
}

// P15.1: one chunk of all sizes around each edge, alone and beside another one.
func TestOneChunk(t *testing.T) {
	for _, n := range []int{0, 1, 2, 64, 1024, most - 1, most, most + 1, most + 2, api.MaxNode - 1, api.MaxNode, api.MaxNode + 1, api.MaxNode + 2, 1<<15 - 1, 1 << 15, 1<<16 - 1, 1 << 16, 1<<16 + 1, 1<<17 + 1} {
		chunk := sample(n, n)
		if 1 <= n && n <= 16384 {
			takes(t, []string{chunk})
		} else {
			refused(t, []string{chunk})
		}
		for _, pack := range [][]string{{chunk, "é!"}, {"é!", chunk}} {
			if 1 <= n && n <= 4093 {
				takes(t, pack)
			} else {
				refused(t, pack)
			}
		}
	}
}

// P15.1: two chunks, and three, that have MaxPack bytes together, and one more, or one less, shared out in all ways.
func TestTwoChunks(t *testing.T) {
	for first := 1; first < most; first += 13 {
		for less := range 3 {
			pack := []string{row(first, 1), row(most-less-first+1, 2)}
			if less == 0 {
				refused(t, pack)
				continue
			}
			takes(t, pack)
		}
		if first == most-1 {
			break
		}
		takes(t, []string{"x", row(first, 1), row(most-first-1, 2)})
		refused(t, []string{"x", row(first, 1), row(most-first, 2)})
		refused(t, []string{row(first, 1), row(most-first-1, 2), "xy"})
	}
}

// P15.1: two that are alike, at all places of a pack, whatever stands between them; such as begin, or end, alike are not.
func TestAlike(t *testing.T) {
	chunks := parted(sample(most-64, 3), 64)
	takes(t, chunks)
	for i := range chunks {
		for j := range len(chunks) + 1 {
			refused(t, slices.Insert(slices.Clone(chunks), j, chunks[i]))
			takes(t, slices.Insert(slices.Clone(chunks), j, chunks[i][:63]))
			takes(t, slices.Insert(slices.Clone(chunks), j, chunks[i][1:]))
			takes(t, slices.Insert(slices.Clone(chunks), j, chunks[i][:63]+string([]byte{chunks[i][63] ^ 1})))
		}
	}
	var rows []string
	for n := 1; n <= 80; n++ {
		rows = append(rows, row(n, 0))
	}
	takes(t, rows)
}

// P15.1: as many chunks as there may be, and one more.
func TestManyChunks(t *testing.T) {
	for n := 1; n <= 256; n++ {
		takes(t, singles(n))
	}
	all := append(singles(256), pairs(1920)...)
	if len(all) != 2176 || len(strings.Join(all, "")) != 4096 {
		t.Fatal(shown(all))
	}
	takes(t, all)
	refused(t, append(all, "abc"))
	refused(t, append(all[:2175:2175], "abc"))
	refused(t, append(all[:2175:2175], "\x00"))
	takes(t, all[:2175])
	takes(t, all[1:])
	takes(t, append(all[1:], "\x00"))
	refused(t, append(all[1:], "ab"))
}

// P15.1, P15.2: no bytes, and each blob that is short, at its end and ahead.
func TestReadShort(t *testing.T) {
	readRefused(t, "no bytes", "")
	for size := range 6 {
		readRefused(t, "the first bytes", "pak1\x00\x01\x00\x01a"[:size])
	}
	for _, chunks := range few() {
		blob := blobOf(chunks)
		for size := range len(blob) {
			readRefused(t, "the first bytes", blob[:size])
			readRefused(t, "the last bytes", blob[len(blob)-size:])
		}
	}
	for _, chunks := range packs() {
		blob, at := blobOf(chunks), placesOf(chunks)
		readRefused(t, "one less", blob[:len(blob)-1])
		readRefused(t, "one less ahead", blob[1:])
		readRefused(t, "without the last chunk", blob[:at[len(at)-1]])
		readRefused(t, "without chunks", blob[:at[0]])
	}
}

// P15.1, P15.2: a byte less, or more, at the end of each blob, at each cut of it, and within.
func TestReadFewerAndMore(t *testing.T) {
	for _, chunks := range few() {
		blob := blobOf(chunks)
		for b := range 256 {
			readRefused(t, "one more behind", blob+row(1, byte(b)))
			readRefused(t, "one more ahead", row(1, byte(b))+blob)
		}
		for place := range len(blob) {
			readAsTold(t, "one less", blob[:place]+blob[place+1:])
			readAsTold(t, "one more", blob[:place]+"\x00"+blob[place:])
			readAsTold(t, "one twice", blob[:place+1]+blob[place:])
		}
	}
	for _, chunks := range packs() {
		blob := blobOf(chunks)
		cuts := []int{4, 6, 8, 6 + 2*len(chunks)}
		for i, at := range placesOf(chunks) {
			cuts = append(cuts, 6+2*i, at, at+len(chunks[i]))
		}
		for _, cut := range cuts[:min(200, len(cuts))] {
			for _, more := range []string{"\x00", "\x01", "\xff", "\x00\x00", "x", "pak1", blob} {
				readAsTold(t, "more at a cut", blob[:cut]+more+blob[cut:])
				if cut >= 6+2*len(chunks) {
					readRefused(t, "more at a cut", blob[:cut]+more+blob[cut:])
				}
			}
			readAsTold(t, "one less at a cut", blob[:cut-1]+blob[cut:])
			readAsTold(t, "all ahead of a cut", blob[:cut])
			readAsTold(t, "all behind a cut", blob[cut:])
		}
		readRefused(t, "twice", blob+blob)
		readRefused(t, "many more", blob+row(1<<20, 0))
	}
}

// P15.1: other first four bytes.
func TestReadMark(t *testing.T) {
	for _, chunks := range few() {
		blob := blobOf(chunks)
		for place := range 4 {
			for more := 1; more < 256; more++ {
				other := []byte(blob)
				other[place] += byte(more)
				readRefused(t, "another mark", string(other))
			}
		}
		for _, mark := range []string{"Pak1", "PAK1", "pak0", "pak2", "1kap", "pack", "man1", "shd1", "\x00\x00\x00\x00", "    ", "", "pak", "ak1", "pak11", "ppak1", " pak1", "pak1\x00"} {
			readRefused(t, mark, mark+blob[4:])
		}
	}
}

// P15.1: a count of 0, one too few, one too many, and any other, the lengths as they are or as many as it says.
func TestReadCounts(t *testing.T) {
	readRefused(t, "no chunks", "pak1\x00\x00")
	readRefused(t, "no chunks, and bytes", "pak1\x00\x00a")
	readRefused(t, "no chunks, and a length", "pak1\x00\x00\x00\x01a")
	for _, chunks := range append(few(), singles(256), pairs(255), pairs(256), pairs(300), []string{row(most, 1)}) {
		right, sizes, behind := len(chunks), sizesOf(chunks), strings.Join(chunks, "")
		readAsTold(t, "counts", bare(right, sizes, behind))
		for _, count := range []int{0, 1, 2, right - 1, right + 1, right + 2, 2 * right, 255, 256, 257, right << 8, right ^ 1<<8, right ^ 1<<15, 1 << 15, 1<<16 - 1} {
			if count == right {
				continue
			}
			what := strconv.Itoa(count) + " instead of " + strconv.Itoa(right)
			readAsTold(t, what, bare(count, sizes, behind))
			if count < right {
				readAsTold(t, what, bare(count, sizes[:count], behind))
				readAsTold(t, what, bare(count, sizes[right-count:], behind))
			} else if count < 1<<15 {
				readRefused(t, what, bare(count, append(slices.Clone(sizes), make([]int, count-right)...), behind))
			}
		}
		readRefused(t, "one too few", bare(right-1, sizes[:right-1], behind))
		readRefused(t, "one too many", bare(right+1, append(slices.Clone(sizes), 0), behind))
		readRefused(t, "one too many", bare(right+1, append([]int{0}, sizes...), behind))
		readRefused(t, "one too many", bare(right+1, append(slices.Clone(sizes), 1), behind))
		readRefused(t, "none", bare(0, nil, behind))
	}
	for count := range 1 << 16 {
		if count != 1 {
			readRefused(t, "any count", bare(count, []int{1}, "a"))
		}
	}
}

// P15.1: of each chunk a length of 0, one too small, one too great, and any other; all bytes are there or as many as the lengths say.
func TestReadLengths(t *testing.T) {
	for _, chunks := range append(few(), []string{row(300, 1), row(256, 2), row(200, 3)}, []string{row(api.MaxNode, 0)}, []string{row(most/2, 0), row(most/2, 1)}) {
		behind := strings.Join(chunks, "")
		for i, right := range sizesOf(chunks) {
			for _, size := range []int{0, 1, right - 1, right + 1, right + 2, right ^ 1<<8, right << 8, 1<<14 - 1, 1 << 14, 1<<14 + 1, 1 << 15, 1<<16 - 1} {
				if size == right || size >= 1<<16 {
					continue
				}
				what := strconv.Itoa(size) + " instead of " + strconv.Itoa(right)
				sizes := sizesOf(chunks)
				sizes[i] = size
				readRefused(t, what, bare(len(chunks), sizes, behind))
				if size < right {
					readAsTold(t, what, bare(len(chunks), sizes, behind[right-size:]))
				} else {
					readAsTold(t, what, bare(len(chunks), sizes, behind+sample(size-right, size)))
				}
				if size == 0 || size > api.MaxNode || size > most && len(chunks) > 1 {
					readRefused(t, what, bare(len(chunks), sizes, (behind + sample(1<<16, size))[:len(behind)+size-right]))
				}
				if i+1 < len(chunks) && sizes[i+1]+right-size >= 0 {
					sizes[i+1] += right - size // the two have as many bytes as they had
					readAsTold(t, what, bare(len(chunks), sizes, behind))
				}
			}
		}
	}
	for size := range 1 << 16 {
		if size != 3 {
			readRefused(t, "any length", bare(1, []int{size}, "abc"))
		}
	}
	for _, size := range []int{1, api.MaxNode, api.MaxNode + 1, api.MaxNode + 2, 1<<15 - 1, 1 << 15, 1<<16 - 1} {
		if size <= api.MaxNode {
			takes(t, []string{sample(size, 1)})
			continue
		}
		readRefused(t, "a length above MaxNode", bare(1, []int{size}, sample(size, 1)))
		readRefused(t, "a length above MaxNode", bare(1, []int{size}, sample(api.MaxNode, 1)))
	}
}

// P15.1: each pair of lengths around MaxPack bytes together, all bytes there.
func TestReadTwoLengths(t *testing.T) {
	for _, first := range []int{1, 2, 255, 256, 1000, most/2 - 1, most / 2, most - 2, most - 1, most, most + 1} {
		for _, second := range []int{1, 2, most - first - 1, most - first, most - first + 1, most - first + 2, most} {
			if second > 0 {
				readAsTold(t, "two lengths", bare(2, []int{first, second}, row(first, 1)+row(second, 2)))
			}
			if second > 0 && first+second > 4096 {
				readRefused(t, "two lengths", bare(2, []int{first, second}, row(first, 1)+row(second, 2)))
			}
		}
	}
	readRefused(t, "two alike", bare(2, []int{1, 1}, "aa"))
	readRefused(t, "two alike, one between", bare(3, []int{1, 2, 1}, "abba"))
	readAsTold(t, "two that are not alike", bare(2, []int{1, 2}, "aaa"))
}

// P15.1, P15.2: each other byte at each place of a blob.
func TestReadAnotherByte(t *testing.T) {
	for _, chunks := range few() {
		blob := blobOf(chunks)
		for place := range len(blob) {
			for more := 1; more < 256; more++ {
				other := []byte(blob)
				other[place] += byte(more)
				readAsTold(t, "another byte at "+strconv.Itoa(place), string(other))
			}
		}
	}
}

// P15.1, P15.2, R1: bytes of any kind, and such as are nearly a pack's, are read as the chapter says, and nothing panics.
func TestReadAnyBytes(t *testing.T) {
	for n := range 400 {
		readRefused(t, "any bytes", sample(n, n))
		readAsTold(t, "any bytes behind the mark", "pak1"+sample(n, n))
		readAsTold(t, "any bytes behind the count", "pak1\x00\x02"+sample(n, n))
		readRefused(t, "noughts", row(n, 0))
		readRefused(t, "noughts behind the mark", "pak1"+row(n, 0))
		readAsTold(t, "a row of bytes behind the mark", "pak1"+row(n, 1))
		readRefused(t, "a row of bytes behind the mark", "pak1"+row(n, 255))
	}
	readRefused(t, "all lengths as great as can be", "pak1"+row(1<<20, 255))
	random := rand.New(rand.NewSource(15))
	read := 0
	for range 40000 {
		count := random.Intn(5)
		var sizes []int
		all := 0
		for range count {
			sizes = append(sizes, random.Intn(4))
			all += sizes[len(sizes)-1]
		}
		if random.Intn(3) == 0 {
			all += random.Intn(3) - 1
		}
		var behind []byte
		for range all {
			behind = append(behind, byte('a'+random.Intn(3)))
		}
		blob := bare(count, sizes, string(behind))
		readAsTold(t, "at random", blob)
		if _, _, e := Read(blob); e == api.OK {
			read++
		}
	}
	if read < 500 {
		t.Error("only", read, "were packs")
	}
}

// P15.3: at its place each chunk stands in the blob; places rise, and all behind the first one is chunks.
func TestPlaces(t *testing.T) {
	for _, chunks := range packs() {
		blob, at, e := Make(chunks)
		if e != api.OK || len(at) != len(chunks) {
			t.Fatalf("Make of %s: %d places, %d", shown(chunks), len(at), e)
		}
		_, to, _ := Read(blob)
		if !slices.Equal(to, at) {
			t.Errorf("%s: Read tells the places %v, Make %v", shown(chunks), to, at)
		}
		if at[0] != 6+2*len(chunks) || blob[at[0]:] != strings.Join(chunks, "") {
			t.Errorf("%s: behind the place %d there is more than chunks, or less", shown(chunks), at[0])
		}
		end := at[0]
		for i, chunk := range chunks {
			if i > 0 && at[i] <= at[i-1] {
				t.Errorf("%s: the place %d is not above %d", shown(chunks), at[i], at[i-1])
			}
			if at[i] != end || at[i]+len(chunk) > len(blob) || blob[at[i]:at[i]+len(chunk)] != chunk {
				t.Errorf("%s: the chunk %d does not stand at %d", shown(chunks), i, at[i])
			}
			end = at[i] + len(chunk)
		}
		if end != len(blob) {
			t.Errorf("%s: the last chunk ends at %d of %d", shown(chunks), end, len(blob))
		}
	}
}

// P15.4: chunks that may be a pack, without each one of them, are one as long as one is left.
func TestWithoutSome(t *testing.T) {
	for _, chunks := range packs() {
		for i := range min(len(chunks), 50) {
			others := slices.Delete(slices.Clone(chunks), i, i+1)
			if len(others) == 0 {
				refused(t, others)
				continue
			}
			takes(t, others)
		}
		for n := 1; n <= len(chunks) && n <= 40; n++ {
			takes(t, chunks[:n])
			takes(t, chunks[len(chunks)-n:])
		}
		for step := 2; step < 6; step++ {
			var some []string
			for i := 0; i < len(chunks); i += step {
				some = append(some, chunks[i])
			}
			takes(t, some)
		}
	}
}

// P15.4: chunks that may be a pack are one in any other row.
func TestOtherRows(t *testing.T) {
	random := rand.New(rand.NewSource(4))
	for _, chunks := range packs() {
		other := slices.Clone(chunks)
		slices.Reverse(other)
		takes(t, other)
		slices.Sort(other)
		takes(t, other)
		for turn := range min(len(chunks), 20) {
			takes(t, slices.Concat(chunks[turn:], chunks[:turn]))
		}
		for range 5 {
			random.Shuffle(len(other), func(i, j int) { other[i], other[j] = other[j], other[i] })
			takes(t, other)
			takes(t, other[:1+random.Intn(len(other))])
		}
	}
}

// The chapter's ways: a text is cut as it is read, and never beyond its end.
func TestCutter(t *testing.T) {
	for _, sizes := range [][]int{{60}, {4, 2, 2, 52}, {0, 1, 0, 59, 0}, {59, 1, 1}, {61}, {30, 40, 5, 0}, {1 << 16}} {
		whole := sample(60, 4)
		take := cutter(whole)
		left := whole
		for _, size := range sizes {
			want := left[:min(size, len(left))]
			left = left[len(want):]
			if part := take(size); part != want {
				t.Errorf("%v: %q, not %q", sizes, part, want)
			}
		}
	}
}

// lent is a text over memory that is written to later, with other bytes around it.
func lent(s string) (string, []byte) {
	room := []byte("ahead" + s + "behind the end")
	return unsafe.String(&room[5], len(s)), room
}

// lentAll are chunks over one memory that is written to later.
func lentAll(chunks []string) ([]string, []byte) {
	text, room := lent(strings.Join(chunks, ""))
	list := make([]string, 0, len(chunks)+3)
	for _, chunk := range chunks {
		list = append(list, text[:len(chunk)])
		text = text[len(chunk):]
	}
	return list, room
}

// R3: what was handed in is not changed, not read beyond its end and not kept: what the caller does to it later shows in no answer.
func TestNothingKept(t *testing.T) {
	for _, chunks := range packs() {
		list, room := lentAll(chunks)
		copy(list[len(list):cap(list)], []string{"behind", "a", ""})
		was := string(room)
		blob, at, e := Make(list)
		if !May(list) || e != api.OK || string(room) != was || !slices.Equal(list, chunks) || !slices.Equal(list[len(list):cap(list)], []string{"behind", "a", ""}) {
			t.Errorf("%s: they were changed, %d", shown(chunks), e)
		}
		clear(room)
		clear(list[:cap(list)])
		if blob != blobOf(chunks) || !slices.Equal(at, placesOf(chunks)) {
			t.Errorf("%s: Make's answer is tied to them", shown(chunks))
		}
		refused(t, list)
	}
	for _, chunks := range packs() {
		blob, room := lent(blobOf(chunks))
		was := string(room)
		back, at, e := Read(blob)
		if e != api.OK || string(room) != was {
			t.Errorf("%s: their blob was changed, %d", shown(chunks), e)
		}
		clear(room)
		if !slices.Equal(back, chunks) || !slices.Equal(at, placesOf(chunks)) {
			t.Errorf("%s: Read's answer is tied to the blob", shown(chunks))
		}
		readRefused(t, "cleared", blob)
	}
}

// R3: what is handed out, its spare room too, is new memory: what is written there shows nowhere.
func TestNewMemory(t *testing.T) {
	for _, chunks := range packs() {
		blob := blobOf(chunks)
		_, at, _ := Make(chunks)
		back, to, _ := Read(blob)
		other, place, _ := Read(blob)
		for _, list := range [][]int{at[:cap(at)], to[:cap(to)]} {
			for i := range list {
				list[i] = -1
			}
		}
		for i := range back {
			if unsafe.StringData(back[i]) == unsafe.StringData(other[i]) {
				t.Errorf("%s: two answers share the chunk %d", shown(chunks), i)
			}
		}
		list := back[:cap(back)]
		for i := range list {
			list[i] = "x"
		}
		if !slices.Equal(other, chunks) || !slices.Equal(place, placesOf(chunks)) {
			t.Errorf("%s: what was written into one answer shows in another one", shown(chunks))
		}
		takes(t, chunks)
	}
}

// R3: no two chunks of an answer share memory, nor one with the blob.
func TestChunksApart(t *testing.T) {
	for _, chunks := range packs() {
		blob := blobOf(chunks)
		back, _, _ := Read(blob)
		type span struct{ from, to uintptr }
		spanOf := func(s string) span {
			from := uintptr(unsafe.Pointer(unsafe.StringData(s)))
			return span{from, from + uintptr(len(s))}
		}
		spans := []span{spanOf(blob)}
		for _, chunk := range back {
			spans = append(spans, spanOf(chunk))
		}
		slices.SortFunc(spans, func(a, b span) int {
			if a.from < b.from {
				return -1
			}
			return 1
		})
		for i := 1; i < len(spans); i++ {
			if spans[i].from < spans[i-1].to {
				t.Errorf("%s: two share memory", shown(chunks))
				break
			}
		}
	}
}

// R2: nothing is left behind: neither the order of calls counts, nor how many there are at a time.
func TestNothingLeft(t *testing.T) {
	all, others := packs(), wrong()
	var wait sync.WaitGroup
	for g := range 8 {
		wait.Go(func() {
			for i := range all {
				takes(t, all[(i*(2*g+1)+g)%len(all)])
				refused(t, others[(i+7*g)%20])
			}
		})
	}
	wait.Wait()
	for range 20 {
		takes(t, []string{"a", "bc"})
		refused(t, []string{"a", "bc", "a"})
		readRefused(t, "one less", "pak1\x00\x02\x00\x01\x00\x02ab")
	}
}
