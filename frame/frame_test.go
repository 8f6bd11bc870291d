package frame

import (
	"crypto/sha256"
	"encoding/binary"
	"math"
	"math/rand"
	"slices"
	"strconv"
	"strings"
	"testing"
	"unsafe"

	"strongbox/api"
)

const (
	most = api.MaxStores
	// room is how long a body may be.
	room = api.MaxObject - 50
)

func sum(s string) string {
	d := sha256.Sum256([]byte(s))
	return string(d[:])
}

// sample are n bytes of all kinds, the same ones each time; seed says which.
func sample(n, seed int) string {
	b := make([]byte, n)
	x := uint32(seed)*2654435761 + 1
	for i := range b {
		x = x*1664525 + 1013904223
		b[i] = byte(x >> 24)
	}
	return string(b)
}

// ahead are bytes ahead of the digest, straight by the chapter's words, whatever the numbers.
func ahead(epoch, gen uint32, k, n byte, count uint32, body string) string {
	b := []byte("man1")
	b = binary.BigEndian.AppendUint32(b, epoch)
	b = binary.BigEndian.AppendUint32(b, gen)
	b = append(b, k, n)
	b = binary.BigEndian.AppendUint32(b, count)
	return string(b) + body
}

func sealed(text string) string { return text + sum(text) }

func bytesOf(f Frame) string {
	return sealed(ahead(uint32(f.Stamp.Epoch), uint32(f.Stamp.Gen), byte(f.Code.K), byte(f.Code.N), uint32(len(f.Body)), f.Body))
}

// frameOf says of bytes by the chapter's words whether they are a frame's, and which.
func frameOf(data string) (Frame, bool) {
	if len(data) < 50 || len(data) > 65536 || data[:4] != "man1" {
		return Frame{}, false
	}
	number := func(at int) int64 { return int64(binary.BigEndian.Uint32([]byte(data[at : at+4]))) }
	epoch, gen, k, n, count := number(4), number(8), int(data[12]), int(data[13]), number(14)
	end := len(data) - 32
	if epoch > 2147483647 || gen > 2147483647 || k < 1 || n < k || n > 12 || count != int64(end-18) || data[end:] != sum(data[:end]) {
		return Frame{}, false
	}
	return Frame{Stamp: api.Stamp{Epoch: int(epoch), Gen: int(gen)}, Code: api.Code{K: k, N: n}, Body: data[18:end]}, true
}

// codes are all that may be.
func codes() []api.Code {
	var all []api.Code
	for n := 1; n <= most; n++ {
		for k := 1; k <= n; k++ {
			all = append(all, api.Code{K: k, N: n})
		}
	}
	return all
}

// wrongCodes may not be.
func wrongCodes() []api.Code {
	all := []api.Code{
		{K: 0, N: 0}, {K: 0, N: 1}, {K: 0, N: most}, {K: 1, N: 0}, {K: 2, N: 1}, {K: 3, N: 2}, {K: most, N: most - 1},
		{K: 1, N: most + 1}, {K: most, N: most + 1}, {K: most + 1, N: most + 1}, {K: most + 1, N: most},
		{K: -1, N: 3}, {K: -3, N: -1}, {K: -1, N: -1}, {K: 1, N: -1}, {K: 2, N: 256}, {K: 2, N: 259}, {K: 258, N: 3}, {K: 258, N: 259},
	}
	for _, far := range []int{math.MaxInt, math.MinInt, math.MaxInt32, math.MinInt32, 1 << 32, 1<<32 + 2} {
		all = append(all, api.Code{K: far, N: far}, api.Code{K: 1, N: far}, api.Code{K: far, N: 3})
	}
	return all
}

// counts may be an epoch, or a generation.
func counts() []int {
	return []int{0, 1, 2, 127, 128, 255, 256, 257, 65535, 65536, 1<<24 - 1, 1 << 24, 0x01020304, 0x7e7d7c7b, api.MaxCount - 1, api.MaxCount}
}

// wrongCounts may not be, though the last bytes of some could.
func wrongCounts() []int {
	return []int{-1, -2, -256, -api.MaxCount, math.MinInt32, math.MinInt, api.MaxCount + 1, api.MaxCount + 2, 1<<32 - 1, 1 << 32, 1<<32 + 1, 1 << 40, math.MaxInt}
}

// bodies are some of many lengths, one among them that is itself the bytes of a frame.
func bodies() []string {
	all := []string{"", "\x00", "x", "abc", "man1", strings.Repeat("\x00", 31), strings.Repeat("\xff", 32), bytesOf(plain())}
	for _, n := range []int{33, 49, 50, 51, 255, 256, 257, 1000} {
		all = append(all, sample(n, n))
	}
	return all
}

func plain() Frame {
	return Frame{Stamp: api.Stamp{Epoch: 1, Gen: 2}, Code: api.Code{K: 2, N: 3}, Body: "x"}
}

// samples are frames with few bytes, so that each place can be gone over.
func samples() []Frame {
	return []Frame{
		plain(),
		{Code: api.Code{K: 1, N: 1}},
		{Stamp: api.Stamp{Epoch: 0x01020304, Gen: 0x05060708}, Code: api.Code{K: 9, N: 10}, Body: "abc"},
		{Stamp: api.Stamp{Epoch: api.MaxCount, Gen: api.MaxCount}, Code: api.Code{K: 12, N: 12}, Body: sample(40, 3)},
		{Stamp: api.Stamp{Epoch: 1, Gen: 1}, Code: api.Code{K: 1, N: 12}, Body: "\x00"},
	}
}

func takes(t *testing.T, f Frame) {
	t.Helper()
	want := bytesOf(f)
	if s, e := Make(f); e != api.OK || s != want {
		t.Fatalf("Make of %v, %v, %d bytes: %.100q, %d", f.Stamp, f.Code, len(f.Body), s, e)
	}
	if back, e := Read(want); e != api.OK || back != f {
		t.Fatalf("Read of %v, %v, %d bytes: %v, %v, %.100q, %d", f.Stamp, f.Code, len(f.Body), back.Stamp, back.Code, back.Body, e)
	}
}

func makeRefused(t *testing.T, f Frame, want api.Errno) {
	t.Helper()
	if s, e := Make(f); e != want || s != "" {
		t.Errorf("Make of %v, %v, %d bytes: %.100q, %d, not %d", f.Stamp, f.Code, len(f.Body), s, e, want)
	}
}

func readRefused(t *testing.T, what, data string) {
	t.Helper()
	if f, e := Read(data); e != api.ErrForm || f != (Frame{}) {
		t.Errorf("%s: Read of %d bytes, %.100q: %v, %v, %.100q, %d", what, len(data), data, f.Stamp, f.Code, f.Body, e)
	}
}

// readAsTold holds Read against the chapter's words, and Make of what it read against the bytes.
func readAsTold(t *testing.T, what, data string) {
	t.Helper()
	want, is := frameOf(data)
	if !is {
		readRefused(t, what, data)
		return
	}
	if f, e := Read(data); e != api.OK || f != want {
		t.Errorf("%s: Read of %.100q: %v, %v, %.100q, %d", what, data, f.Stamp, f.Code, f.Body, e)
	}
	if s, e := Make(want); e != api.OK || s != data {
		t.Errorf("%s: Make of Read of %.100q: %.100q, %d", what, data, s, e)
	}
}

// The chapter's examples.
func TestExamples(t *testing.T) {
	want := "man1\x00\x00\x00\x01\x00\x00\x00\x02\x02\x03\x00\x00\x00\x01x"
	s, e := Make(plain())
	if e != api.OK || s != want+sum(want) || len(s) != 51 {
		t.Errorf("Make: %q, %d", s, e)
	}
	if !Less(api.Stamp{Epoch: 1, Gen: 9}, api.Stamp{Epoch: 2, Gen: 0}) {
		t.Error("Less")
	}
	makeRefused(t, Frame{Stamp: api.Stamp{Epoch: 1, Gen: 2}, Code: api.Code{K: 3, N: 2}, Body: "x"}, api.ErrArg)
	readRefused(t, "17 bytes", s[:17])
	readRefused(t, "17 bytes", s[34:])
}

// P11.1: a frame's bytes, told by hand: each number has another byte in each place.
func TestMakeByHand(t *testing.T) {
	body := strings.Repeat("y", 0x1234)
	s, e := Make(Frame{Stamp: api.Stamp{Epoch: 0x7a6b5c4d, Gen: 0x1f2e3d4c}, Code: api.Code{K: 7, N: 11}, Body: body})
	start := "man1\x7a\x6b\x5c\x4d\x1f\x2e\x3d\x4c\x07\x0b\x00\x00\x12\x34"
	if e != api.OK || len(s) != 50+0x1234 || !strings.HasPrefix(s, start) || s[18:18+0x1234] != body || s[18+0x1234:] != sum(start+body) {
		t.Errorf("%.60q, %d bytes, %d", s, len(s), e)
	}
	s, e = Make(Frame{Code: api.Code{K: 1, N: 1}})
	start = "man1\x00\x00\x00\x00\x00\x00\x00\x00\x01\x01\x00\x00\x00\x00"
	if e != api.OK || len(s) != 50 || s != start+sum(start) {
		t.Errorf("no byte of a body: %q, %d", s, e)
	}
}

// P11.1, P11.2: all codes, stamps at the edges, bodies of none, few and many bytes.
func TestBack(t *testing.T) {
	for i, c := range codes() {
		for j, epoch := range counts() {
			gen := counts()[(i+j)%len(counts())]
			takes(t, Frame{Stamp: api.Stamp{Epoch: epoch, Gen: gen}, Code: c, Body: bodies()[(i+j)%len(bodies())]})
		}
		for _, body := range bodies() {
			takes(t, Frame{Stamp: api.Stamp{Epoch: i, Gen: i * i}, Code: c, Body: body})
		}
	}
	for _, epoch := range counts() {
		for _, gen := range counts() {
			takes(t, Frame{Stamp: api.Stamp{Epoch: epoch, Gen: gen}, Code: api.Code{K: 3, N: 5}})
			takes(t, Frame{Stamp: api.Stamp{Epoch: epoch, Gen: gen}, Code: api.Code{K: 12, N: 12}, Body: "abc"})
		}
	}
	for n := range 300 {
		takes(t, Frame{Stamp: api.Stamp{Epoch: n, Gen: 300 - n}, Code: api.Code{K: 5, N: 12}, Body: sample(n, n)})
	}
	for _, f := range samples() {
		takes(t, f)
	}
}

// P11.1, P11.2: a frame of just MaxObject bytes, and of one more, which Make and Read refuse each in its way.
func TestBackLong(t *testing.T) {
	for _, c := range []api.Code{{K: 1, N: 1}, {K: 2, N: 3}, {K: 12, N: 12}} {
		for _, n := range []int{4096, 65279, 65280, 65281, room - 256, room - 1, room} {
			f := Frame{Stamp: api.Stamp{Epoch: n, Gen: api.MaxCount}, Code: c, Body: sample(n, n)}
			takes(t, f)
			if n == room && len(bytesOf(f)) != 65536 {
				t.Error(len(bytesOf(f)))
			}
		}
		for _, n := range []int{room + 1, room + 2, room + 50, room + 51, 2 * api.MaxObject, 1 << 24} {
			f := Frame{Stamp: api.Stamp{Epoch: 1, Gen: 1}, Code: c, Body: strings.Repeat("x", n)}
			makeRefused(t, f, api.ErrTooLarge)
			if n < 1<<20 {
				readRefused(t, "too long", bytesOf(f))
			}
		}
	}
}

// P11.1: what Make refuses, and in which order: that the frame may not be goes ahead of its size.
func TestMakeRefused(t *testing.T) {
	long := strings.Repeat("x", room+1)
	for _, body := range []string{"", "x", long[:room], long} {
		for _, c := range wrongCodes() {
			for _, count := range []int{0, 1, api.MaxCount, -1, api.MaxCount + 1} {
				makeRefused(t, Frame{Stamp: api.Stamp{Epoch: count, Gen: 1}, Code: c, Body: body}, api.ErrArg)
				makeRefused(t, Frame{Stamp: api.Stamp{Epoch: 1, Gen: count}, Code: c, Body: body}, api.ErrArg)
			}
		}
		for _, wrong := range wrongCounts() {
			for _, other := range append(counts(), wrongCounts()...) {
				makeRefused(t, Frame{Stamp: api.Stamp{Epoch: wrong, Gen: other}, Code: api.Code{K: 2, N: 3}, Body: body}, api.ErrArg)
				makeRefused(t, Frame{Stamp: api.Stamp{Epoch: other, Gen: wrong}, Code: api.Code{K: 2, N: 3}, Body: body}, api.ErrArg)
			}
		}
	}
	makeRefused(t, Frame{}, api.ErrArg)
	for _, c := range codes() {
		makeRefused(t, Frame{Stamp: api.Stamp{Epoch: api.MaxCount, Gen: 0}, Code: c, Body: long}, api.ErrTooLarge)
		makeRefused(t, Frame{Stamp: api.Stamp{Epoch: 0, Gen: api.MaxCount}, Code: c, Body: long}, api.ErrTooLarge)
	}
}

// P11.1: no bytes, and fewer than the shortest frame has, the digest put right or not.
func TestReadShort(t *testing.T) {
	readRefused(t, "no bytes", "")
	start := ahead(0, 0, 1, 1, 0, "")
	shortest := sealed(start)
	if len(shortest) != 50 {
		t.Fatal(len(shortest))
	}
	readAsTold(t, "the shortest", shortest)
	for size := range len(shortest) {
		readRefused(t, "the first bytes", shortest[:size])
		readRefused(t, "the last bytes", shortest[50-size:])
		readRefused(t, "noughts", strings.Repeat("\x00", size))
		readRefused(t, "any bytes", sample(size, size))
	}
	for size := range len(start) {
		readRefused(t, "the first bytes, sealed", sealed(start[:size]))
		readRefused(t, "the last bytes, sealed", sealed(start[18-size:]))
	}
}

// P11.1: other first bytes, the digest put right.
func TestReadMark(t *testing.T) {
	for _, f := range samples() {
		text := bytesOf(f)
		text = text[:len(text)-32]
		for place := range 4 {
			for more := 1; more < 256; more++ {
				other := []byte(text)
				other[place] += byte(more)
				readRefused(t, "another mark", sealed(string(other)))
			}
		}
		for _, mark := range []string{"Man1", "MAN1", "man0", "man2", "1nam", "shd1", "\x00\x00\x00\x00", "    "} {
			readRefused(t, mark, sealed(mark+text[4:]))
		}
		for _, mark := range []string{"", "man", "an1", "man11", "mman1", " man1", "man1\x00"} {
			readRefused(t, mark, sealed(mark+text[4:]))
		}
	}
}

// P11.1: an epoch or a generation of all sizes, the digest put right: above MaxCount they are none.
func TestReadStamps(t *testing.T) {
	edges := []uint32{0, 1, 255, 256, 1 << 24, 1<<31 - 2, 1<<31 - 1, 1 << 31, 1<<31 + 1, 1<<31 + 255, 1<<32 - 2, 1<<32 - 1}
	for _, epoch := range edges {
		for _, gen := range edges {
			for _, body := range []string{"", "abc"} {
				data := sealed(ahead(epoch, gen, 2, 3, uint32(len(body)), body))
				readAsTold(t, "stamps", data)
				if epoch > api.MaxCount || gen > api.MaxCount {
					readRefused(t, "stamps", data)
				}
			}
		}
	}
}

// P11.1: all pairs of bytes as a code, the digest put right.
func TestReadCodes(t *testing.T) {
	taken := 0
	for k := range 256 {
		for n := range 256 {
			data := sealed(ahead(5, 6, byte(k), byte(n), 2, "ab"))
			if k >= 1 && k <= n && n <= 12 {
				readAsTold(t, "codes", data)
				taken++
				continue
			}
			readRefused(t, "codes", data)
		}
	}
	if taken != len(codes()) {
		t.Error(taken, "codes")
	}
}

// P11.1: a count that is not how many bytes Body has, the digest put right.
func TestReadCounts(t *testing.T) {
	for _, size := range []int{0, 1, 2, 31, 32, 33, 50, 255, 256, 257, 1000, 65280, room - 1, room} {
		right := uint32(size)
		body := strings.Repeat("b", size)
		readAsTold(t, "counts", sealed(ahead(1, 2, 2, 3, right, body)))
		wrong := []uint32{
			0, 1, right - 1, right + 1, right + 2, right - 2, right + 32, right - 32, right + 18, right + 50, right ^ 1, right ^ 128, right ^ 256, right ^ 1<<15, right + 1<<16, right ^ 1<<24,
			right ^ 1<<31, -right, ^right, 1 << 31, 1<<31 - 1, 1<<31 - 50, 1<<32 - 1, 1<<32 - 50, 1<<32 - 32, right<<8 | right>>24, right<<16 | right>>16, right<<24 | right>>8,
		}
		for _, count := range wrong {
			if count != right {
				readRefused(t, "count "+strconv.Itoa(int(count))+" of "+strconv.Itoa(size), sealed(ahead(1, 2, 2, 3, count, body)))
			}
		}
	}
}

// P11.1, P11.3: another byte in the place of each one of the digest's, and digests of other bytes.
func TestReadDigests(t *testing.T) {
	for _, f := range append(samples(), Frame{Code: api.Code{K: 2, N: 3}, Body: sample(2000, 1)}) {
		data := bytesOf(f)
		text, digest := data[:len(data)-32], data[len(data)-32:]
		for place := len(text); place < len(data); place++ {
			for more := 1; more < 256; more++ {
				other := []byte(data)
				other[place] += byte(more)
				readRefused(t, "another byte at "+strconv.Itoa(place), string(other))
			}
		}
		backwards := []byte(digest)
		slices.Reverse(backwards)
		for _, other := range []string{
			sum(""), sum(f.Body), sum(data), sum(text[4:]), sum(text[:len(text)-1]), sum(text + "\x00"), sum(text[:18]), sum(digest), sum("man1"), string(backwards),
			digest[1:] + digest[:1], digest[16:] + digest[:16], strings.Repeat("\x00", 32), strings.Repeat("\xff", 32), text[:18] + "01234567890123",
		} {
			if other != digest {
				readRefused(t, "another digest", text+other)
			}
		}
	}
}

// P11.3: with a byte less, or more, behind, ahead or within, bytes are no frame's.
func TestFewerAndMore(t *testing.T) {
	for _, f := range samples() {
		data := bytesOf(f)
		text := data[:len(data)-32]
		readRefused(t, "one less behind", data[:len(data)-1])
		readRefused(t, "one less ahead", data[1:])
		for b := range 256 {
			more := string([]byte{byte(b)})
			readRefused(t, "one more behind", data+more)
			readRefused(t, "one more ahead", more+data)
			readRefused(t, "one more behind the body, sealed", sealed(text+more))
		}
		readRefused(t, "one less behind, sealed", sealed(text[:len(text)-1]))
		for size := range len(data) {
			readRefused(t, "the first bytes", data[:size])
			readRefused(t, "the last bytes", data[len(data)-size:])
		}
		for place := range len(data) {
			readRefused(t, "one less", data[:place]+data[place+1:])
			readRefused(t, "one more", data[:place]+"\x00"+data[place:])
		}
		for place := range len(text) {
			readAsTold(t, "one less, sealed", sealed(text[:place]+text[place+1:]))
			readAsTold(t, "one more, sealed", sealed(text[:place]+"x"+text[place:]))
			readAsTold(t, "one twice, sealed", sealed(text[:place+1]+text[place:]))
		}
		for _, more := range []string{data, text, sum(data), strings.Repeat("\x00", 100), strings.Repeat("x", api.MaxObject), strings.Repeat("x", 1<<22)} {
			readRefused(t, "more", data+more)
			readRefused(t, "more ahead", more+data)
			readRefused(t, "more, sealed", sealed(text+more))
		}
	}
	full := bytesOf(Frame{Code: api.Code{K: 2, N: 3}, Body: sample(room, 1)})
	readAsTold(t, "full", full)
	readRefused(t, "full, one less behind", full[:len(full)-1])
	readRefused(t, "full, one more behind", full+"\x00")
}

// P11.1, P11.2: each other byte at each place, as it is and with the digest put right.
func TestAnotherByte(t *testing.T) {
	for _, f := range samples() {
		data := bytesOf(f)
		for place := range len(data) - 32 {
			for more := 1; more < 256; more++ {
				other := []byte(data)
				other[place] += byte(more)
				readRefused(t, "another byte", string(other))
				readAsTold(t, "another byte, sealed", sealed(string(other[:len(data)-32])))
			}
		}
	}
}

// P11.1, P11.2, R1: bytes of any kind, and frames with a few bytes of any kind, are read as the chapter says, and nothing panics.
func TestAnyBytes(t *testing.T) {
	for n := range 400 {
		text := sample(n, n)
		readRefused(t, "any bytes", text)
		readAsTold(t, "any bytes, sealed", sealed(text))
		readAsTold(t, "any bytes behind the mark, sealed", sealed("man1"+text))
	}
	random := rand.New(rand.NewSource(11))
	read := 0
	for range 20000 {
		size := random.Intn(6)
		b := []byte(ahead(random.Uint32(), random.Uint32(), byte(random.Intn(15)), byte(random.Intn(15)), uint32(size+random.Intn(2)), sample(size, random.Int())))
		if random.Intn(4) == 0 {
			b[random.Intn(len(b))] = byte(random.Intn(256))
		}
		data := sealed(string(b))
		readAsTold(t, "at random", data)
		if _, e := Read(data); e == api.OK {
			read++
		}
	}
	if read < 500 {
		t.Error("only", read, "were frames")
	}
}

// stamps are a few by the edges, also such as no frame has.
func stamps() []api.Stamp {
	var all []api.Stamp
	for _, epoch := range []int{math.MinInt, -1, 0, 1, 2, 9, api.MaxCount, math.MaxInt} {
		for _, gen := range []int{math.MinInt, -1, 0, 1, 2, 9, api.MaxCount, math.MaxInt} {
			all = append(all, api.Stamp{Epoch: epoch, Gen: gen})
		}
	}
	return all
}

// P11.1: all pairs of stamps, that stand here in order, each once.
func TestLess(t *testing.T) {
	all := stamps()
	for i, a := range all {
		for j, b := range all {
			if Less(a, b) != (i < j) {
				t.Errorf("Less of %v and %v: %v", a, b, i >= j)
			}
		}
	}
}

// P11.4: of two stamps just one is less, or they are the same; what is less than what is less is less.
func TestInARow(t *testing.T) {
	for _, a := range stamps() {
		for _, b := range stamps() {
			ways := 0
			for _, holds := range []bool{Less(a, b), Less(b, a), a == b} {
				if holds {
					ways++
				}
			}
			if ways != 1 {
				t.Errorf("%v, %v: %v, %v", a, b, Less(a, b), Less(b, a))
			}
			for _, c := range stamps() {
				if Less(a, b) && Less(b, c) && !Less(a, c) {
					t.Errorf("%v, %v, %v", a, b, c)
				}
			}
		}
	}
}

// The chapter's ways: no part that is cut off runs into the next one, and together they are the list.
func TestPartsApart(t *testing.T) {
	whole := sample(60, 4)
	for _, sizes := range [][]int{{60}, {4, 4, 4, 2, 4, 10, 32}, {0, 1, 0, 59, 0}, {30, 30}, {59, 1}} {
		list := append(make([]byte, 0, 100), whole...)
		take := cutter(list)
		var parts [][]byte
		for _, size := range sizes {
			part := take(size)
			if len(part) != size || cap(part) != size {
				t.Errorf("%v: a part of %d bytes, with room for %d", sizes, len(part), cap(part))
			}
			parts = append(parts, part)
		}
		for _, part := range parts {
			_ = append(part, "xxxx"...)
		}
		if string(slices.Concat(parts...)) != whole || string(list) != whole {
			t.Errorf("%v: %q", sizes, parts)
		}
	}
}

// The chapter's ways: what is cut off of a list leaves it as it is, with what stands behind its end.
func TestToldLeavesList(t *testing.T) {
	for _, f := range samples() {
		data := bytesOf(f)
		long := []byte(data + "behind the end")
		if got := told(long[:len(data)]); got != f {
			t.Errorf("told: %v, %v, %q", got.Stamp, got.Code, got.Body)
		}
		if string(long) != data+"behind the end" {
			t.Errorf("the list is another one: %q", long)
		}
	}
}

// lent is a text over memory that is written to later.
func lent(s string) (string, []byte) {
	b := []byte(s)
	return unsafe.String(unsafe.SliceData(b), len(b)), b
}

// R3: what was handed in is not changed, and not kept: what the caller does to it later shows in no answer.
func TestNothingKept(t *testing.T) {
	for _, f := range samples() {
		data := bytesOf(f)
		body, memory := lent(f.Body)
		made, e := Make(Frame{Stamp: f.Stamp, Code: f.Code, Body: body})
		if string(memory) != f.Body || e != api.OK {
			t.Errorf("Make changed its frame: %q, %d", memory, e)
		}
		clear(memory)
		if made != data {
			t.Errorf("Make's answer is tied to the body: %q", made)
		}
		text, memory := lent(data)
		back, e := Read(text)
		if string(memory) != data || e != api.OK {
			t.Errorf("Read changed its bytes: %q, %d", memory, e)
		}
		clear(memory)
		if back != f {
			t.Errorf("Read's answer is tied to the bytes: %q", back.Body)
		}
	}
}

// R2: the same again is answered the same, whatever was asked between.
func TestSameAgain(t *testing.T) {
	data := bytesOf(plain())
	for range 20 {
		for _, f := range samples() {
			takes(t, f)
		}
		readRefused(t, "bent", data[:18]+"y"+data[19:])
		makeRefused(t, Frame{Code: api.Code{K: 3, N: 2}}, api.ErrArg)
		makeRefused(t, Frame{Code: api.Code{K: 2, N: 3}, Body: strings.Repeat("x", room+1)}, api.ErrTooLarge)
		if Less(plain().Stamp, plain().Stamp) {
			t.Fatal("Less of the same stamp")
		}
	}
}
