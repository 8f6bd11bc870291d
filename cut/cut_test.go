package cut

import (
	"math/bits"
	"slices"
	"strings"
	"sync"
	"testing"
	"unsafe"

	"strongbox/gear"
)

// sample are n bytes of all kinds, the same ones each time; seed says which.
func sample(n, seed int) string {
	b := make([]byte, n)
	x := uint32(seed)
	for i := range b {
		x = x*1664525 + 1013904223
		b[i] = byte(x >> 24)
	}
	return string(b)
}

// row is one byte, n times. Of no row of 64 bytes, or more, does a hash say that a chunk ends.
func row(n, b int) string { return strings.Repeat(string([]byte{byte(b)}), n) }

// says tells whether the eight highest bits of a text's hash are 0.
func says(text string) bool { return bits.LeadingZeros64(gear.Over(text)) >= 8 }

// ended tells whether a chunk ends by the chapter's words, wherever the data end.
func ended(chunk string) bool {
	return len(chunk) == 1024 || len(chunk) >= 64 && says(chunk)
}

// endsOf is behind which byte each chunk ends by the chapter's words, step by step.
func endsOf(data string) []int {
	var ends []int
	begin, hash := 0, uint64(0)
	for begin < len(data) {
		for n := 1; ; n++ {
			hash = gear.Roll(hash, data[begin+n-1])
			if n == 1024 || n >= 64 && bits.LeadingZeros64(hash) >= 8 || begin+n == len(data) {
				begin, hash = begin+n, 0
				ends = append(ends, begin)
				break
			}
		}
	}
	return ends
}

// steered is a text and two bytes more: the first two with which it is as it is wanted.
func steered(t *testing.T, head string, wanted func(text string) bool) string {
	t.Helper()
	for a := range 256 {
		for b := range 256 {
			if text := head + string([]byte{byte(a), byte(b)}); wanted(text) {
				return text
			}
		}
	}
	t.Fatalf("with no two bytes behind them %d bytes are as they are wanted", len(head))
	return ""
}

// saying are n bytes, 2 at least: their hash says so at the last one and nowhere else, and not in a row of bytes 0 behind them, either.
func saying(t *testing.T, n int) string {
	t.Helper()
	return steered(t, row(n-2, 0), func(text string) bool {
		if !says(text) {
			return false
		}
		long := text + row(66, 0)
		for at := 1; at <= len(long); at++ {
			if says(long[:at]) != (at == n) {
				return false
			}
		}
		return true
	})
}

// texts are data of all kinds.
func texts() []string {
	all := []string{
		"", "a", "ab", "\x00", "\xff", "é", "\xc3", "\xed\xa0\x80", "\xff\xfe\xfd",
		strings.Repeat("é", 2000), strings.Repeat("\xf0\x9f\x94\x91", 900), strings.Repeat("\xc3\x28a\x80", 1500),
		strings.Repeat("To be cut, or not to be cut. ", 400),
		sample(3000, 4) + row(3000, 7) + sample(3000, 4) + row(3000, 0),
		strings.Repeat(sample(100, 1), 90), strings.Repeat(sample(1100, 2), 9),
	}
	for _, n := range []int{1, 2, 62, 63, 64, 65, 66, 127, 128, 129, 500, 1023, 1024, 1025, 1088, 2047, 2048, 2049, 3000, 16383, 16384, 16385, 50000} {
		all = append(all, sample(n, n), sample(n, 3*n+1), row(n, 0), row(n, 255), row(n, 97))
	}
	return all
}

// check holds Ends and Cut against each other and against the ends that are wanted.
func check(t *testing.T, data string, want ...int) {
	t.Helper()
	if ends := Ends(data); !slices.Equal(ends, want) {
		t.Errorf("Ends of %d bytes (%.10q): %v, not %v", len(data), data, ends, want)
	}
	begin := 0
	var chunks []string
	for _, end := range want {
		chunks = append(chunks, data[begin:end])
		begin = end
	}
	if got := Cut(data); !slices.Equal(got, chunks) {
		t.Errorf("Cut of %d bytes (%.10q): %d chunks that are not those of the ends %v", len(data), data, len(got), want)
	}
}

// P14.1: the chapter's examples.
func TestExamples(t *testing.T) {
	if l := Cut(sample(63, 1)); len(l) != 1 || l[0] != sample(63, 1) {
		t.Error("63 bytes:", l)
	}
	if l := Cut(row(1024, 5)); len(l) != 1 || l[0] != row(1024, 5) {
		t.Error("1024 bytes:", l)
	}
	if l := Cut(row(1024, 5) + "x"); len(l) != 2 || l[0] != row(1024, 5) || l[1] != "x" {
		t.Error("1025 bytes:", l)
	}
}

// P14.1: ends that were told outside of the language.
func TestKnown(t *testing.T) {
	check(t, sample(4000, 2654435761*7+1), 553, 906, 1150, 2146, 2413, 2486, 2820, 2919, 3035, 3648, 3751, 4000)
	check(t, sample(20000, 7),
		143, 411, 710, 969, 1384, 1505, 1978, 2311, 2382, 2532, 3098, 3458, 3548, 3710, 3898, 4413, 4769, 5050,
		5210, 5334, 5638, 6012, 6131, 6251, 6582, 7053, 7242, 7653, 7732, 7819, 7894, 8918, 9227, 10152, 10908,
		11186, 11518, 11623, 11742, 12194, 12695, 12846, 13123, 13276, 13524, 13651, 13886, 14106, 14183, 14576,
		14947, 15708, 16028, 16697, 17010, 17149, 17242, 17651, 17819, 17896, 17975, 18087, 18179, 18247, 18565,
		18641, 18862, 19097, 19230, 19351, 20000)
}

// P14.1: no bytes; one; around 64; around 1024 and 2048 bytes of which no hash says so.
func TestSizes(t *testing.T) {
	check(t, "")
	for _, n := range []int{1, 2, 62, 63, 64, 65, 66, 128, 1022, 1023, 1024} {
		check(t, row(n, 0), n)
	}
	for _, n := range []int{1025, 1026, 1087, 1088, 1089, 2047, 2048} {
		check(t, row(n, 0), 1024, n)
	}
	check(t, row(2049, 0), 1024, 2048, 2049)
	check(t, row(3072, 0), 1024, 2048, 3072)
}

// P14.1: rows of each of the 256 bytes: no hash says so.
func TestRows(t *testing.T) {
	for b := range 256 {
		check(t, row(1, b), 1)
		check(t, row(63, b), 63)
		check(t, row(1023, b), 1023)
		check(t, row(1024, b), 1024)
		check(t, row(2500, b), 1024, 2048, 2500)
	}
}

// P14.1: a hash that says so ahead of byte 64 ends no chunk; at it, and behind it, it does; where the chunk has 1024 bytes there is one end; and so where the data end.
func TestHashSays(t *testing.T) {
	for n := 2; n < 64; n++ {
		text := saying(t, n)
		check(t, text, n)
		check(t, text+row(200, 0), n+200)
		check(t, text+row(1024-n, 0), 1024)
		check(t, text+row(1025-n, 0), 1024, 1025)
	}
	for _, n := range []int{64, 65, 66, 67, 100, 127, 128, 129, 500, 1022, 1023, 1024} {
		text := saying(t, n)
		check(t, text, n)
		check(t, text+"\x00", n, n+1)
		check(t, text+row(200, 0), n, n+200)
		check(t, text+row(1025, 0), n, n+1024, n+1025)
	}
	check(t, saying(t, 1025), 1024, 1025)
	check(t, saying(t, 1025)+row(200, 0), 1024, 1225)
	check(t, saying(t, 1088), 1024, 1088)
	check(t, saying(t, 1088)+row(200, 0), 1024, 1088, 1288)
}

// P14.1: a hash that says so ahead of byte 64, and again at it, or behind it.
func TestHashSaysTwice(t *testing.T) {
	for _, first := range []int{2, 40, 62, 63} {
		for _, n := range []int{max(64, first+2), 66, 100, 1023, 1024} {
			text := steered(t, saying(t, first)+row(n-first-2, 0), says)
			check(t, text, endsOf(text)...)
			if ends := Ends(text + "x"); ends[0] < 64 || !slices.Contains(ends, n) {
				t.Errorf("said so at %d and %d: %v", first, n, ends)
			}
		}
	}
}

// P14.1: eight bits, the highest ones, and no others.
func TestEightBits(t *testing.T) {
	for _, x := range []struct {
		name   string
		wanted func(h uint64) bool
		ends   bool
	}{
		{"just seven are 0", func(h uint64) bool { return h>>56 == 1 }, false},
		{"all but the highest are 0", func(h uint64) bool { return h>>56 == 128 }, false},
		{"the lowest are 0", func(h uint64) bool { return h&255 == 0 && h>>56 != 0 }, false},
		{"all are 1", func(h uint64) bool { return h>>56 == 255 }, false},
		{"just eight are 0", func(h uint64) bool { return h>>55 == 1 }, true},
		{"nine are 0", func(h uint64) bool { return h>>55 == 0 }, true},
		{"eight are 0, the lowest are not", func(h uint64) bool { return h>>56 == 0 && h&255 != 0 }, true},
	} {
		for _, n := range []int{64, 65, 300} {
			text := steered(t, row(n-2, 0), func(text string) bool {
				return !says(text[:n-1]) && x.wanted(gear.Over(text))
			})
			if ends := Ends(text + row(9, 0)); slices.Contains(ends, n) != x.ends {
				t.Errorf("%s behind %d bytes: %v", x.name, n, ends)
			}
		}
	}
}

// P14.1: behind a chunk the next one begins, its size and its hash from 0 on. Of the hash that shows only so far: where it may end a chunk, it is of bytes of that chunk alone (P13.2).
func TestNextChunk(t *testing.T) {
	for _, first := range []string{saying(t, 64), saying(t, 100), saying(t, 1024), row(1024, 0)} {
		n := len(first)
		for k := 2; k < 64; k++ {
			check(t, first+saying(t, k), n, n+k)
			check(t, first+saying(t, k)+row(200, 0), n, n+k+200)
		}
		for _, k := range []int{64, 65, 700, 1023, 1024} {
			check(t, first+saying(t, k), n, n+k)
			check(t, first+saying(t, k)+row(50, 0), n, n+k, n+k+50)
		}
		check(t, first+row(2049, 0), n, n+1024, n+2048, n+2049)
	}
}

// P14.1: what is ahead of a chunk does not count for it: each one, and all from each one on, are cut alone as they are there.
func TestEachAlone(t *testing.T) {
	for _, data := range texts() {
		if len(data) > 20000 {
			continue
		}
		chunks, end := Cut(data), 0
		for i, chunk := range chunks {
			end += len(chunk)
			if !slices.Equal(Cut(chunk), chunks[i:i+1]) {
				t.Errorf("%d bytes (%.10q): the chunk %d alone is cut in another way", len(data), data, i)
			}
			if !slices.Equal(Cut(data[end:]), chunks[i+1:]) {
				t.Errorf("%d bytes (%.10q): what stands behind the end %d alone is cut in another way", len(data), data, end)
			}
		}
	}
}

// P14.1: many chunks, of data of all kinds, such as are no text too, by the words, step by step.
func TestByWords(t *testing.T) {
	for _, data := range texts() {
		check(t, data, endsOf(data)...)
	}
	for n := range 400 {
		data := sample(8*n, 70+n)
		check(t, data, endsOf(data)...)
	}
}

// P14.1: the bytes of runes are cut as any others: a chunk may end within one.
func TestNoText(t *testing.T) {
	check(t, strings.Repeat("€", 400), 1024, 1200)
	check(t, strings.Repeat("\xff\xfe\xfd", 400), endsOf(strings.Repeat("\xff\xfe\xfd", 400))...)
	if l := Cut(strings.Repeat("€", 400)); len(l) != 2 || l[0][1023] != "€"[0] || l[1][:2] != "€"[1:] {
		t.Error("not cut within a rune:", len(l))
	}
}

// P14.1: a great many bytes.
func TestMany(t *testing.T) {
	data := strings.Repeat(sample(99991, 5), 40)
	check(t, data, endsOf(data)...)
}

// P14.2: the chunks, put together, are the data; each has 1 to 1024 bytes, all but the last one 64 at least; Ends are where they end.
func TestWhole(t *testing.T) {
	for _, data := range texts() {
		chunks, ends := Cut(data), Ends(data)
		if strings.Join(chunks, "") != data {
			t.Errorf("%d bytes (%.10q): the chunks are not the data", len(data), data)
		}
		if len(chunks) != len(ends) {
			t.Fatalf("%d bytes (%.10q): %d chunks, %d ends", len(data), data, len(chunks), len(ends))
		}
		ahead := 0
		for i, chunk := range chunks {
			last := i == len(chunks)-1
			if len(chunk) < 1 || len(chunk) > 1024 || !last && len(chunk) < 64 {
				t.Errorf("%d bytes (%.10q): the chunk %d of %d has %d bytes", len(data), data, i, len(chunks), len(chunk))
			}
			if !last && !ended(chunk) {
				t.Errorf("%d bytes (%.10q): nothing says that the chunk %d ends", len(data), data, i)
			}
			if ahead += len(chunk); ends[i] != ahead {
				t.Errorf("%d bytes (%.10q): the chunk %d ends at %d, not at %d", len(data), data, i, ahead, ends[i])
			}
		}
		if ahead != len(data) {
			t.Errorf("%d bytes (%.10q): the last end is %d", len(data), data, ahead)
		}
	}
}

// beginAlike checks of two data that the chunks that end within what is alike are the same, and counts them. Where one's chunk ends for want of data alone, the other's may go on.
func beginAlike(t *testing.T, a, b string) int {
	t.Helper()
	alike := 0
	for alike < min(len(a), len(b)) && a[alike] == b[alike] {
		alike++
	}
	chunks, others := Cut(a), Cut(b)
	end := 0
	for i, chunk := range chunks {
		if end += len(chunk); end > alike || !ended(chunk) {
			return i
		}
		if i == len(others) || others[i] != chunk {
			t.Errorf("%d and %d bytes, %d alike: the chunk %d is not the same", len(a), len(b), alike, i)
			return i
		}
	}
	return len(chunks)
}

// goOnAlike checks of two data that from an end that both have, and behind which both go on alike, the chunks are the same, and counts those behind the first such end.
func goOnAlike(t *testing.T, a, b string) int {
	t.Helper()
	most, chunks, others := 0, Cut(a), Cut(b)
	ends, otherEnds := Ends(a), Ends(b)
	for i, p := range ends {
		for j, q := range otherEnds {
			if a[p:] != b[q:] {
				continue
			}
			rest := chunks[i+1:]
			if !slices.Equal(rest, others[j+1:]) {
				t.Errorf("%d and %d bytes, alike behind the ends %d and %d: the chunks are not the same", len(a), len(b), p, q)
			}
			most = max(most, len(rest))
		}
	}
	return most
}

// P14.3: a byte put, changed or taken away ahead of all, in the middle and at the end leaves the chunks elsewhere as they are.
func TestChange(t *testing.T) {
	for seed := range 6 {
		data := sample(16384, 50+seed)
		all := len(Cut(data))
		for _, at := range []int{0, 1, 63, 64, 65, 8191, 8192, 9000, 16320, 16383, 16384} {
			changes := []string{data[:at] + "x" + data[at:], data[:at] + "\x00" + data[at:]}
			if at < len(data) {
				changes = append(changes, data[:at]+data[at+1:], data[:at]+string([]byte{data[at] + 1})+data[at+1:])
			}
			for _, other := range changes {
				check(t, other, endsOf(other)...)
				ahead, behind := beginAlike(t, data, other), goOnAlike(t, data, other)
				if beginAlike(t, other, data) != ahead || goOnAlike(t, other, data) != behind {
					t.Errorf("%d bytes, a change at %d: the other way round other chunks are the same", len(data), at)
				}
				if ahead+behind < all-8 {
					t.Errorf("%d bytes, a change at %d: of %d chunks %d ahead of it and %d behind it are the same", len(data), at, all, ahead, behind)
				}
			}
		}
	}
}

// P14.3: two data that begin alike, one of them the other one's beginning, too.
func TestBeginAlike(t *testing.T) {
	for seed := range 4 {
		first := sample(5000, 80+seed)
		for _, n := range []int{0, 1, 63, 64, 65, 1023, 1024, 1025, 2000, 4999, 5000} {
			a, b := first[:n]+sample(700, 1+seed), first[:n]+"\x80"+sample(900, 2+seed)
			beginAlike(t, a, b)
			beginAlike(t, b, a)
			beginAlike(t, first[:n], first)
			beginAlike(t, first, first[:n])
		}
		for i, end := range Ends(first) {
			if end == len(first) {
				break
			}
			if got := beginAlike(t, first[:end], first); got != i+1 {
				t.Errorf("%d bytes of which %d chunks are all: %d are the same", end, i+1, got)
			}
			if got := beginAlike(t, first, first[:end]+"\x01"+first[end:]); got < i+1 {
				t.Errorf("a byte put behind %d chunks: %d are the same", i+1, got)
			}
		}
	}
	for _, n := range []int{64, 200, 1024} {
		text := saying(t, n)
		if beginAlike(t, text, text+"x") != 1 || beginAlike(t, text+"x", text+"yz") != 1 {
			t.Errorf("%d bytes of which the hash says so, and others behind them: another chunk", n)
		}
	}
	if beginAlike(t, row(1024, 0), row(1025, 0)) != 1 || beginAlike(t, row(1023, 0), row(1025, 0)) != 0 {
		t.Error("rows of a byte: other chunks")
	}
}

// P14.3: two data that go on alike behind an end that both have, at one place or at two.
func TestGoOnAlike(t *testing.T) {
	tails := []string{"", "x", row(2000, 3), sample(63, 5), sample(64, 5), sample(3000, 6), strings.Repeat("é", 700)}
	heads := []string{saying(t, 64), saying(t, 65), saying(t, 1024), row(1024, 9), row(5000, 1) + saying(t, 120)}
	for seed := range 4 {
		data := sample(4000, 30+seed)
		heads = append(heads, data[:Ends(data)[1]], data[:Ends(data)[4]])
	}
	for _, tail := range tails {
		for _, a := range heads {
			for _, b := range heads {
				if got := goOnAlike(t, a+tail, b+tail); got < len(Cut(tail)) {
					t.Errorf("%d bytes behind %d and %d others: of %d chunks %d are the same", len(tail), len(a), len(b), len(Cut(tail)), got)
				}
			}
			if !slices.Equal(Cut(a+tail), append(Cut(a), Cut(tail)...)) {
				t.Errorf("%d bytes behind %d others that end as a chunk: other chunks than alone", len(tail), len(a))
			}
		}
	}
}

// The ends are told until whoever asks has enough.
func TestEnough(t *testing.T) {
	data := sample(9000, 8)
	want := Ends(data)
	for enough := range len(want) + 1 {
		var got []int
		for end := range endings(data) {
			if got = append(got, end); len(got) >= enough {
				break
			}
		}
		if !slices.Equal(got, want[:max(1, enough)]) {
			t.Errorf("%d ends were enough: %v", enough, got)
		}
	}
}

// R3: what is handed in is not changed, not read beyond its ends, and not kept: the chunks are new memory.
func TestNothingKept(t *testing.T) {
	for _, n := range []int{1, 63, 64, 65, 1023, 1024, 1025, 5000} {
		room := []byte("ahead" + sample(n, n) + "behind" + row(100, 0))
		was := string(room)
		data := unsafe.String(&room[5], n)
		chunks, ends := Cut(data), Ends(data)
		if string(room) != was {
			t.Errorf("%d bytes: they were changed", n)
		}
		copy(room, "AHEAD")
		copy(room[5+n:], "BEHIND"+row(100, 1))
		if !slices.Equal(Cut(data), chunks) || !slices.Equal(Ends(data), ends) {
			t.Errorf("%d bytes: what stands around them counts", n)
		}
		for i := range n {
			room[5+i] = 'x'
		}
		if strings.Join(chunks, "") != was[5:5+n] {
			t.Errorf("%d bytes that were written over: the chunks were written over, too", n)
		}
		if !slices.Equal(Cut(data), Cut(row(n, 'x'))) {
			t.Errorf("%d bytes that were written over: what stood there first was kept", n)
		}
	}
}

// R3: what is handed out, its spare room too, is new memory: what is written there shows nowhere.
func TestNewMemory(t *testing.T) {
	data := sample(9000, 12)
	want := endsOf(data)
	chunks, ends := Cut(data), Ends(data)
	chunks, ends = chunks[:cap(chunks)], ends[:cap(ends)]
	more, others := Cut(data), Ends(data)
	for i := range chunks {
		chunks[i] = "x"
	}
	for i := range ends {
		ends[i] = -1
	}
	if strings.Join(more, "") != data || !slices.Equal(others, want) {
		t.Error("what was written into one answer shows in another one")
	}
	check(t, data, want...)
}

// R2: nothing is left behind: neither the order of calls counts, nor how many there are at a time.
func TestNothingLeft(t *testing.T) {
	all := texts()
	var wait sync.WaitGroup
	for g := range 8 {
		wait.Go(func() {
			for i := range all {
				data := all[(i*(2*g+1)+g)%len(all)]
				if ends := Ends(data); !slices.Equal(ends, endsOf(data)) || len(Cut(data)) != len(ends) {
					t.Errorf("%d bytes (%.10q), many at a time: %v", len(data), data, ends)
				}
			}
		})
	}
	wait.Wait()
	check(t, "")
	check(t, "a", 1)
}
