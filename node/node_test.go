package node

import (
	"math/rand"
	"slices"
	"strings"
	"sync"
	"testing"
	"unsafe"

	"strongbox/api"
)

// row is a byte, n times.
func row(n int, b byte) string { return strings.Repeat(string([]byte{b}), n) }

// some are n digests, no two alike.
func some(n int) []string {
	var digests []string
	for i := range n {
		digests = append(digests, string([]byte{byte(i >> 8), byte(i)})+row(30, byte(7*i)))
	}
	return digests
}

// plain is a file of so many bytes and chunks, dir a directory.
func plain(name string, size, chunks int) Entry {
	return Entry{Name: name, Size: size, Chunks: some(chunks)}
}
func dir(name string) Entry {
	return Entry{Name: name, Dir: true, Chunks: []string{row(32, 'd')}}
}

// numbered is a name of three bytes; they rise as the numbers do.
func numbered(i int) string {
	return string([]byte{'0' + byte(i/100), '0' + byte(i/10%10), '0' + byte(i%10)})
}

// many are n entries of all kinds.
func many(n int) []Entry {
	var l []Entry
	for i := range n {
		switch i % 3 {
		case 0:
			l = append(l, plain(numbered(i), 0, 0))
		case 1:
			l = append(l, dir(numbered(i)))
		case 2:
			l = append(l, plain(numbered(i), 5, 1))
		}
	}
	return l
}

// folder is a directory of many kinds.
func folder() []Entry {
	return []Entry{
		plain("!", 0, 0), dir("..."), plain(".a", 1, 1), plain("A", 1024, 1), dir("a"), plain("a!", 1025, 2), plain("a.b", 2048, 2), plain("aa", 3, 3),
		plain("b", 16384, 16), plain("c", 16384, 40), dir(row(32, 'd')), plain("e", 300, 300/7), plain("~", 2, 1),
	}
}

// grown is a directory of some n, the same one each time; seed says which.
func grown(n, seed int) []Entry {
	r := rand.New(rand.NewSource(int64(seed)))
	var l []Entry
	for range n {
		name := make([]byte, 1+r.Intn(1+r.Intn(32)))
		for i := range name {
			name[i] = "abAB.!~0"[r.Intn(8)]
		}
		e := dir(string(name))
		if r.Intn(4) > 0 {
			chunks := r.Intn(3) * r.Intn(9)
			e = plain(e.Name, min(api.MaxFile, chunks+r.Intn(1+1023*chunks)), chunks)
		}
		if entryAsTold(e) && !slices.ContainsFunc(l, func(o Entry) bool { return o.Name == e.Name }) {
			l = append(l, e)
		}
	}
	slices.SortFunc(l, func(a, b Entry) int {
		if less(a.Name, b.Name) {
			return -1
		}
		return 1
	})
	return l
}

// deep is a list with chunks of its own.
func deep(l []Entry) []Entry {
	own := slices.Clone(l)
	for i := range own {
		own[i].Name = strings.Clone(own[i].Name)
		own[i].Chunks = slices.Clone(own[i].Chunks)
		for j := range own[i].Chunks {
			own[i].Chunks[j] = strings.Clone(own[i].Chunks[j])
		}
	}
	return own
}

// with is a list with another entry at a place.
func with(l []Entry, i int, e Entry) []Entry {
	other := slices.Clone(l)
	other[i] = e
	return other
}

// The chapter's examples.
func TestExamples(t *testing.T) {
	for want, l := range map[string][]Entry{"dir1\x00\x00": nil, "dir1\x00\x01\x00\x01a\x00\x00\x00\x00\x00\x00": {{Name: "a"}}} {
		if s, e := Make(l); s != want || e != api.OK {
			t.Errorf("Make: %q, %v", s, e)
		}
		if back, e := Read(want); !sameAsTold(back, l) || e != api.OK {
			t.Errorf("Read: %s, %v", shown(back), e)
		}
		may(t, l...)
	}
	mayNot(t, Entry{Name: "a", Size: 1})
	mayNot(t, Entry{Name: "a"}, Entry{Name: "a"})
	mayNot(t, Entry{Name: "b"}, Entry{Name: "a"})
	mayNot(t, Entry{Name: "x/y"})
}

// P19.1: a directory's bytes, written out.
func TestWrittenOut(t *testing.T) {
	l := []Entry{
		{Name: "a.b", Size: 0x1234, Chunks: []string{row(32, 1), row(32, 2), row(32, 1), row(32, 3), row(32, 0xff)}},
		{Name: "dd", Dir: true, Chunks: []string{row(32, 9)}},
		{Name: "~"},
	}
	want := "dir1\x00\x03" +
		"\x00\x03a.b\x00\x00\x12\x34\x00\x05" + row(32, 1) + row(32, 2) + row(32, 1) + row(32, 3) + row(32, 0xff) +
		"\x01\x02dd\x00\x00\x00\x00\x00\x01" + row(32, 9) +
		"\x00\x01~\x00\x00\x00\x00\x00\x00"
	if s, e := Make(l); s != want || e != api.OK {
		t.Errorf("Make: %q, %v", s, e)
	}
	if back, e := Read(want); !sameAsTold(back, l) || e != api.OK {
		t.Errorf("Read: %s, %v", shown(back), e)
	}
	// Numbers of more than one byte: 256 entries, 16384 bytes, 256 chunks.
	s, _ := Make(many(256))
	if s[:6] != "dir1\x01\x00" {
		t.Errorf("of 256: %s", brief(s))
	}
	s, _ = Make([]Entry{plain("a", 16384, 258)})
	if s[:15] != "dir1\x00\x01\x00\x01a\x00\x00\x40\x00\x01\x02" || s[15:] != strings.Join(some(258), "") {
		t.Errorf("of 258 chunks: %s", brief(s))
	}
}

// P19.1: names of no bytes, of one, of 32 and of 33, and others, first, in the middle and last.
func TestNameSizes(t *testing.T) {
	for n := range 70 {
		for _, b := range []byte("m!~.") {
			name := row(n, b)
			for _, l := range [][]Entry{{plain(name, 0, 0)}, {dir(name)}, {plain("!", 0, 0), plain(name, 1, 1), plain("~~~~~~", 0, 0)}} {
				list(t, l...)
				if ok := 1 <= n && n <= 32 && name != "." && name != ".."; len(l) == 1 && May(l) != ok {
					t.Errorf("a name of %d: %v", n, May(l))
				}
			}
			list(t, plain(name, 0, 0), dir("~n"))
			list(t, dir("!!"), plain(name, 0, 0))
		}
	}
	for _, n := range []int{96, 97, 255, 256, 257, 288, 1 << 16} {
		mayNot(t, plain(row(n, 'm'), 0, 0))
		mayNot(t, dir("a"), dir(row(n, 'm')))
	}
}

// P19.1: each byte, in a name of one byte, first, within and last.
func TestEachByte(t *testing.T) {
	for b := range 256 {
		byte1 := string([]byte{byte(b)})
		for _, name := range []string{byte1, byte1 + "x", "x" + byte1 + "y", "xy" + byte1, byte1 + byte1 + byte1, row(31, 'x') + byte1} {
			for _, e := range []Entry{plain(name, 0, 0), plain(name, 1, 1), dir(name)} {
				if b < 33 || b > 126 || b == '/' || name == "." {
					mayNot(t, e)
				} else {
					may(t, e)
				}
			}
		}
	}
	for _, name := range []string{"x/y", "/", "/a", "a/", "a//b", "a/b/c", ".", "..", "./a", "a/..", "é", "日本", "a b", "a\x00", "\xc0\xaf"} {
		mayNot(t, plain(name, 0, 0))
		mayNot(t, dir(name))
	}
	for _, name := range []string{"...", ".a", "a.", "..a", "a..", "\\", "a\\b", "-", "*"} {
		may(t, plain(name, 0, 0))
		may(t, dir(name))
	}
}

// P19.1: a directory with a Size other than 0, with no Chunks, one, two, one of 31 bytes and of 33.
func TestDirectories(t *testing.T) {
	for _, around := range []int{0, 1, 2} {
		put := func(size int, chunks ...string) []Entry {
			l := []Entry{plain("a", 0, 0), dir("b"), plain("c", 2, 2)}
			return with(l, around, Entry{Name: l[around].Name, Dir: true, Size: size, Chunks: chunks})
		}
		may(t, put(0, row(32, 'x'))...)
		may(t, put(0, row(32, 0))...)
		for _, size := range []int{-1 << 63, -1 << 32, -1, 1, 2, 32, 1024, 16384, 16385, 1 << 32, 1<<63 - 1} {
			mayNot(t, put(size, row(32, 'x'))...)
			mayNot(t, put(size)...)
		}
		mayNot(t, put(0)...)
		mayNot(t, put(0, []string{}...)...)
		mayNot(t, put(0, row(32, 'x'), row(32, 'y'))...)
		mayNot(t, put(0, row(32, 'x'), row(32, 'x'))...)
		for _, n := range []int{0, 1, 31, 33, 64, 65, 1 << 16} {
			mayNot(t, put(0, row(n, 'x'))...)
			mayNot(t, put(0, row(32, 'x'), row(n, 'x'))...)
			mayNot(t, put(0, row(n, 'x'), row(32, 'x'))...)
		}
	}
}

// P19.1: files of no bytes, and of one, with no Chunks and with some; Size below 0, MaxFile and one more; of each number of Chunks the least and the greatest Size, and beyond.
func TestFiles(t *testing.T) {
	may(t, plain("a", 0, 0))
	may(t, Entry{Name: "a", Chunks: []string{}})
	mayNot(t, plain("a", 0, 1))
	mayNot(t, plain("a", 0, 2))
	mayNot(t, plain("a", 1, 0))
	may(t, plain("a", 1, 1))
	mayNot(t, plain("a", 1, 2))
	for _, size := range []int{-1 << 63, -1<<63 + 1, -1 << 32, -16384, -1024, -2, -1} {
		for _, chunks := range []int{0, 1, 2, 16} {
			mayNot(t, plain("a", size, chunks))
		}
	}
	for _, chunks := range []int{0, 1, 2, 3, 15, 16, 17, 64, 255, 256, 257, 500} {
		most := min(1024*chunks, 16384)
		for _, size := range []int{chunks - 1, chunks, chunks + 1, most - 1, most, most + 1, 1024*chunks - 1, 1024 * chunks, 1024*chunks + 1, 16383, 16384, 16385, 1 << 16, 1 << 24, 1 << 31, 1<<32 + chunks, 1<<63 - 1} {
			if chunks <= size && size <= most {
				may(t, plain("a", size, chunks))
				may(t, dir("A"), plain("a", size, chunks), plain("b", 0, 0))
			} else {
				mayNot(t, plain("a", size, chunks))
				mayNot(t, dir("A"), plain("a", size, chunks), plain("b", 0, 0))
				mayNot(t, plain("a", size, chunks), dir("b"))
				mayNot(t, dir("A"), plain("a", size, chunks))
			}
		}
	}
	may(t, plain("a", 16384, 16384))
	mayNot(t, plain("a", 16384, 16385))
	mayNot(t, plain("a", 16385, 16385))
	mayNot(t, plain("a", 1, 1<<16+1))
}

// P19.1: a chunk that is no digest, first, in the middle and last.
func TestNoDigests(t *testing.T) {
	for _, n := range []int{0, 1, 16, 31, 33, 63, 64, 65, 4096} {
		for _, chunks := range []int{1, 2, 3, 10} {
			for at := range chunks {
				e := plain("b", 900, chunks)
				e.Chunks[at] = row(n, 'x')
				mayNot(t, e)
				mayNot(t, dir("a"), e)
				mayNot(t, e, dir("c"))
				mayNot(t, dir("a"), e, plain("c", 0, 0))
			}
		}
	}
	// Two that would be two digests, were they cut elsewhere: their bytes are another directory's.
	mayNot(t, Entry{Name: "a", Size: 2, Chunks: []string{row(31, 'x'), row(33, 'x')}})
	mayNot(t, Entry{Name: "a", Size: 2, Chunks: []string{row(64, 'x'), ""}})
	may(t, Entry{Name: "a", Size: 3, Chunks: []string{row(32, 'x'), row(32, 'x'), row(32, 'x')}})
}

// P19.1: no entries, one, MaxFiles and one more.
func TestHowMany(t *testing.T) {
	may(t)
	may(t, []Entry{}...)
	may(t, dir("a"))
	for _, n := range []int{1, 2, 3, 254, 255, 256, 257, 258, 512, 999} {
		if n <= api.MaxFiles {
			may(t, many(n)...)
		} else {
			mayNot(t, many(n)...)
		}
	}
	// Counts that, told in two bytes, are none, and one.
	for _, n := range []int{1 << 16, 1<<16 + 1} {
		l := slices.Repeat([]Entry{plain("a", 0, 0)}, n)
		if s, e := Make(l); s != "" || e != api.ErrForm || May(l) {
			t.Errorf("Make of %d: %s, %v", n, brief(s), e)
		}
	}
}

// P19.1: names that rise, that fall, and two that are alike, side by side and apart.
func TestRising(t *testing.T) {
	for _, l := range [][]Entry{folder(), grown(12, 1), many(7)} {
		may(t, l...)
		for i := range l {
			for j := range i {
				other := slices.Clone(l)
				other[i], other[j] = other[j], other[i]
				mayNot(t, other...)
			}
			mayNot(t, slices.Insert(slices.Clone(l), i, l[i])...)
			mayNot(t, append(slices.Clone(l), l[i])...)
			mayNot(t, append([]Entry{l[i]}, l...)...)
		}
		fall := slices.Clone(l)
		slices.Reverse(fall)
		mayNot(t, fall...)
	}
	mayNot(t, plain("a", 0, 0), dir("a"))
	mayNot(t, dir("a"), plain("a", 0, 0))
	mayNot(t, plain("a", 0, 0), plain("a", 1, 1))
	mayNot(t, plain("a", 0, 0), plain("c", 0, 0), plain("b", 0, 0))
	mayNot(t, plain("b", 0, 0), plain("a", 0, 0), plain("c", 0, 0))
}

// P19.1: names of which one begins by the other, and bytes that rise otherwise than letters, or numbers, do.
func TestByteByByte(t *testing.T) {
	for n := 1; n < 32; n++ {
		may(t, plain(row(n, 'a'), 0, 0), plain(row(n+1, 'a'), 0, 0))
		mayNot(t, plain(row(n+1, 'a'), 0, 0), plain(row(n, 'a'), 0, 0))
		may(t, dir(row(n, 'a')), plain(row(n, 'a')+"!", 0, 0))
		mayNot(t, dir(row(n, 'a')+"~"), plain(row(n, 'a'), 0, 0))
	}
	for a := range 256 {
		for b := range 256 {
			one, two := string([]byte{byte(a)}), string([]byte{byte(b)})
			for _, l := range [][]Entry{{{Name: one}, {Name: two}}, {{Name: "x" + one + "z"}, {Name: "x" + two}}} {
				if May(l) != mayAsTold(l) {
					t.Errorf("%s: %v", shown(l), May(l))
				}
			}
		}
	}
	may(t, plain("B", 0, 0), plain("a", 0, 0))
	mayNot(t, plain("a", 0, 0), plain("B", 0, 0))
	may(t, plain("a10", 0, 0), plain("a2", 0, 0))
	mayNot(t, plain("a2", 0, 0), plain("a10", 0, 0))
	may(t, plain("b", 0, 0), plain("ba", 0, 0), plain("c", 0, 0))
}

// P19.1, Read: no bytes, fewer than the mark and the count, each byte of the mark another one.
func TestMark(t *testing.T) {
	whole := bytesAsTold(folder())
	for n := range 6 {
		readNot(t, "dir1\x00\x00"[:n])
		readNot(t, "dir1\x00\x01"[:n])
		readNot(t, row(n, 0))
	}
	read(t, "dir1\x00\x00")
	for at := range 4 {
		for b := range 256 {
			for _, s := range []string{whole, "dir1\x00\x00"} {
				if s[at] != byte(b) {
					readNot(t, s[:at]+string([]byte{byte(b)})+s[at+1:])
				}
			}
		}
	}
	for _, s := range []string{"", "dir", "dir0\x00\x00", "dir2\x00\x00", "DIR1\x00\x00", "1rid\x00\x00", " dir1\x00\x00", "pak1\x00\x00", "\x00\x00", "dir1" + whole} {
		readNot(t, s)
	}
}

// P19.1, Read: a count that is too small, or too large.
func TestCount(t *testing.T) {
	for _, l := range [][]Entry{nil, {dir("a")}, folder(), many(255), many(256)} {
		s := bytesAsTold(l)
		for n := range 1 << 16 {
			if n > 300 && n%251 != 0 && n%256 > 1 && n < 1<<16-3 {
				continue
			}
			other := s[:4] + string([]byte{byte(n >> 8), byte(n)}) + s[6:]
			if n == len(l) {
				read(t, other)
			} else {
				readNot(t, other)
			}
		}
	}
	// Entries enough for the count, but too many.
	readNot(t, bytesAsTold(many(257)))
	readNot(t, "dir1\xff\xff"+row(16000, 0))
}

// P19.1, Read: a first byte of an entry other than 0 and 1; and one that is the other one.
func TestKinds(t *testing.T) {
	l := []Entry{plain("a", 0, 0), dir("b"), plain("c", 2, 1), dir("d")}
	for i := range l {
		s := bytesAsTold(l)
		at := len(bytesAsTold(l[:i]))
		for b := range 256 {
			other := s[:at] + string([]byte{byte(b)}) + s[at+1:]
			if other == s {
				read(t, other)
			} else {
				readNot(t, other)
			}
		}
	}
}

// P19.1, Read: bytes cut short at each place: within a kind, a name, a Size, a count of Chunks, a chunk; and bytes left over.
func TestCutShort(t *testing.T) {
	for _, l := range [][]Entry{{plain("a", 0, 0)}, {dir("abc")}, {plain("abc", 77, 3), dir("b"), plain("x", 0, 0), plain(row(32, 'y'), 2000, 2)}, folder()} {
		s := bytesAsTold(l)
		for n := range len(s) {
			readNot(t, s[:n])
		}
		for _, over := range []string{"x", "\x00", "\x01", row(31, 0), row(32, 0), row(8, 0), "\x00\x01~\x00\x00\x00\x00\x00\x00", s, row(1000, 'x')} {
			readNot(t, s+over)
		}
		for i := 6; i < len(s); i += 1 + len(s)/200 {
			readNot(t, s[:i]+s[i+1:])
			read(t, s[:i]+"\x00"+s[i:])
		}
	}
	for _, over := range []string{"x", "\x00", "dir1\x00\x00"} {
		readNot(t, "dir1\x00\x00"+over)
	}
}

// P19.1, Read: each byte of a directory another one.
func TestEachByteBent(t *testing.T) {
	s := bytesAsTold([]Entry{plain("a", 0, 0), plain("abc", 77, 3), dir("b"), plain("c", 1, 1), plain("dd", 2000, 2)})
	for at := range len(s) {
		for b := range 256 {
			read(t, s[:at]+string([]byte{byte(b)})+s[at+1:])
		}
	}
	r := rand.New(rand.NewSource(3))
	for range 3000 {
		bent := []byte(s)
		for range 1 + r.Intn(4) {
			bent[r.Intn(len(bent))] = byte(r.Intn(4))
		}
		read(t, string(bent))
	}
}

// P19.1, Read: bytes of entries that may not be: each one of which another reader might take.
func TestBytesOfNone(t *testing.T) {
	for _, l := range [][]Entry{
		{plain("", 0, 0)}, {plain(".", 0, 0)}, {plain("..", 0, 0)}, {plain("x/y", 0, 0)}, {plain("a b", 0, 0)}, {plain("é", 0, 0)}, {plain(row(33, 'a'), 0, 0)}, {plain(row(255, 'a'), 0, 0)},
		{plain("a", 1, 0)}, {plain("a", 0, 1)}, {plain("a", 1, 2)}, {plain("a", 1025, 1)}, {plain("a", 16385, 17)}, {plain("a", 1<<31, 1)}, {plain("a", 1<<32-1, 1)}, {plain("a", 400, 401)},
		{{Name: "a", Dir: true}}, {{Name: "a", Dir: true, Size: 1, Chunks: some(1)}}, {{Name: "a", Dir: true, Chunks: some(2)}}, {{Name: "a", Dir: true, Size: 2, Chunks: some(2)}},
		{plain("a", 0, 0), plain("a", 0, 0)}, {dir("b"), dir("a")}, {dir("b"), plain("ba", 0, 0), plain("b", 0, 0)}, many(257),
	} {
		readNot(t, bytesAsTold(l))
		mayNot(t, l...)
	}
}

// exactly are entries of which the bytes are just so many, MaxNode and some more: one entry, or as many as there may be.
func exactly(size int) [][]Entry {
	rest := size - 6 - 8 - 32*511
	one := []Entry{plain(row(rest, 'n'), 16384, 511)}
	all := many(api.MaxFiles)
	rest = size - len(bytesAsTold(all))
	chunks := rest/32 - 1
	all[255].Size, all[255].Chunks = 16384, some(chunks)
	rest -= 32 * chunks
	for i := range all {
		more := min(rest, 29)
		rest -= more
		all[i].Name += row(more, 'n')
	}
	return [][]Entry{one, all}
}

// P19.1: just MaxNode bytes, and one more, made and read.
func TestMaxNode(t *testing.T) {
	for size := api.MaxNode - 10; size <= api.MaxNode+10; size++ {
		for _, l := range exactly(size) {
			want := bytesAsTold(l)
			if len(want) != size || !mayAsTold(l) {
				t.Fatalf("%d are not %d: %s", len(want), size, shown(l))
			}
			may(t, l...)
			s, e := Make(l)
			back, f := Read(want)
			if size <= api.MaxNode && (e != api.OK || f != api.OK || s != want || !sameAsTold(back, l)) {
				t.Errorf("of %d: %v, %v", size, e, f)
			}
			if size > api.MaxNode && (e != api.ErrTooLarge || f != api.ErrForm || s != "" || len(back) != 0) {
				t.Errorf("of %d: %v, %v", size, e, f)
			}
		}
	}
	// Far more than fits, and more where there is also what may not be: that is told first.
	all := many(api.MaxFiles)
	chunks := some(16384)
	for i := range all {
		all[i] = Entry{Name: all[i].Name, Size: 16384, Chunks: chunks}
	}
	if s, e := Make(all); s != "" || e != api.ErrTooLarge || !May(all) {
		t.Errorf("Make of all that there may be: %s, %v", brief(s), e)
	}
	for _, i := range []int{0, 100, 255} {
		if s, e := Make(with(all, i, dir("!/!"))); s != "" || e != api.ErrForm {
			t.Errorf("Make of too much that may not be: %s, %v", brief(s), e)
		}
	}
	for _, n := range []int{api.MaxNode, api.MaxNode + 1, 1 << 20} {
		readNot(t, row(n, 0))
		readNot(t, bytesAsTold(nil)+row(n-6, 0))
	}
}

// same holds Same of two lists, either way round, against the chapter's words, and against what the test says of it.
func same(t *testing.T, a, b []Entry, want bool) {
	t.Helper()
	if Same(a, b) != want || Same(b, a) != want || sameAsTold(a, b) != want {
		t.Errorf("Same of %s and %s: %v, %v", shown(a), shown(b), Same(a, b), Same(b, a))
	}
}

// P19.1, Same: lists of unlike lengths, unlike in each field and in one chunk, in the first, a middle and the last entry; such as may not be.
func TestSame(t *testing.T) {
	same(t, nil, nil, true)
	same(t, nil, []Entry{}, true)
	same(t, []Entry{{Name: "a"}}, []Entry{{Name: "a", Chunks: []string{}}}, true)
	same(t, nil, []Entry{{}}, false)
	same(t, []Entry{{}}, []Entry{{}, {}}, false)
	noOne := []Entry{{Name: "b"}, {Name: "a", Size: -1}, {Name: "/", Dir: true}, {Chunks: []string{"", "x", ""}}, {}, {Name: "b"}}
	for _, l := range [][]Entry{folder(), noOne, grown(9, 3), many(256)} {
		again := deep(l)
		same(t, l, again, true)
		for i, f := range l {
			if i > 12 && i < len(l)-1 {
				continue
			}
			same(t, l, l[:i], false)
			same(t, l, l[i+1:], false)
			same(t, l, slices.Insert(slices.Clone(l), i, f), false)
			for _, g := range unlike(f) {
				same(t, l, with(again, i, g), false)
			}
		}
		reversed := slices.Clone(l)
		slices.Reverse(reversed)
		same(t, l, reversed, slices.EqualFunc(l, reversed, func(a, b Entry) bool { return a.Name == b.Name }))
	}
}

// unlike are entries that are each unlike one in one thing.
func unlike(e Entry) []Entry {
	out := []Entry{
		{Name: e.Name + "x", Dir: e.Dir, Size: e.Size, Chunks: e.Chunks}, {Name: "!" + e.Name, Dir: e.Dir, Size: e.Size, Chunks: e.Chunks},
		{Name: e.Name, Dir: !e.Dir, Size: e.Size, Chunks: e.Chunks}, {Name: e.Name, Dir: e.Dir, Size: e.Size + 1, Chunks: e.Chunks}, {Name: e.Name, Dir: e.Dir, Size: ^e.Size, Chunks: e.Chunks},
		{Name: e.Name, Dir: e.Dir, Size: e.Size, Chunks: append(slices.Clone(e.Chunks), "")}, {Name: e.Name, Dir: e.Dir, Size: e.Size, Chunks: append([]string{row(32, 0xfe)}, e.Chunks...)},
	}
	for at, chunk := range e.Chunks {
		fewer := e
		fewer.Chunks = slices.Delete(slices.Clone(e.Chunks), at, at+1)
		out = append(out, fewer)
		for _, other := range []string{chunk + "\x00", row(32, 0xfe), "other"} {
			one := e
			one.Chunks = slices.Clone(e.Chunks)
			one.Chunks[at] = other
			out = append(out, one)
		}
	}
	return out
}

// P19.2: Read of Make are the entries; Make of Read the bytes.
func TestBack(t *testing.T) {
	for seed := range 120 {
		l := grown(min(1+seed*seed/20, 256), seed)
		s, e := Make(l)
		if e == api.ErrTooLarge && len(bytesAsTold(l)) > api.MaxNode {
			continue
		}
		back, f := Read(s)
		if e != api.OK || f != api.OK || !Same(back, l) || !sameAsTold(back, l) {
			t.Errorf("Read of Make of %s: %s, %v, %v", shown(l), shown(back), e, f)
		}
		if again, e := Make(back); again != s || e != api.OK {
			t.Errorf("Make of Read of %s: %s, %v", brief(s), brief(again), e)
		}
	}
}

// P19.3: entries that may be a directory may be one without some of them.
func TestParts(t *testing.T) {
	for seed := range 20 {
		l := grown(3*seed, seed+500)
		for i := range l {
			may(t, slices.Delete(slices.Clone(l), i, i+1)...)
			may(t, l[:i]...)
			may(t, l[i:]...)
		}
		r := rand.New(rand.NewSource(int64(seed)))
		for range 10 {
			may(t, slices.DeleteFunc(slices.Clone(l), func(Entry) bool { return r.Intn(2) == 0 })...)
		}
	}
	for set := range 1 << 5 {
		var l []Entry
		for i, e := range []Entry{dir("!"), plain("a", 5, 2), plain("aa", 0, 0), dir("b"), plain("~", 16384, 16)} {
			if set>>i&1 == 1 {
				l = append(l, e)
			}
		}
		may(t, l...)
	}
}

// P19.3: two directories, of whose names the first one's all are less, may be one together, if they are not too many.
func TestTogether(t *testing.T) {
	for seed := range 20 {
		l := grown(4*seed, seed+900)
		for i := range l {
			may(t, append(slices.Clone(l[:i]), l[i:]...)...)
			if 0 < i {
				mayNot(t, append(slices.Clone(l[i:]), l[:i]...)...)
			}
		}
	}
	for first := range 200 {
		a, b := many(first), many(256)
		for i := range b {
			b[i].Name = "9" + b[i].Name
		}
		for _, second := range []int{256 - first - 1, 256 - first, 256 - first + 1, 256} {
			l := append(slices.Clone(a), b[:min(second, 256)]...)
			if May(l) != (len(l) <= 256) {
				t.Errorf("%d and %d: %v", first, second, May(l))
			}
		}
	}
}

// lent is a text over memory that is written to later.
func lent(text string) (string, []byte) {
	room := []byte("<" + text + ">")
	return unsafe.String(&room[1], len(text)), room
}

// R3: what is handed in is not changed, and not read beyond its end.
func TestHandedIn(t *testing.T) {
	whole := append(folder(), dir("!"), Entry{Name: "/"})
	for i := range whole {
		whole[i].Chunks = append(whole[i].Chunks, "behind", "x")
		whole[i].Chunks = whole[i].Chunks[:len(whole[i].Chunks)-2]
	}
	was, l := deep(whole), whole[:len(whole)-2]
	s, e := Make(l)
	if !May(l) || e != api.OK || s != bytesAsTold(folder()) || !Same(l, folder()) || !Same(folder(), l) {
		t.Error("what stands behind the end is read:", e)
	}
	if !sameAsTold(whole, was) {
		t.Error("the list is changed:", shown(whole))
	}
	for i := range whole {
		if c := whole[i].Chunks; !slices.Equal(c[len(c):len(c)+2], []string{"behind", "x"}) {
			t.Error("what stands behind the end is changed:", shown(whole[i:i+1]))
		}
	}
}

// R3: nothing that is handed in is kept: neither a list, nor a text.
func TestNotKept(t *testing.T) {
	want := bytesAsTold(folder())
	text, room := lent(want)
	l, e := Read(text)
	if e != api.OK || string(room) != "<"+want+">" {
		t.Error("Read of lent bytes:", e)
	}
	for i := range room {
		room[i] = '#'
	}
	if !sameAsTold(l, folder()) {
		t.Error("what was read is lent:", shown(l))
	}
	var rooms [][]byte
	given := folder()
	for i := range given {
		name, r := lent(given[i].Name)
		given[i].Name, rooms = name, append(rooms, r)
		for j := range given[i].Chunks {
			chunk, r := lent(given[i].Chunks[j])
			given[i].Chunks[j], rooms = chunk, append(rooms, r)
		}
	}
	s, e := Make(given)
	for _, r := range rooms {
		for i := range r {
			r[i] = '#'
		}
	}
	for i := range given {
		clear(given[i].Chunks)
	}
	clear(given)
	if s != want || e != api.OK {
		t.Error("what was made is lent:", brief(s), e)
	}
	// A list that is asked again, behind a write, is another one.
	again := folder()
	for i, f := range again {
		again[i].Name = "/"
		if _, e := Make(again); May(again) || e != api.ErrForm || Same(again, folder()) {
			t.Error("kept:", f.Name)
		}
		again[i] = f
	}
	may(t, again...)
}

// R3: what is handed out is new memory, its spare room too, and no two lists of one answer share any.
func TestHandedOut(t *testing.T) {
	s := bytesAsTold(folder())
	first, _ := Read(s)
	for range 3 {
		l, e := Read(s)
		if e != api.OK || !sameAsTold(l, folder()) {
			t.Error("Read again:", shown(l), e)
		}
		for i := range l {
			c := l[i].Chunks
			c = c[:cap(c)]
			for j := range c {
				c[j] = "#"
			}
			for j := range l {
				if j > i && slices.Contains(l[j].Chunks, "#") {
					t.Error("the chunks share memory:", i, j)
				}
			}
		}
		for i := range l[:cap(l)] {
			l[:cap(l)][i] = Entry{Name: "#"}
		}
	}
	if !sameAsTold(first, folder()) {
		t.Error("answers share memory:", shown(first))
	}
	// What is put behind one list is in no other one.
	for i := range first {
		_ = append(first[i].Chunks, "#")
	}
	if !sameAsTold(first, folder()) {
		t.Error("lists run into one another:", shown(first))
	}
}

// R2: calls leave nothing behind, and may be made at once.
func TestAtOnce(t *testing.T) {
	l, no := folder(), []Entry{plain("x/y", 0, 0)}
	s := bytesAsTold(l)
	var all sync.WaitGroup
	for range 8 {
		all.Go(func() {
			for range 50 {
				made, e := Make(l)
				if _, f := Make(no); made != s || e != api.OK || f != api.ErrForm || !May(l) || May(no) || !Same(l, l) || Same(l, no) {
					t.Error("a list is told otherwise")
				}
				back, e := Read(s)
				if _, f := Read(s[1:]); e != api.OK || f != api.ErrForm || !sameAsTold(back, l) {
					t.Error("bytes are told otherwise")
				}
			}
		})
	}
	all.Wait()
}
