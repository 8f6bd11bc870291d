package shard

import (
	"crypto/sha256"
	"encoding/binary"
	"encoding/hex"
	"math"
	"strconv"
	"strings"
	"testing"
	"unsafe"

	"strongbox/api"
)

const (
	most = api.MaxStores
	// room is how long a payload may be.
	room = api.MaxObject - 75
)

func sum(s string) string {
	d := sha256.Sum256([]byte(s))
	return string(d[:])
}

// sample are n bytes of all kinds, the same ones each time; seed says which.
func sample(n, seed int) string {
	b := make([]byte, n)
	x := uint32(seed)*2654435761 + 1
	for i := range b {
		x = x*1664525 + 1013904223
		b[i] = byte(x >> 24)
	}
	return string(b)
}

func nameOf(digest string, index int) string {
	return hex.EncodeToString([]byte(digest)) + "." + strconv.Itoa(index)
}

// body are bytes ahead of the last digest, straight by the chapter's words, whatever the numbers.
func body(k, n, index byte, count uint32, digest, payload string) string {
	var four [4]byte
	binary.BigEndian.PutUint32(four[:], count)
	return "shd1" + string([]byte{k, n, index}) + string(four[:]) + digest + payload
}

func sealed(body string) string { return body + sum(body) }

func objectOf(s Shard) api.Object {
	text := body(byte(s.Code.K), byte(s.Code.N), byte(s.Index), uint32(len(s.Payload)), s.Digest, s.Payload)
	return api.Object{Name: nameOf(s.Digest, s.Index), Data: sealed(text)}
}

// codes are all that may be.
func codes() []api.Code {
	var all []api.Code
	for n := 1; n <= most; n++ {
		for k := 1; k <= n; k++ {
			all = append(all, api.Code{K: k, N: n})
		}
	}
	return all
}

// wrongCodes may not be.
func wrongCodes() []api.Code {
	all := []api.Code{
		{K: 0, N: 0}, {K: 0, N: 1}, {K: 0, N: most}, {K: 1, N: 0}, {K: 2, N: 1}, {K: 3, N: 2}, {K: most, N: most - 1},
		{K: 1, N: most + 1}, {K: most, N: most + 1}, {K: most + 1, N: most + 1}, {K: most + 1, N: most},
		{K: -1, N: 3}, {K: -3, N: -1}, {K: -1, N: -1}, {K: 1, N: -1}, {K: 2, N: 256}, {K: 2, N: 259}, {K: 258, N: 3}, {K: 258, N: 259},
	}
	for _, far := range []int{math.MaxInt, math.MinInt, math.MaxInt32, math.MinInt32, 1 << 32, 1<<32 + 2} {
		all = append(all, api.Code{K: far, N: far}, api.Code{K: 1, N: far}, api.Code{K: far, N: 3})
	}
	return all
}

// digests are 32 bytes of several kinds.
func digests() []string {
	return []string{sum("blob"), sum(""), strings.Repeat("\x00", 32), strings.Repeat("\xff", 32), strings.Repeat(".", 32), sample(32, 7)}
}

// payloads are some of many lengths, one among them that is itself the bytes of a shard.
func payloads() []string {
	all := []string{"", "\x00", "a", "abc", "shd1", strings.Repeat("\x00", 31), strings.Repeat("\xff", 32), objectOf(plain()).Data}
	for _, n := range []int{33, 74, 75, 76, 255, 256, 257, 1000} {
		all = append(all, sample(n, n))
	}
	return all
}

func plain() Shard {
	return Shard{Code: api.Code{K: 2, N: 4}, Digest: sum("blob"), Index: 3, Payload: "abc"}
}

func takes(t *testing.T, s Shard) {
	t.Helper()
	want := objectOf(s)
	o, e := Make(s)
	if e != api.OK || o != want {
		t.Fatalf("Make of %v, %d, %d bytes: %.100q, %d", s.Code, s.Index, len(s.Payload), o, e)
	}
	back, e := Read(want)
	if e != api.OK || back != s {
		t.Fatalf("Read of %v, %d, %d bytes: %.100q, %d", s.Code, s.Index, len(s.Payload), back.Payload, e)
	}
	digest, index, is := Parse(o.Name)
	if digest != s.Digest || index != s.Index || !is {
		t.Fatalf("Parse of %q: %x, %d, %v", o.Name, digest, index, is)
	}
}

func makeRefused(t *testing.T, s Shard, want api.Errno) {
	t.Helper()
	if o, e := Make(s); e != want || o != (api.Object{}) {
		t.Errorf("Make of %v, a digest of %d bytes, %d, %d bytes: %.100q, %d, not %d", s.Code, len(s.Digest), s.Index, len(s.Payload), o, e, want)
	}
}

func readRefused(t *testing.T, what string, o api.Object) {
	t.Helper()
	if s, e := Read(o); e != api.ErrForm || s != (Shard{}) {
		t.Errorf("%s: Read of %.100q: %v, %d, %.100q, %d", what, o, s.Code, s.Index, s.Payload, e)
	}
}

func parseRefused(t *testing.T, name string) {
	t.Helper()
	if digest, index, is := Parse(name); digest != "" || index != 0 || is {
		t.Errorf("Parse of %.100q: %q, %d, %v", name, digest, index, is)
	}
}

// The chapter's examples.
func TestExamples(t *testing.T) {
	noughts := strings.Repeat("\x00", 32)
	name := strings.Repeat("0", 64)
	if got := Name(noughts, 3); got != name+".3" {
		t.Error("Name:", got)
	}
	if digest, index, is := Parse(name + ".3"); digest != noughts || index != 3 || !is {
		t.Errorf("Parse: %x, %d, %v", digest, index, is)
	}
	parseRefused(t, name+".03")
	parseRefused(t, name+".12")
	parseRefused(t, name+".")
	if o, e := Make(Shard{Code: api.Code{K: 2, N: 3}, Digest: noughts}); e != api.OK || len(o.Data) != 75 {
		t.Error("Make:", len(o.Data), e)
	}
}

// P6.1: all codes with numbers around what may be, and some far away.
func TestCode(t *testing.T) {
	for k := -2; k <= most+3; k++ {
		for n := -2; n <= most+3; n++ {
			may := k >= 1 && n >= k && n <= 12
			if Code(api.Code{K: k, N: n}) != may {
				t.Errorf("Code of %d, %d: %v", k, n, !may)
			}
		}
	}
	for _, c := range wrongCodes() {
		if Code(c) {
			t.Error("Code of", c)
		}
	}
}

// P6.1: names of whatever: digests of any length, indexes of any size and sign.
func TestName(t *testing.T) {
	for _, x := range []struct {
		digest string
		index  int
		want   string
	}{
		{"", 0, ".0"}, {"", -1, ".-1"}, {"\x00\xff", 12, "00ff.12"}, {"abc", 100, "616263.100"}, {".", -12, "2e.-12"},
		{"\x0f\xf0", math.MaxInt64, "0ff0.9223372036854775807"}, {"\x9a", math.MinInt64, "9a.-9223372036854775808"},
	} {
		if got := Name(x.digest, x.index); got != x.want {
			t.Errorf("Name of %q, %d: %s", x.digest, x.index, got)
		}
	}
	for _, size := range []int{0, 1, 31, 32, 33, 64, 1000} {
		for _, index := range []int{-100, -1, 0, 1, 9, 10, 11, 12, 99, math.MinInt, math.MaxInt} {
			digest := sample(size, size)
			if got := Name(digest, index); got != nameOf(digest, index) {
				t.Errorf("Name of %x, %d: %s", digest, index, got)
			}
		}
	}
}

// P6.1, P6.4: the names of all shards that may be.
func TestParse(t *testing.T) {
	for _, digest := range digests() {
		for index := range most {
			for _, name := range []string{Name(digest, index), nameOf(digest, index)} {
				if d, i, is := Parse(name); d != digest || i != index || !is {
					t.Errorf("Parse of %s: %x, %d, %v", name, d, i, is)
				}
			}
		}
		for _, index := range []int{-1, -3, -11, 12, 13, 19, 20, 100, 111, 256, 259, math.MaxInt, math.MinInt} {
			parseRefused(t, nameOf(digest, index))
		}
	}
}

// P6.1: behind the dot stands no other form of a number.
func TestParseNumbers(t *testing.T) {
	start := strings.Repeat("0a", 32) + "."
	if _, index, is := Parse(start + "11"); index != 11 || !is {
		t.Fatal(index, is)
	}
	for _, number := range []string{
		"", ".", "..", "+", "-", " ", "+3", "-0", "+0", "-3", "--3", "++3", "+-3", "00", "03", "003", "011", "000000000000003", " 3", "3 ", "3\n", "\t3", "3\x00", "\x003",
		"0x3", "0X3", "0b1", "0o3", "1_1", "_3", "3_", "1e0", "3e0", "3.", "3.0", ".3", "3.3", "0.3", "3,0", "a", "b", "A", "3a", "\xb3", "\xd9\xa3", "\uff13", "x",
		"12", "13", "21", "99", "99999999999999999999", "18446744073709551619", "4294967299", "-4294967293", "9223372036854775808", "-9223372036854775808",
	} {
		parseRefused(t, start+number)
	}
	// Each text of one or two bytes that may stand there.
	for i := range 1 << 16 {
		number := string([]byte{byte(i >> 8), byte(i)})
		if number == "10" || number == "11" {
			continue
		}
		if _, _, is := Parse(start + number); is {
			parseRefused(t, start+number)
		}
	}
	for b := range 256 {
		number := string([]byte{byte(b)})
		_, index, is := Parse(start + number)
		if is != (b >= '0' && b <= '9') || is && index != b-'0' || !is && index != 0 {
			t.Errorf("Parse of %q: %d, %v", start+number, index, is)
		}
	}
}

// P6.1: ahead of the dot stand 64 hex signs, and no others.
func TestParseDigests(t *testing.T) {
	full := hex.EncodeToString([]byte(sum("blob")))
	for size := range 140 {
		name := strings.Repeat("a", size)
		parseRefused(t, name)
		parseRefused(t, name+"3")
		parseRefused(t, name+"..3")
		parseRefused(t, "."+name+".3")
		if size != 64 {
			parseRefused(t, name+".3")
		}
	}
	for _, name := range []string{
		"", ".", "3", ".3", "m0", "m1", full, full + "3", full + " .3", " " + full + ".3", full + ",3", full + "\x00.3", full[:63] + "..3", full + "." + full,
		full[:63] + ".3", full[:62] + ".3", full + "0.3", full + "00.3", full[:32] + "." + full[32:], full[:32] + "." + full[32:] + ".3", full + ".3.", full + ".3.3", full + ".3\x00",
		strings.ToUpper(full) + ".3", "A" + full[1:] + ".3", full[:63] + "F.3", strings.Repeat("A", 64) + ".3", full[:63] + "g.3", full[:62] + "0x.3", sum("blob") + ".3", sum("a") + sum("b") + ".3",
		strings.Repeat(full, 1000) + ".3", full + "." + strings.Repeat("0", 1000) + "3", full + "." + strings.Repeat("3", 100000),
	} {
		parseRefused(t, name)
	}
	for place := range 64 {
		for b := range 256 {
			name := full[:place] + string([]byte{byte(b)}) + full[place+1:] + ".7"
			_, _, is := Parse(name)
			if is != strings.Contains("0123456789abcdef", string([]byte{byte(b)})) {
				t.Errorf("Parse of %q: %v", name, is)
			}
			if !is {
				parseRefused(t, name)
			}
		}
	}
}

// P6.2, P6.3: of all codes the indexes at the edges, with several digests and payloads.
func TestBack(t *testing.T) {
	for _, c := range codes() {
		for index := range c.N {
			takes(t, Shard{Code: c, Digest: sum("blob"), Index: index, Payload: "abc"})
			takes(t, Shard{Code: c, Digest: sum(strconv.Itoa(index)), Index: index})
		}
		for i, payload := range payloads() {
			takes(t, Shard{Code: c, Digest: digests()[i%len(digests())], Index: i % c.N, Payload: payload})
		}
	}
	for n := range 300 {
		takes(t, Shard{Code: api.Code{K: 5, N: 12}, Digest: sum("blob"), Index: 11, Payload: sample(n, n)})
	}
}

// P6.2, P6.3: the longest payloads, and one byte more.
func TestBackLong(t *testing.T) {
	for _, c := range []api.Code{{K: 1, N: 1}, {K: 2, N: 3}, {K: 12, N: 12}} {
		for _, n := range []int{4096, 65280, 65279, room - 256, room - 1, room} {
			s := Shard{Code: c, Digest: sum("long"), Index: c.N - 1, Payload: sample(n, n)}
			takes(t, s)
			if o := objectOf(s); n == room && len(o.Data) != api.MaxObject {
				t.Error(len(o.Data))
			}
		}
		for _, n := range []int{room + 1, room + 2, api.MaxObject, api.MaxObject + 1, 2 * api.MaxObject, 1 << 24} {
			s := Shard{Code: c, Digest: sum("long"), Index: c.N - 1, Payload: strings.Repeat("x", n)}
			makeRefused(t, s, api.ErrTooLarge)
			if n < 1<<20 {
				readRefused(t, "too long", objectOf(s))
			}
		}
	}
}

// P6.2: a shard's bytes, told by hand.
func TestMakeByHand(t *testing.T) {
	digest := sample(32, 1)
	o, e := Make(Shard{Code: api.Code{K: 7, N: 12}, Digest: digest, Index: 11, Payload: strings.Repeat("x", 0x1234)})
	start := "shd1\x07\x0c\x0b\x00\x00\x12\x34" + digest
	if e != api.OK || o.Name != hex.EncodeToString([]byte(digest))+".11" || len(o.Data) != 75+0x1234 {
		t.Fatal(o.Name, len(o.Data), e)
	}
	if !strings.HasPrefix(o.Data, start+"xxx") || o.Data[len(start):len(o.Data)-32] != strings.Repeat("x", 0x1234) {
		t.Errorf("%.60q", o.Data)
	}
	if o.Data[len(o.Data)-32:] != sum(o.Data[:len(o.Data)-32]) {
		t.Errorf("the last 32 bytes: %x", o.Data[len(o.Data)-32:])
	}
}

// P6.2: what Make refuses, and in which order: all that is wrong of the shard goes ahead of its size.
func TestMakeRefused(t *testing.T) {
	long := strings.Repeat("x", room+1)
	for _, payload := range []string{"", "abc", long[:room], long} {
		for _, c := range wrongCodes() {
			for _, digest := range []string{sum("blob"), sample(31, 1), ""} {
				for _, index := range []int{0, 1, -1, most, c.N - 1, c.N} {
					makeRefused(t, Shard{Code: c, Digest: digest, Index: index, Payload: payload}, api.ErrArg)
				}
			}
		}
		for _, size := range []int{0, 1, 16, 31, 33, 63, 64, 65, 1000} {
			for _, index := range []int{0, 2, -1, 3} {
				makeRefused(t, Shard{Code: api.Code{K: 2, N: 3}, Digest: sample(size, size), Index: index, Payload: payload}, api.ErrArg)
			}
		}
		for _, c := range codes() {
			for _, index := range []int{-1, -c.N, c.N, c.N + 1, most, most + 1, 255, 256, -256, 1 << 32, math.MaxInt, math.MinInt} {
				if index < 0 || index >= c.N {
					makeRefused(t, Shard{Code: c, Digest: sum("blob"), Index: index, Payload: payload}, api.ErrArg)
				}
			}
		}
	}
	makeRefused(t, Shard{}, api.ErrArg)
	for _, c := range codes() {
		makeRefused(t, Shard{Code: c, Digest: sum("blob"), Index: c.N - 1, Payload: long}, api.ErrTooLarge)
	}
}

// samples are shards with few bytes, so that each place can be gone over.
func samples() []Shard {
	return []Shard{
		plain(),
		{Code: api.Code{K: 1, N: 1}, Digest: strings.Repeat("\x00", 32), Index: 0},
		{Code: api.Code{K: 12, N: 12}, Digest: sum("twelve"), Index: 11, Payload: sample(40, 3)},
		{Code: api.Code{K: 1, N: 12}, Digest: sum("one"), Index: 0, Payload: "\x00"},
	}
}

// P6.3: with fewer bytes, or more, ahead, behind or within, an object is none, also if what is left, or added, is sealed anew.
func TestFewerAndMore(t *testing.T) {
	for _, s := range samples() {
		o := objectOf(s)
		name, text := o.Name, o.Data[:len(o.Data)-32]
		for size := range len(o.Data) {
			readRefused(t, "the first bytes", api.Object{Name: name, Data: o.Data[:size]})
			readRefused(t, "the last bytes", api.Object{Name: name, Data: o.Data[len(o.Data)-size:]})
		}
		for place := range len(text) {
			readRefused(t, "the first bytes, sealed", api.Object{Name: name, Data: sealed(text[:place])})
			readRefused(t, "one less, sealed", api.Object{Name: name, Data: sealed(text[:place] + text[place+1:])})
			readRefused(t, "one more, sealed", api.Object{Name: name, Data: sealed(text[:place] + "x" + text[place:])})
			readRefused(t, "one twice, sealed", api.Object{Name: name, Data: sealed(text[:place+1] + text[place:])})
		}
		for place := range len(o.Data) + 1 {
			readRefused(t, "one more", api.Object{Name: name, Data: o.Data[:place] + "\x00" + o.Data[place:]})
			if place < len(o.Data) {
				readRefused(t, "one less", api.Object{Name: name, Data: o.Data[:place] + o.Data[place+1:]})
			}
		}
		for _, more := range []string{"\x00", "x", o.Data, sum(o.Data), strings.Repeat("\x00", 100), strings.Repeat("x", api.MaxObject), strings.Repeat("x", 1<<22)} {
			readRefused(t, "more", api.Object{Name: name, Data: o.Data + more})
			readRefused(t, "more ahead", api.Object{Name: name, Data: more + o.Data})
			readRefused(t, "more, sealed", api.Object{Name: name, Data: sealed(text + more)})
		}
	}
	readRefused(t, "nothing", api.Object{})
	readRefused(t, "no name", api.Object{Data: objectOf(plain()).Data})
	readRefused(t, "no bytes", api.Object{Name: objectOf(plain()).Name})
}

// P6.3: each other byte at each place.
func TestAnotherByte(t *testing.T) {
	for _, s := range samples() {
		o := objectOf(s)
		for place := range len(o.Data) {
			for more := 1; more < 256; more++ {
				other := []byte(o.Data)
				other[place] += byte(more)
				readRefused(t, "another byte at "+strconv.Itoa(place), api.Object{Name: o.Name, Data: string(other)})
			}
		}
	}
}

// P6.2: each other byte at each place, sealed anew, under the name that the bytes tell: a shard, if it is one that may be.
func TestAnotherByteSealed(t *testing.T) {
	for _, s := range samples() {
		o := objectOf(s)
		text := o.Data[:len(o.Data)-32]
		for place := range len(text) {
			for more := 1; more < 256; more++ {
				other := []byte(text)
				other[place] += byte(more)
				want := Shard{
					Code:    api.Code{K: int(other[4]), N: int(other[5])},
					Index:   int(other[6]),
					Digest:  string(other[11:43]),
					Payload: string(other[43:]),
				}
				may := place >= 4 && (place < 7 || place >= 11) && want.Code.K >= 1 && want.Code.K <= want.Code.N && want.Code.N <= 12 && want.Index < want.Code.N
				told := api.Object{Name: nameOf(want.Digest, want.Index), Data: sealed(string(other))}
				if !may {
					readRefused(t, "sealed anew, another byte at "+strconv.Itoa(place), told)
				} else if got, e := Read(told); e != api.OK || got != want {
					t.Fatalf("sealed anew, another byte at %d: %v, %d, %.100q, %d", place, got.Code, got.Index, got.Payload, e)
				}
				if told.Name != o.Name {
					told.Name = o.Name
					readRefused(t, "sealed anew, the old name, another byte at "+strconv.Itoa(place), told)
				}
			}
		}
	}
}

// P6.2: sealed bytes whose code or index may not be, whatever the others are.
func TestReadNumbers(t *testing.T) {
	edges := []byte{0, 1, 2, 3, 11, 12, 13, 14, 127, 128, 255}
	digest := sum("blob")
	for _, k := range edges {
		for _, n := range edges {
			for _, index := range edges {
				o := api.Object{Name: nameOf(digest, int(index)), Data: sealed(body(k, n, index, 3, digest, "abc"))}
				if k >= 1 && k <= n && n <= 12 && index < n {
					takes(t, Shard{Code: api.Code{K: int(k), N: int(n)}, Digest: digest, Index: int(index), Payload: "abc"})
				} else {
					readRefused(t, "numbers", o)
				}
			}
		}
	}
}

// P6.2, P6.3: sealed bytes whose length is not the payload's.
func TestReadLengths(t *testing.T) {
	digest := sum("blob")
	name := nameOf(digest, 1)
	for _, size := range []int{0, 1, 31, 32, 33, 256, 1000, room} {
		payload := sample(size, size)
		for _, count := range []int{0, 1, size - 32, size - 1, size, size + 1, size + 31, size + 32, size + 33, size + 75, size + 1<<8, size + 1<<16, size + 1<<24, size + 1<<31, size << 8, math.MaxInt32, math.MaxUint32, -size} {
			o := api.Object{Name: name, Data: sealed(body(2, 3, 1, uint32(count), digest, payload))}
			if uint32(count) == uint32(size) {
				takes(t, Shard{Code: api.Code{K: 2, N: 3}, Digest: digest, Index: 1, Payload: payload})
			} else {
				readRefused(t, "a length of "+strconv.Itoa(count)+" for "+strconv.Itoa(size), o)
			}
		}
	}
}

// P6.2: the last digest is that of all bytes ahead of it, and of no others.
func TestReadSeals(t *testing.T) {
	for _, s := range samples() {
		o := objectOf(s)
		text := o.Data[:len(o.Data)-32]
		for _, seal := range []string{sum(""), sum(s.Payload), sum(text[4:]), sum(text[11:]), sum(o.Data), sum(text[:len(text)-1]), s.Digest, strings.Repeat("\x00", 32), sum(sum(text))} {
			if seal != sum(text) {
				readRefused(t, "another seal", api.Object{Name: o.Name, Data: text + seal})
			}
		}
	}
}

// P6.3: with another name, that of another shard too.
func TestAnotherName(t *testing.T) {
	for _, s := range samples() {
		o := objectOf(s)
		digits := o.Name[:64]
		index := o.Name[65:]
		names := []string{
			"", ".", "m0", "m1", digits, digits + ".", digits + index, "." + index, digits + ".0" + index, digits + ".+" + index, digits + ".-" + index, digits + ". " + index, digits + ".." + index, digits + "." + index + ".", digits + "." + index + "\x00",
			digits + "." + index + "0", " " + o.Name, o.Name + " ", o.Name + o.Name, digits[:63] + "." + index, digits + "0." + index, o.Name[1:], s.Digest + "." + index, s.Digest, strings.ToUpper(digits) + "." + index,
			nameOf(sum("another"), s.Index), nameOf(s.Digest[:31], s.Index), nameOf(s.Digest+"\x00", s.Index), nameOf(sum(s.Payload), s.Index), strings.Repeat(digits, 1000) + "." + index,
		}
		for other := -2; other < 15; other++ {
			if other != s.Index {
				names = append(names, nameOf(s.Digest, other))
			}
		}
		for place := range len(o.Name) {
			other := []byte(o.Name)
			other[place] ^= 1
			names = append(names, string(other), o.Name[:place]+o.Name[place+1:], o.Name[:place]+"0"+o.Name[place:])
		}
		for _, name := range names {
			if name != o.Name {
				readRefused(t, "another name", api.Object{Name: name, Data: o.Data})
			}
		}
	}
}

// P6.2, R1: bytes of any kind are refused, and nothing panics.
func TestAnyBytes(t *testing.T) {
	for n := range 400 {
		text := sample(n, n)
		readRefused(t, "any bytes", api.Object{Name: nameOf(sum("blob"), 3), Data: text})
		readRefused(t, "any bytes", api.Object{Name: text, Data: "shd1" + text})
		readRefused(t, "any bytes, sealed", api.Object{Name: text, Data: sealed("shd1" + text)})
		parseRefused(t, text)
		Name(text, n)
	}
	readRefused(t, "noughts", api.Object{Name: nameOf(strings.Repeat("\x00", 32), 0), Data: strings.Repeat("\x00", 75)})
	readRefused(t, "another mark", api.Object{Name: nameOf(sum("blob"), 1), Data: sealed("man1" + body(2, 3, 1, 0, sum("blob"), "")[4:])})
}

// R2, R3: what is handed in stays as it is, and the same again is answered the same, whatever was asked between.
func TestSameAgain(t *testing.T) {
	s, was := plain(), plain()
	o := objectOf(s)
	bent := api.Object{Name: o.Name, Data: o.Data[:40] + "x" + o.Data[41:]}
	for range 20 {
		takes(t, s)
		readRefused(t, "bent", bent)
		makeRefused(t, Shard{Code: api.Code{K: 3, N: 2}, Digest: s.Digest}, api.ErrArg)
		parseRefused(t, o.Name+".")
		Name(s.Digest, -1)
		if s != was || o != objectOf(was) || bent.Data != o.Data[:40]+"x"+o.Data[41:] {
			t.Fatal("what was handed in is another one")
		}
	}
}

// within says whether a text stands in another one's memory.
func within(part, whole string) bool {
	at := uintptr(unsafe.Pointer(unsafe.StringData(part)))
	from := uintptr(unsafe.Pointer(unsafe.StringData(whole)))
	return from <= at && at < from+uintptr(len(whole))
}

// R3: what is answered is memory of its own.
func TestNewMemory(t *testing.T) {
	s := plain()
	s.Payload = sample(500, 1)
	o, _ := Make(s)
	if within(s.Digest, o.Data) || within(s.Payload, o.Data) || within(o.Name, o.Data) {
		t.Error("Make's answer is tied to what was handed in")
	}
	back, _ := Read(o)
	digest, _, _ := Parse(o.Name)
	if within(back.Digest, o.Data) || within(back.Payload, o.Data) || within(digest, o.Name) {
		t.Error("Read's answer is tied to what was handed in")
	}
}
