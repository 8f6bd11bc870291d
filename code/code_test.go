package code

import (
	"math"
	"slices"
	"strings"
	"testing"

	"strongbox/api"
)

const most = api.MaxStores

// product is told bit by bit, without the field that the package leans on.
func product(a, b uint8) uint8 {
	sum := 0
	for i := range 8 {
		if b>>i&1 == 1 {
			sum ^= int(a) << i
		}
	}
	for i := 15; i >= 8; i-- {
		if sum>>i&1 == 1 {
			sum ^= 0x11D << (i - 8)
		}
	}
	return uint8(sum)
}

// table has all products, and the inverses that are found among them.
type table struct {
	products [256][256]uint8
	inverses [256]uint8
}

func newTable() *table {
	p := &table{}
	for a := range 256 {
		for b := range 256 {
			p.products[a][b] = product(uint8(a), uint8(b))
			if p.products[a][b] == 1 {
				p.inverses[a] = uint8(b)
			}
		}
	}
	return p
}

// times is what stands in a code's matrix at row i, column j.
func (p *table) times(c api.Code, i, j int) uint8 {
	switch {
	case i >= c.K:
		return p.inverses[i^j]
	case i == j:
		return 1
	}
	return 0
}

// shards are all payloads of data of K parts, straight by the chapter's words, whatever stands there.
func (p *table) shards(c api.Code, data string) []string {
	size := len(data) / c.K
	all := make([]string, c.N)
	for i := range all {
		sum := make([]uint8, size)
		for j := range c.K {
			row := &p.products[p.times(c, i, j)]
			for at := range sum {
				sum[at] ^= row[data[j*size+at]]
			}
		}
		all[i] = string(sum)
	}
	return all
}

// eight is a number in 8 bytes, the highest first.
func eight(n uint64) string {
	var b [8]byte
	for i := 7; i >= 0; i-- {
		b[i] = byte(n)
		n >>= 8
	}
	return string(b[:])
}

// filled is a text with as many bytes 0 behind it as are needed for a multiple of k.
func filled(text string, k int) string {
	for len(text)%k != 0 {
		text += "\x00"
	}
	return text
}

func dataOf(c api.Code, blob string) string {
	return filled(eight(uint64(len(blob)))+blob, c.K)
}

// numbers are the same ones in each run, and look like any.
type numbers uint32

func (n *numbers) next() int {
	*n = *n*1664525 + 1013904223
	return int(*n >> 8)
}

func (n *numbers) blob(length int) string {
	b := make([]byte, length)
	for i := range b {
		b[i] = byte(n.next())
	}
	return string(b)
}

// mixed are the same numbers in another row.
func (n *numbers) mixed(list []int) []int {
	list = slices.Clone(list)
	for i := range list {
		j := i + n.next()%(len(list)-i)
		list[i], list[j] = list[j], list[i]
	}
	return list
}

// some are so many of a code's numbers, in any row.
func (n *numbers) some(c api.Code, count int) []int {
	return n.mixed(upTo(c.N))[:count]
}

func upTo(n int) []int {
	all := make([]int, n)
	for i := range all {
		all[i] = i
	}
	return all
}

// ofBits are the numbers of the bits that are set.
func ofBits(bits int) []int {
	var all []int
	for i := range most {
		if bits>>i&1 == 1 {
			all = append(all, i)
		}
	}
	return all
}

func pick(all []string, have []int) []string {
	some := make([]string, len(have))
	for i, number := range have {
		some[i] = all[number]
	}
	return some
}

// codes are all that may be.
func codes() []api.Code {
	var all []api.Code
	for n := 1; n <= most; n++ {
		for k := 1; k <= n; k++ {
			all = append(all, api.Code{K: k, N: n})
		}
	}
	return all
}

// wrongCodes may not be.
func wrongCodes() []api.Code {
	all := []api.Code{
		{K: 0, N: 0}, {K: 0, N: 1}, {K: 0, N: most}, {K: 1, N: 0}, {K: 2, N: 1}, {K: most, N: most - 1},
		{K: 1, N: most + 1}, {K: most, N: most + 1}, {K: most + 1, N: most + 1}, {K: most + 1, N: most},
		{K: -1, N: 3}, {K: -3, N: -1}, {K: -1, N: -1}, {K: 1, N: -1}, {K: 2, N: 256}, {K: 2, N: 259}, {K: 258, N: 3},
	}
	for _, far := range []int{math.MaxInt, math.MinInt, math.MaxInt32, math.MinInt32, 1 << 32, 1<<32 + 2} {
		all = append(all, api.Code{K: far, N: far}, api.Code{K: 1, N: far}, api.Code{K: far, N: 3})
	}
	return all
}

// lengths are those around the edges, and around some multiples of K.
func lengths(k int) []int {
	all := []int{0, 1, 2, 3, 7, 8, 9, 255, 256, 257, 258}
	for _, times := range []int{1, 2, 3, 10, 30} {
		for off := -9; off <= 2; off++ {
			all = append(all, max(0, k*times+off))
		}
	}
	return all
}

func refused(t *testing.T, name string, c api.Code, have []int, payloads []string, want api.Errno) {
	t.Helper()
	if blob, e := Decode(c, have, payloads); e != want || blob != "" {
		t.Errorf("%s: Decode of %v, %v: %q, %d, not %d", name, c, have, blob, e, want)
	}
	for which := range c.N {
		if payload, e := Rebuild(c, have, payloads, which); e != want || payload != "" {
			t.Errorf("%s: Rebuild of %v, %v, %d: %q, %d, not %d", name, c, have, which, payload, e, want)
		}
	}
}

func taken(t *testing.T, c api.Code, have []int, blob string, all []string) {
	t.Helper()
	some := pick(all, have)
	if got, e := Decode(c, have, some); e != api.OK || got != blob {
		t.Fatalf("Decode of %v, %v, a blob of %d bytes: %q, %d", c, have, len(blob), got, e)
	}
	for which, want := range all {
		if got, e := Rebuild(c, have, some, which); e != api.OK || got != want {
			t.Fatalf("Rebuild of %v, %v, %d, a blob of %d bytes: %q, %d", c, have, which, len(blob), got, e)
		}
	}
}

// The chapter's examples.
func TestExamples(t *testing.T) {
	c := api.Code{K: 2, N: 3}
	all, e := Encode(c, "abc")
	if e != api.OK || len(all) != 3 || all[0] != strings.Repeat("\x00", 6) || all[1] != "\x00\x03abc\x00" {
		t.Fatalf("Encode: %q, %d", all, e)
	}
	if n, e := Size(c, 3); e != api.OK || n != 6 {
		t.Error("Size:", n, e)
	}
	if blob, e := Decode(c, []int{1}, all[1:2]); e != api.ErrLost || blob != "" {
		t.Error("Decode of one alone:", blob, e)
	}
	if blob, e := Decode(c, []int{0, 0}, []string{all[0], all[0]}); e != api.ErrArg || blob != "" {
		t.Error("Decode of 0 and 0:", blob, e)
	}
	if one, e := Encode(api.Code{K: 1, N: 1}, "abc"); e != api.OK || !slices.Equal(one, []string{"\x00\x00\x00\x00\x00\x00\x00\x03abc"}) {
		t.Errorf("Encode: %q, %d", one, e)
	}
}

// P5.1: the sum of a code's first row behind K, told by hand: Inv(2) is 142, Inv(3) is 244.
func TestEncodeByHand(t *testing.T) {
	all, e := Encode(api.Code{K: 2, N: 4}, "\x01\x02\x03\x04")
	if e != api.OK || len(all) != 4 {
		t.Fatal(all, e)
	}
	if all[0] != "\x00\x00\x00\x00\x00\x00" || all[1] != "\x00\x04\x01\x02\x03\x04" {
		t.Errorf("%q", all)
	}
	third, fourth := make([]byte, 6), make([]byte, 6)
	for i, b := range []byte(all[1]) {
		third[i], fourth[i] = product(244, b), product(142, b)
	}
	if all[2] != string(third) || all[3] != string(fourth) {
		t.Errorf("%q, not %q and %q", all[2:], third, fourth)
	}
}

// P5.1, P5.5: of all codes, and of lengths around a multiple of K.
func TestEncode(t *testing.T) {
	p, n := newTable(), numbers(1)
	for _, c := range codes() {
		for _, length := range lengths(c.K) {
			blob := n.blob(length)
			encodes(t, p, c, blob)
		}
	}
}

// P5.1, P5.5: of the longest blobs, and those around them.
func TestEncodeLong(t *testing.T) {
	p, n := newTable(), numbers(2)
	for _, c := range codes() {
		if c.N != most && c.N != c.K {
			continue
		}
		for _, length := range []int{api.MaxBlob, api.MaxBlob - 1, api.MaxBlob - 2} {
			encodes(t, p, c, n.blob(length))
		}
	}
	encodes(t, p, api.Code{K: 2, N: 3}, strings.Repeat("\x00", api.MaxBlob))
	encodes(t, p, api.Code{K: 3, N: 12}, strings.Repeat("\xff", api.MaxBlob))
}

func encodes(t *testing.T, p *table, c api.Code, blob string) {
	t.Helper()
	all, e := Encode(c, blob)
	if e != api.OK || !slices.Equal(all, p.shards(c, dataOf(c, blob))) {
		t.Fatalf("Encode by %v of %d bytes: %d, not as it should be", c, len(blob), e)
	}
	size, e := Size(c, len(blob))
	if e != api.OK {
		t.Fatalf("Size by %v of %d bytes: %d", c, len(blob), e)
	}
	for i, payload := range all {
		if len(payload) != size {
			t.Fatalf("payload %d by %v of %d bytes has %d, not %d", i, c, len(blob), len(payload), size)
		}
	}
	data := strings.Join(all[:c.K], "")
	if !strings.HasPrefix(data, eight(uint64(len(blob)))+blob) || strings.Trim(data[8+len(blob):], "\x00") != "" || len(data)-8-len(blob) >= c.K {
		t.Fatalf("the first payloads by %v of %d bytes: %q", c, len(blob), data)
	}
}

// P5.1: the least number of bytes that, K times, has room for the length and the blob.
func TestSize(t *testing.T) {
	for _, c := range codes() {
		for n := 0; n <= api.MaxBlob; n++ {
			size, e := Size(c, n)
			if e != api.OK || size*c.K < 8+n || (size-1)*c.K >= 8+n {
				t.Fatalf("Size by %v of %d: %d, %d", c, n, size, e)
			}
			if n == 300 {
				n = api.MaxBlob - 40
			}
		}
	}
	for _, x := range [][4]int{{1, 1, 0, 8}, {1, 12, api.MaxBlob, api.MaxBlob + 8}, {12, 12, 0, 1}, {12, 12, 4, 1}, {12, 12, 5, 2}, {8, 9, 0, 1}, {8, 9, 1, 2}, {3, 4, 0, 3}, {3, 4, 1, 3}, {3, 4, 2, 4}, {12, 12, api.MaxBlob, 2732}} {
		if size, e := Size(api.Code{K: x[0], N: x[1]}, x[2]); e != api.OK || size != x[3] {
			t.Errorf("Size: %v: %d, %d", x, size, e)
		}
	}
}

// P5.1: what Size and Encode refuse, and in which order.
func TestSizeEncodeRefused(t *testing.T) {
	long, longer := strings.Repeat("x", api.MaxBlob+1), strings.Repeat("x", 4*api.MaxBlob)
	for _, c := range wrongCodes() {
		for _, n := range []int{0, 1, api.MaxBlob, api.MaxBlob + 1, -1, math.MaxInt, math.MinInt} {
			if size, e := Size(c, n); e != api.ErrArg || size != 0 {
				t.Errorf("Size by %v of %d: %d, %d", c, n, size, e)
			}
		}
		for _, blob := range []string{"", "abc", long} {
			if all, e := Encode(c, blob); e != api.ErrArg || len(all) != 0 {
				t.Errorf("Encode by %v of %d bytes: %q, %d", c, len(blob), all, e)
			}
		}
	}
	for _, c := range codes() {
		for _, n := range []int{-1, -2, -8, -9, -20, math.MinInt32, math.MinInt} {
			if size, e := Size(c, n); e != api.ErrArg || size != 0 {
				t.Errorf("Size by %v of %d: %d, %d", c, n, size, e)
			}
		}
		for _, n := range []int{api.MaxBlob + 1, api.MaxBlob + 2, api.MaxObject, math.MaxInt32, math.MaxInt - 19, math.MaxInt - 7, math.MaxInt} {
			if size, e := Size(c, n); e != api.ErrTooLarge || size != 0 {
				t.Errorf("Size by %v of %d: %d, %d", c, n, size, e)
			}
		}
		for _, blob := range []string{long, longer} {
			if all, e := Encode(c, blob); e != api.ErrTooLarge || len(all) != 0 {
				t.Errorf("Encode by %v of %d bytes: %d payloads, %d", c, len(blob), len(all), e)
			}
		}
	}
}

// P5.2, P5.3: of all codes each choice of K payloads or more, rising and in another row.
func TestAnyK(t *testing.T) {
	p, n := newTable(), numbers(3)
	for _, c := range codes() {
		blob := n.blob(n.next() % 40)
		all := p.shards(c, dataOf(c, blob))
		for bits := range 1 << c.N {
			have := ofBits(bits)
			if len(have) < c.K {
				continue
			}
			for _, row := range [][]int{have, n.mixed(have)} {
				some := pick(all, row)
				if got, e := Decode(c, row, some); e != api.OK || got != blob {
					t.Fatalf("Decode of %v, %v, of %q: %q, %d", c, row, blob, got, e)
				}
				which := n.next() % c.N
				if got, e := Rebuild(c, row, some, which); e != api.OK || got != all[which] {
					t.Fatalf("Rebuild of %v, %v, %d, of %q: %q, %d", c, row, which, blob, got, e)
				}
			}
		}
	}
}

// P5.2, P5.3: of three payloads each row that they can be in.
func TestAnyRow(t *testing.T) {
	p := newTable()
	c := api.Code{K: 3, N: 5}
	all := p.shards(c, dataOf(c, "any row will do"))
	for i := range 5 {
		for j := range 5 {
			for k := range 5 {
				have := []int{i, j, k}
				if i == j || j == k || k == i {
					refused(t, "twice", c, have, pick(all, have), api.ErrArg)
				} else {
					taken(t, c, have, "any row will do", all)
				}
			}
		}
	}
}

// P5.2, P5.3: of all codes blobs of lengths around a multiple of K.
func TestBack(t *testing.T) {
	p, n := newTable(), numbers(4)
	for _, c := range codes() {
		for _, length := range []int{0, 1, 2, max(0, c.K-9), max(0, c.K-8), max(0, c.K-7), 3*c.K - 1, 3 * c.K, 3*c.K + 1, 10*c.K - 8, 10*c.K - 7, 10*c.K + 1} {
			blob := n.blob(max(0, length))
			all := p.shards(c, dataOf(c, blob))
			taken(t, c, n.some(c, c.K), blob, all)
			taken(t, c, n.some(c, c.K+n.next()%(c.N-c.K+1)), blob, all)
			taken(t, c, upTo(c.N)[c.N-c.K:], blob, all)
		}
	}
}

// P5.2, P5.3: the longest blobs.
func TestBackLong(t *testing.T) {
	p, n := newTable(), numbers(5)
	for _, c := range []api.Code{{K: 1, N: 1}, {K: 1, N: 2}, {K: 2, N: 3}, {K: 5, N: 9}, {K: 6, N: 12}, {K: 12, N: 12}, {K: 11, N: 12}, {K: 7, N: 12}} {
		for _, length := range []int{api.MaxBlob - 1, api.MaxBlob} {
			blob := n.blob(length)
			all := p.shards(c, dataOf(c, blob))
			have := upTo(c.N)[c.N-c.K:]
			some := pick(all, have)
			if got, e := Decode(c, have, some); e != api.OK || got != blob {
				t.Errorf("Decode of %v, %v, a blob of %d bytes: %d", c, have, length, e)
			}
			for _, which := range []int{0, c.N - 1} {
				if got, e := Rebuild(c, have, some, which); e != api.OK || got != all[which] {
					t.Errorf("Rebuild of %v, %v, %d, a blob of %d bytes: %d", c, have, which, length, e)
				}
			}
		}
	}
}

// P5.2: blobs that look like lengths, and like what is filled up.
func TestBackOfNoughts(t *testing.T) {
	p := newTable()
	for _, c := range codes() {
		for _, blob := range []string{"", "\x00", "\x00\x00", strings.Repeat("\x00", 25), strings.Repeat("\xff", 25), eight(3), eight(math.MaxUint64), "a\x00", "\x00a"} {
			all := p.shards(c, dataOf(c, blob))
			have := upTo(c.N)[c.N-c.K:]
			taken(t, c, have, blob, all)
			taken(t, c, upTo(c.N), blob, all)
		}
	}
}

// P5.2: codes that may not be are refused, whatever else is wrong.
func TestCodesRefused(t *testing.T) {
	for _, c := range wrongCodes() {
		for _, have := range [][]int{nil, {0}, {0, 1}, {0, 0}, {-1}, upTo(13)} {
			for _, payloads := range [][]string{nil, {""}, {eight(0)}, {eight(0), eight(0)}, make([]string, 13)} {
				if blob, e := Decode(c, have, payloads); e != api.ErrArg || blob != "" {
					t.Errorf("Decode of %v, %v: %q, %d", c, have, blob, e)
				}
				for _, which := range []int{0, 1, -1, math.MaxInt} {
					if payload, e := Rebuild(c, have, payloads, which); e != api.ErrArg || payload != "" {
						t.Errorf("Rebuild of %v, %v, %d: %q, %d", c, have, which, payload, e)
					}
				}
			}
		}
	}
}

// P5.2: numbers that may not be are refused ahead of too few payloads, and of payloads that are none.
func TestNumbersRefused(t *testing.T) {
	p, n := newTable(), numbers(6)
	for _, c := range codes() {
		all := p.shards(c, dataOf(c, "some blob"))
		for _, wrong := range []int{-1, -c.N, c.N, c.N + 1, 12, 13, 256, -256, math.MaxInt, math.MinInt, 1 << 32} {
			if wrong >= 0 && wrong < c.N {
				continue
			}
			refused(t, "alone", c, []int{wrong}, all[:1], api.ErrArg)
			for _, count := range []int{c.K - 1, c.K, c.N} {
				for at := range count {
					have := n.some(c, count)
					some := pick(all, have)
					have[at] = wrong
					refused(t, "one of them", c, have, some, api.ErrArg)
					some[0] += "x"
					refused(t, "one of them, and no payloads", c, have, some, api.ErrArg)
				}
			}
		}
		for _, count := range []int{c.K - 1, c.K, c.N} {
			for at := range count {
				have := n.some(c, count)
				have = append(have, have[at])
				refused(t, "twice", c, have, pick(all, have), api.ErrArg)
				refused(t, "twice, and no payloads", c, have, make([]string, len(have)), api.ErrArg)
			}
		}
		refused(t, "many times", c, make([]int, 1000), make([]string, 1000), api.ErrArg)
		refused(t, "all, and one more", c, upTo(c.N+1), append(slices.Clone(all), all[0]), api.ErrArg)
	}
}

// P5.2: lists that are not as long as each other are refused ahead of all but the code.
func TestListsRefused(t *testing.T) {
	p := newTable()
	for _, c := range codes() {
		all := p.shards(c, dataOf(c, "some blob"))
		for count := range c.N + 1 {
			for other := range c.N + 1 {
				if count != other {
					refused(t, "unlike", c, upTo(count), all[:other], api.ErrArg)
				}
			}
		}
		refused(t, "no numbers", c, nil, all, api.ErrArg)
		refused(t, "no payloads", c, upTo(c.N), nil, api.ErrArg)
		refused(t, "one payload more", c, upTo(c.N), append(slices.Clone(all), ""), api.ErrArg)
	}
}

// P5.2: Rebuild refuses which, whatever else is wrong.
func TestWhichRefused(t *testing.T) {
	p := newTable()
	for _, c := range codes() {
		all := p.shards(c, dataOf(c, "some blob"))
		for _, which := range []int{-1, -c.N, c.N, c.N + 1, 13, 256, math.MaxInt, math.MinInt, 1 << 32} {
			for count := range c.N + 1 {
				if payload, e := Rebuild(c, upTo(count), all[:count], which); e != api.ErrArg || payload != "" {
					t.Errorf("Rebuild of %v, %d, %d: %q, %d", c, count, which, payload, e)
				}
			}
			if payload, e := Rebuild(c, upTo(c.N), make([]string, c.N), which); e != api.ErrArg || payload != "" {
				t.Errorf("Rebuild of %v, no payloads, %d: %q, %d", c, which, payload, e)
			}
		}
	}
}

// P5.2: fewer than K are refused ahead of payloads that are none.
func TestTooFew(t *testing.T) {
	p, n := newTable(), numbers(7)
	for _, c := range codes() {
		all := p.shards(c, dataOf(c, "some blob"))
		refused(t, "nil", c, nil, nil, api.ErrLost)
		refused(t, "none", c, []int{}, []string{}, api.ErrLost)
		for count := range c.K {
			have := n.some(c, count)
			some := pick(all, have)
			refused(t, "too few", c, have, some, api.ErrLost)
			refused(t, "too few, of no bytes", c, have, make([]string, count), api.ErrLost)
			if count > 0 {
				some[count-1] += "x"
				refused(t, "too few, of unlike lengths", c, have, some, api.ErrLost)
			}
		}
	}
}

// P5.2: payloads of unlike lengths, also where those that are enough are alike.
func TestUnlikeLengths(t *testing.T) {
	p, n := newTable(), numbers(8)
	for _, c := range codes() {
		if c.N == 1 {
			continue
		}
		all := p.shards(c, dataOf(c, "some blob, and more of it"))
		for _, count := range []int{max(2, c.K), c.N} {
			have := n.some(c, count)
			for at := range have {
				for _, other := range []string{"", "x", all[have[at]] + "\x00", all[have[at]][1:], all[have[at]] + all[have[at]], strings.Repeat("\x00", 70000)} {
					some := pick(all, have)
					some[at] = other
					refused(t, "unlike", c, have, some, api.ErrForm)
				}
			}
		}
	}
}

// P5.2: payloads that have no room for a length, and those that are longer than a blob's may be.
func TestNoLength(t *testing.T) {
	p := newTable()
	for _, c := range codes() {
		for size := 0; size*c.K < 8; size++ {
			for _, text := range []string{"\x00", "\x01", "\xff"} {
				all := p.shards(c, strings.Repeat(text, size*c.K))
				refused(t, "short", c, upTo(c.K), all[:c.K], api.ErrForm)
				refused(t, "short", c, upTo(c.N), all, api.ErrForm)
			}
		}
	}
	for _, c := range []api.Code{{K: 1, N: 1}, {K: 1, N: 3}, {K: 2, N: 3}, {K: 12, N: 12}} {
		most, _ := Size(c, api.MaxBlob)
		for _, size := range []int{most + 1, 2 * most, 70000, 1 << 20} {
			data := eight(uint64(size*c.K-8)) + strings.Repeat("x", size*c.K-8)
			refused(t, "long", c, upTo(c.N), p.shards(c, data), api.ErrForm)
			data = eight(1) + "x" + strings.Repeat("\x00", size*c.K-9)
			refused(t, "long, of a short blob", c, upTo(c.N), p.shards(c, data), api.ErrForm)
		}
	}
}

// P5.2: of one sum of bytes just those lengths are taken that are filled up to it.
func TestWrongLength(t *testing.T) {
	p, n := newTable(), numbers(9)
	for _, c := range codes() {
		for _, size := range []int{(7 + c.K) / c.K, (7+c.K)/c.K + 1, 9} {
			room := size*c.K - 8
			for told := range room + 3 {
				data := eight(uint64(told)) + strings.Repeat("\x00", room)
				all := p.shards(c, data)
				have := n.some(c, c.K+n.next()%(c.N-c.K+1))
				if told <= room && told > room-c.K {
					taken(t, c, have, strings.Repeat("\x00", told), all)
				} else {
					refused(t, "a wrong length", c, have, pick(all, have), api.ErrForm)
				}
			}
			for _, told := range []uint64{1 << 8, 1 << 16, 1 << 31, 1 << 32, 1<<32 + uint64(room), 1 << 56, 1<<63 - 1, 1 << 63, 1<<63 + uint64(room), math.MaxUint64 - 7, math.MaxUint64} {
				if told <= uint64(room) {
					continue
				}
				all := p.shards(c, eight(told)+strings.Repeat("\x00", room))
				have := n.some(c, c.K+n.next()%(c.N-c.K+1))
				refused(t, "a great length", c, have, pick(all, have), api.ErrForm)
			}
		}
	}
}

// P5.2: a blob of more than MaxBlob bytes is none, also where its payloads are as long as those of one that may be.
func TestTooLongBlob(t *testing.T) {
	p := newTable()
	for k := 1; k <= most; k++ {
		c := api.Code{K: k, N: most}
		for told := api.MaxBlob - 1; told <= api.MaxBlob+13; told++ {
			data := filled(eight(uint64(told))+strings.Repeat("x", told), k)
			all := p.shards(c, data)
			have := upTo(most)[most-k:]
			want := api.ErrForm
			if told <= api.MaxBlob {
				want = api.OK
			}
			if blob, e := Decode(c, have, pick(all, have)); e != want || e == api.OK && len(blob) != told || e != api.OK && blob != "" {
				t.Errorf("Decode of %v, %d bytes: %d, %d", c, told, len(blob), e)
			}
			if payload, e := Rebuild(c, have, pick(all, have), 0); e != want || e != api.OK && payload != "" {
				t.Errorf("Rebuild of %v, %d bytes: %d", c, told, e)
			}
		}
	}
}

// P5.2: bytes behind the blob that are not 0.
func TestBehindTheBlob(t *testing.T) {
	p, n := newTable(), numbers(10)
	for _, c := range codes() {
		for length := range 2 * c.K {
			blob := n.blob(length)
			data := dataOf(c, blob)
			for at := 8 + length; at < len(data); at++ {
				other := []byte(data)
				other[at] = byte(1 + n.next()%255)
				all := p.shards(c, string(other))
				for _, have := range [][]int{upTo(c.K), upTo(c.N)[c.N-c.K:], upTo(c.N), n.some(c, c.K)} {
					refused(t, "something behind the blob", c, have, pick(all, have), api.ErrForm)
				}
			}
		}
	}
}

// P5.4: of more than K one is another one, in one byte, at any place.
func TestOneOfMore(t *testing.T) {
	p, n := newTable(), numbers(11)
	for _, c := range codes() {
		if c.K == c.N {
			continue
		}
		blob := n.blob(n.next() % 30)
		all := p.shards(c, dataOf(c, blob))
		for _, count := range []int{c.K + 1, c.N} {
			have := n.some(c, count)
			for at := range have {
				for place := range all[0] {
					some := pick(all, have)
					other := []byte(some[at])
					other[place] ^= byte(1 + n.next()%255)
					some[at] = string(other)
					refused(t, "another one", c, have, some, api.ErrForm)
				}
				some := pick(all, have)
				some[at] = strings.Repeat("\x00", len(all[0]))
				if some[at] != all[have[at]] {
					refused(t, "one of noughts", c, have, some, api.ErrForm)
				}
			}
		}
	}
}

// P5.4: of more than K one is that of another number, or of another blob as long.
func TestOneOfAnother(t *testing.T) {
	p := newTable()
	for _, c := range codes() {
		all := p.shards(c, dataOf(c, "a blob of some sort"))
		others := p.shards(c, dataOf(c, "A BLOB OF SOME SORT"))
		for at := range c.N {
			some := slices.Clone(all)
			some[at] = others[at]
			if c.N > c.K && some[at] != all[at] {
				refused(t, "of another blob", c, upTo(c.N), some, api.ErrForm)
			}
			for next := range c.N {
				some := slices.Clone(all)
				some[at], some[next] = some[next], some[at]
				// Of one more than K two may be changed so that they are another blob's.
				if c.N > c.K+1 && all[at] != all[next] {
					refused(t, "two changed about", c, upTo(c.N), some, api.ErrForm)
				}
			}
		}
	}
}

// P5.2: K payloads of which one is another one are told as they are: another blob, or none, and never something between.
func TestJustKChanged(t *testing.T) {
	p, n := newTable(), numbers(12)
	for _, c := range codes() {
		for range 30 {
			data := []byte(dataOf(c, n.blob(n.next()%30)))
			data[n.next()%len(data)] ^= byte(1 << (n.next() % 8))
			all := p.shards(c, string(data))
			have := n.some(c, c.K)
			told := int(data[7])
			rest := string(data[8:])
			if strings.Trim(string(data[:7]), "\x00") != "" || told > len(rest) || len(rest)-told >= c.K || strings.Trim(rest[told:], "\x00") != "" {
				refused(t, "no blob", c, have, pick(all, have), api.ErrForm)
			} else {
				taken(t, c, have, rest[:told], all)
			}
		}
	}
}

// roomy has room behind its end, in which marks stand.
func roomy[T any](list []T, mark T) []T {
	return append(append(make([]T, 0, len(list)+2), list...), mark, mark)[:len(list)]
}

// R3: what is handed in stays as it is, also behind its ends, and no answer is tied to it or to another one.
func TestNewMemory(t *testing.T) {
	p, n := newTable(), numbers(13)
	for _, c := range codes() {
		blob := n.blob(n.next() % 50)
		plain := p.shards(c, dataOf(c, blob))
		first, e := Encode(c, blob)
		if e != api.OK {
			t.Fatal(e)
		}
		first = first[:cap(first)]
		for i := range first {
			first[i] = "written over"
		}
		all, e := Encode(c, blob)
		if e != api.OK || !slices.Equal(all, plain) {
			t.Fatalf("%v: Encode a second time: %q, %d", c, all, e)
		}
		for count := range c.N + 1 {
			wasHave := n.some(c, count)
			wasSome := pick(all, wasHave)
			if count == c.N && c.N > c.K {
				wasSome[0] = strings.Repeat("\xff", len(all[0]))
			}
			have, some := roomy(wasHave, 77), roomy(wasSome, "mark")
			Decode(c, have, some)
			Rebuild(c, have, some, n.next()%c.N)
			Rebuild(c, have, some, -1)
			if !slices.Equal(have, wasHave) || !slices.Equal(some, wasSome) {
				t.Fatalf("%v: what was handed in is now %v, %q", c, have, some)
			}
			if !slices.Equal(have[count:count+2], []int{77, 77}) || !slices.Equal(some[count:count+2], []string{"mark", "mark"}) {
				t.Fatalf("%v: behind what was handed in stands %v, %q", c, have[count:count+2], some[count:count+2])
			}
		}
	}
}

// R2: the same again, whatever was asked between.
func TestSameAgain(t *testing.T) {
	p := newTable()
	c := api.Code{K: 3, N: 7}
	all := p.shards(c, dataOf(c, "the same again"))
	have := []int{6, 2, 4, 0}
	for range 50 {
		taken(t, c, have, "the same again", all)
		refused(t, "too few", c, have[:2], pick(all, have[:2]), api.ErrLost)
		Encode(api.Code{K: 7, N: 12}, "something else")
	}
}
