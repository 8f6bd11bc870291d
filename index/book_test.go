package index

import (
	"encoding/binary"
	"slices"
	"strconv"
	"strings"
	"testing"

	"strongbox/api"
)

// The numbers of the chapter, written anew.
const (
	mostChunks = 400
	mostBlob   = 32768
	mostNode   = 16384
)

// digest is one of 32 bytes: they rise as their numbers do, of which the last bytes alone tell two apart.
func digest(n int) string {
	return strings.Repeat("\x80", 24) + string(binary.BigEndian.AppendUint64(nil, uint64(n)))
}

// front is one of 32 bytes, of which the first bytes alone tell two apart.
func front(n int) string {
	return string(binary.BigEndian.AppendUint64(nil, uint64(n))) + strings.Repeat("\x80", 24)
}

// packOf is a pack's digest: they fall as their numbers rise.
func packOf(n int) string {
	return strings.Repeat("\xee", 24) + string(binary.BigEndian.AppendUint64(nil, uint64(60000-n)))
}

// at is a place.
func at(pack, from, size int) api.Place { return api.Place{Pack: packOf(pack), At: from, Len: size} }

// numbers are n of them from a first one on, step by step.
func numbers(first, step, n int) []int {
	var all []int
	for i := range n {
		all = append(all, first+i*step)
	}
	return all
}

// digestsOf are the digests of numbers.
func digestsOf(all []int) []string {
	var texts []string
	for _, n := range all {
		texts = append(texts, digest(n))
	}
	return texts
}

// row are places of n chunks, one behind the other, of which so many go into a pack.
func row(n, each int) []api.Place {
	var places []api.Place
	for i := range n {
		places = append(places, at(i/each, 10+7*(i%each), 7))
	}
	return places
}

// counted is a state of n chunks, of even numbers, so that there is room between them.
func counted(n, each int) api.State {
	return api.State{Chunks: digestsOf(numbers(2, 2, n)), Places: row(n, each)}
}

// otherwise is a state with all else as it stands in none that may be.
func otherwise(s api.State) api.State {
	s.Code, s.Next = api.Code{K: -1, N: 99}, -7
	s.Snaps = []api.Snap{{ID: 5, Time: -1, Root: "r"}, {ID: 5}, {}}
	return s
}

// sound says by the chapter's words whether chunks and places may be.
func sound(s api.State) bool {
	if len(s.Chunks) != len(s.Places) || len(s.Chunks) > mostChunks {
		return false
	}
	for i, text := range s.Chunks {
		if i > 0 && strings.Compare(s.Chunks[i-1], text) != -1 {
			return false
		}
		if len(text) != 32 || !soundPlace(s.Places[i]) {
			return false
		}
	}
	return soundTogether(s.Places)
}

// soundPlace says whether a place may be.
func soundPlace(p api.Place) bool {
	if len(p.Pack) != 32 || p.At < 0 || p.At > mostBlob || p.Len < 1 || p.Len > mostNode {
		return false
	}
	return p.At+p.Len <= mostBlob
}

// soundTogether says whether no byte of a pack is in two places, that may be: each two are held against one another.
func soundTogether(places []api.Place) bool {
	for i, p := range places {
		for _, q := range places[:i] {
			if max(p.At, q.At) < min(p.At+p.Len, q.At+q.Len) && p.Pack == q.Pack {
				return false
			}
		}
	}
	return true
}

// toldFind is Find by the chapter's words.
func toldFind(s api.State, digest string) (api.Place, api.Errno) {
	if !sound(s) {
		return api.Place{}, api.ErrForm
	}
	for i, text := range s.Chunks {
		if text == digest {
			return s.Places[i], api.OK
		}
	}
	return api.Place{}, api.ErrNone
}

// toldAdd is Add by the chapter's words.
func toldAdd(s api.State, digests []string, places []api.Place) (api.State, api.Errno) {
	if !sound(s) {
		return api.State{}, api.ErrForm
	}
	if len(digests) != len(places) || len(digests) == 0 {
		return api.State{}, api.ErrArg
	}
	for i, text := range digests {
		if len(text) != 32 || !soundPlace(places[i]) {
			return api.State{}, api.ErrArg
		}
	}
	there := map[string]int{}
	for _, text := range slices.Concat(s.Chunks, digests) {
		if there[text]++; there[text] == 2 {
			return api.State{}, api.ErrTwice
		}
	}
	if len(there) > mostChunks {
		return api.State{}, api.ErrTooLarge
	}
	if !soundTogether(slices.Concat(s.Places, places)) {
		return api.State{}, api.ErrArg
	}
	more := apartFrom(s)
	for i, text := range digests {
		place := 0
		for place < len(more.Chunks) && more.Chunks[place] < text {
			place++
		}
		more.Chunks = slices.Insert(more.Chunks, place, text)
		more.Places = slices.Insert(more.Places, place, places[i])
	}
	return more, api.OK
}

// toldDrop is Drop by the chapter's words.
func toldDrop(s api.State, digests []string) (api.State, api.Errno) {
	if !sound(s) {
		return api.State{}, api.ErrForm
	}
	less := apartFrom(s)
	for _, text := range digests {
		if !slices.Contains(s.Chunks, text) {
			return api.State{}, api.ErrNone
		}
		if i := slices.Index(less.Chunks, text); i >= 0 {
			less.Chunks = slices.Delete(less.Chunks, i, i+1)
			less.Places = slices.Delete(less.Places, i, i+1)
		}
	}
	return less, api.OK
}

// toldPacks is Packs by the chapter's words.
func toldPacks(s api.State) ([]string, api.Errno) {
	if !sound(s) {
		return nil, api.ErrForm
	}
	var packs []string
	for _, p := range s.Places {
		if !slices.Contains(packs, p.Pack) {
			packs = append(packs, p.Pack)
		}
	}
	slices.Sort(packs)
	return packs, api.OK
}

// toldOf is Of by the chapter's words: the pack is gone through byte by byte.
func toldOf(s api.State, pack string) (digests []string, places []api.Place, e api.Errno) {
	if !sound(s) {
		return nil, nil, api.ErrForm
	}
	from := map[int]int{}
	for i, p := range s.Places {
		if p.Pack == pack {
			from[p.At] = i + 1
		}
	}
	for b := 0; b < mostBlob && len(from) > 0; b++ {
		if i := from[b]; i > 0 {
			digests, places = append(digests, s.Chunks[i-1]), append(places, s.Places[i-1])
		}
	}
	if len(digests) == 0 {
		return nil, nil, api.ErrNone
	}
	return digests, places, api.OK
}

// apartFrom is a state in other memory.
func apartFrom(s api.State) api.State {
	s.Snaps, s.Chunks, s.Places = slices.Clone(s.Snaps), slices.Clone(s.Chunks), slices.Clone(s.Places)
	return s
}

// same says whether states are, each part of them.
func same(a, b api.State) bool {
	return a.Code == b.Code && a.Next == b.Next && slices.Equal(a.Snaps, b.Snaps) && slices.Equal(a.Chunks, b.Chunks) && slices.Equal(a.Places, b.Places)
}

// brief is what a test tells of a text.
func brief(text string) string {
	if len(text) == 32 {
		return strconv.Itoa(int(text[0])) + ".." + strconv.Itoa(int(text[30])<<8+int(text[31]))
	}
	return strconv.Itoa(len(text)) + " bytes"
}

// shown is what a test tells of chunks and places.
func shown(digests []string, places []api.Place) string {
	text := strconv.Itoa(len(digests)) + " digests"
	for _, digest := range digests[:min(6, len(digests))] {
		text += " " + brief(digest)
	}
	text += ", " + strconv.Itoa(len(places)) + " places"
	for _, p := range places[:min(6, len(places))] {
		text += " " + shownPlace(p)
	}
	return text
}

// shownPlace is what a test tells of a place.
func shownPlace(p api.Place) string {
	return brief(p.Pack) + "/" + strconv.Itoa(p.At) + "/" + strconv.Itoa(p.Len)
}

// shownState is what a test tells of a state.
func shownState(s api.State) string { return shown(s.Chunks, s.Places) }

// mayAsTold holds May against the chapter's words, and tells what it answers.
func mayAsTold(t *testing.T, s api.State) bool {
	t.Helper()
	may := May(s)
	if may != sound(s) {
		t.Errorf("May of %s: %t", shownState(s), may)
	}
	return may
}

// findsAsTold holds Find against the chapter's words.
func findsAsTold(t *testing.T, s api.State, digest string) {
	t.Helper()
	p, e := Find(s, digest)
	want, wantE := toldFind(s, digest)
	if p != want || e != wantE {
		t.Errorf("Find of %s in %s: %s, %d, not %s, %d", brief(digest), shownState(s), shownPlace(p), e, shownPlace(want), wantE)
	}
}

// addsAsTold holds Add against the chapter's words, and tells what it answers.
func addsAsTold(t *testing.T, s api.State, digests []string, places []api.Place) (api.State, api.Errno) {
	t.Helper()
	more, e := Add(s, digests, places)
	want, wantE := toldAdd(s, digests, places)
	if !same(more, want) || e != wantE {
		t.Errorf("Add of %s to %s: %s, %d, not %s, %d", shown(digests, places), shownState(s), shownState(more), e, shownState(want), wantE)
	}
	return more, e
}

// dropsAsTold holds Drop against the chapter's words, and tells what it answers.
func dropsAsTold(t *testing.T, s api.State, digests []string) (api.State, api.Errno) {
	t.Helper()
	less, e := Drop(s, digests)
	want, wantE := toldDrop(s, digests)
	if !same(less, want) || e != wantE {
		t.Errorf("Drop of %s from %s: %s, %d, not %s, %d", shown(digests, nil), shownState(s), shownState(less), e, shownState(want), wantE)
	}
	return less, e
}

// packsAsTold holds Packs, and Of of each pack, against the chapter's words.
func packsAsTold(t *testing.T, s api.State) {
	t.Helper()
	packs, e := Packs(s)
	want, wantE := toldPacks(s)
	if !slices.Equal(packs, want) || e != wantE {
		t.Errorf("Packs of %s: %s, %d, not %s, %d", shownState(s), shown(packs, nil), e, shown(want, nil), wantE)
	}
	for _, pack := range want {
		ofAsTold(t, s, pack)
	}
}

// ofAsTold holds Of against the chapter's words.
func ofAsTold(t *testing.T, s api.State, pack string) {
	t.Helper()
	digests, places, e := Of(s, pack)
	wantDigests, wantPlaces, wantE := toldOf(s, pack)
	if !slices.Equal(digests, wantDigests) || !slices.Equal(places, wantPlaces) || e != wantE {
		t.Errorf("Of %s in %s: %s, %d, not %s, %d", brief(pack), shownState(s), shown(digests, places), e, shown(wantDigests, wantPlaces), wantE)
	}
}

// mayNot says that a state's chunks and places may not be, by any call.
func mayNot(t *testing.T, s api.State) {
	t.Helper()
	if sound(s) {
		t.Fatalf("the book takes %s", shownState(s))
	}
	mayAsTold(t, s)
	for _, text := range []string{"", digest(2), packOf(0), "x"} {
		findsAsTold(t, s, text)
		ofAsTold(t, s, text)
		dropsAsTold(t, s, []string{text})
		addsAsTold(t, s, []string{text}, []api.Place{at(9, 0, 1)})
	}
	for _, text := range s.Chunks[:min(3, len(s.Chunks))] {
		findsAsTold(t, s, text)
		dropsAsTold(t, s, []string{text})
	}
	dropsAsTold(t, s, nil)
	addsAsTold(t, s, nil, nil)
	addsAsTold(t, s, []string{digest(9999)}, []api.Place{at(200, 0, 1)})
	packsAsTold(t, s)
}

// may says that a state's chunks and places may be, by any call.
func may(t *testing.T, s api.State) {
	t.Helper()
	if !sound(s) {
		t.Fatalf("the book does not take %s", shownState(s))
	}
	mayAsTold(t, s)
	packsAsTold(t, s)
	for i := 0; i < len(s.Chunks); i += 1 + len(s.Chunks)/20 {
		findsAsTold(t, s, s.Chunks[i])
	}
	for _, text := range nowhere(s) {
		findsAsTold(t, s, text)
		ofAsTold(t, s, text)
		dropsAsTold(t, s, []string{text})
	}
	dropsAsTold(t, s, nil)
	dropsAsTold(t, s, s.Chunks)
	addsAsTold(t, s, nil, nil)
	addsAsTold(t, s, []string{digest(9999)}, []api.Place{at(200, 0, 1)})
}

// nowhere are texts that are no chunk of a state: ahead of all, behind all, close to the first one and the last one, and such as are no digest.
func nowhere(s api.State) []string {
	all := []string{"", "x", strings.Repeat("\x00", 32), strings.Repeat("\xff", 32), strings.Repeat("\xff", 33), strings.Repeat("é", 16), digest(1), digest(1 << 20), front(1)}
	if len(s.Chunks) > 0 {
		for _, text := range []string{s.Chunks[0], s.Chunks[len(s.Chunks)/2], s.Chunks[len(s.Chunks)-1]} {
			all = append(all, text[:31], text+"\x00", text[:31]+string([]byte{text[31] ^ 1}), string([]byte{text[0] ^ 1})+text[1:])
		}
	}
	return slices.DeleteFunc(all, func(text string) bool { return slices.Contains(s.Chunks, text) })
}

// states are of all kinds that may be.
func states() []api.State {
	all := []api.State{
		{},
		{Chunks: []string{}, Places: []api.Place{}},
		counted(1, 1), counted(2, 1), counted(2, 2), counted(3, 1), counted(3, 2), counted(7, 3), counted(40, 40), counted(40, 7), counted(41, 40),
		otherwise(api.State{}), otherwise(counted(5, 2)),
		{Chunks: []string{front(1), front(2), front(1 << 60)}, Places: []api.Place{at(1, 5, 5), at(0, 5, 5), at(1, 0, 5)}},
		{Chunks: []string{strings.Repeat("\x00", 32), strings.Repeat("\xff", 32)}, Places: []api.Place{{Pack: strings.Repeat("\x00", 32), At: 0, Len: mostNode}, {Pack: strings.Repeat("\xff", 32), At: mostBlob - mostNode, Len: mostNode}}},
		{Chunks: digestsOf([]int{2, 4}), Places: []api.Place{{Pack: digest(1), At: 0, Len: 1}, {Pack: digest(2), At: 0, Len: 1}}},
	}
	back := counted(30, 6)
	slices.Reverse(back.Places)
	mixed := counted(60, 60)
	for i := range mixed.Places {
		mixed.Places[i] = at(i*7%5, i*37%60*100, 1+i%100)
	}
	return append(all, back, mixed)
}
