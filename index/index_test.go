package index

import (
	"math"
	"math/rand"
	"reflect"
	"slices"
	"strings"
	"sync"
	"testing"
	"unsafe"

	"strongbox/api"
)

// The chapter's examples.
func TestExamples(t *testing.T) {
	a, b, pack := strings.Repeat("a", 32), strings.Repeat("b", 32), strings.Repeat("p", 32)
	if p, e := Find(api.State{}, a); e != api.ErrNone || p != (api.Place{}) {
		t.Error("Find of no chunks:", p, e)
	}
	if packs, e := Packs(api.State{}); e != api.OK || len(packs) != 0 {
		t.Error("Packs of no chunks:", packs, e)
	}
	first := api.Place{Pack: pack, At: 10, Len: 5}
	one, e := Add(api.State{}, []string{a}, []api.Place{first})
	if e != api.OK || !slices.Equal(one.Chunks, []string{a}) || !slices.Equal(one.Places, []api.Place{first}) {
		t.Fatal("Add:", one, e)
	}
	if p, e := Find(one, a); e != api.OK || p != first {
		t.Error("Find:", p, e)
	}
	if s, e := Add(one, []string{b}, []api.Place{{Pack: pack, At: 12, Len: 5}}); e != api.ErrArg || !same(s, api.State{}) {
		t.Error("Add at 12:", s, e)
	}
	second := api.Place{Pack: pack, At: 15, Len: 5}
	two, e := Add(one, []string{b}, []api.Place{second})
	if e != api.OK || !slices.Equal(two.Chunks, []string{a, b}) || !slices.Equal(two.Places, []api.Place{first, second}) {
		t.Fatal("Add at 15:", two, e)
	}
	if digests, places, e := Of(two, pack); e != api.OK || !slices.Equal(digests, []string{a, b}) || !slices.Equal(places, []api.Place{first, second}) {
		t.Error("Of:", digests, places, e)
	}
	if s, e := Add(two, []string{b}, []api.Place{{Pack: pack, At: 20, Len: 5}}); e != api.ErrTwice || !same(s, api.State{}) {
		t.Error("Add again:", s, e)
	}
}

// P17.1: all kinds of states that may be.
func TestMay(t *testing.T) {
	for _, s := range states() {
		may(t, s)
		may(t, otherwise(s))
	}
}

// P17.1: as many digests as places, one more and one fewer.
func TestAsMany(t *testing.T) {
	for _, s := range states() {
		n := len(s.Chunks)
		for _, more := range []int{1, 2, 1000} {
			digests, places := slices.Clone(s.Chunks), slices.Clone(s.Places)
			for i := range more {
				digests, places = append(digests, front(math.MaxInt-more+i)), append(places, at(77, i, 1))
			}
			mayNot(t, api.State{Chunks: digests, Places: s.Places})
			mayNot(t, api.State{Chunks: s.Chunks, Places: places})
		}
		if n > 0 {
			mayNot(t, api.State{Chunks: s.Chunks[1:], Places: s.Places})
			mayNot(t, api.State{Chunks: s.Chunks[:n-1], Places: s.Places})
			mayNot(t, api.State{Chunks: s.Chunks, Places: s.Places[1:]})
			mayNot(t, api.State{Chunks: s.Chunks, Places: s.Places[:n-1]})
			mayNot(t, api.State{Chunks: s.Chunks})
			mayNot(t, api.State{Places: s.Places})
		}
	}
}

// P17.1: 400 chunks, one fewer and one more.
func TestMostChunks(t *testing.T) {
	for _, each := range []int{1, 200, 400} {
		may(t, counted(399, each))
		may(t, counted(400, each))
		mayNot(t, counted(401, each))
	}
	mayNot(t, counted(402, 50))
	mayNot(t, counted(1000, 100))
}

// P17.1: digests of 31, 32 and 33 bytes, and of others, first, in the middle and last.
func TestDigestSizes(t *testing.T) {
	whole := counted(9, 4)
	for _, i := range []int{0, 1, 4, 7, 8} {
		text := whole.Chunks[i]
		for _, bad := range []string{text[:31], text + "\x00", text + "x", text[:1], "", text + text} {
			s := apartFrom(whole)
			s.Chunks[i] = bad
			mayNot(t, s)
		}
	}
	for _, size := range []int{0, 1, 31, 33, 64, 1 << 16} {
		mayNot(t, api.State{Chunks: []string{strings.Repeat("x", size)}, Places: row(1, 1)})
	}
	may(t, api.State{Chunks: []string{strings.Repeat("x", 32)}, Places: row(1, 1)})
	may(t, api.State{Chunks: []string{strings.Repeat("é", 16)}, Places: row(1, 1)})
	mayNot(t, api.State{Chunks: []string{strings.Repeat("é", 32)}, Places: row(1, 1)})
}

// P17.1: digests that rise, that fall, and two that are alike, side by side and apart.
func TestRising(t *testing.T) {
	whole := counted(9, 4)
	for i := range whole.Chunks {
		for j := range i {
			s := apartFrom(whole)
			s.Chunks[i], s.Chunks[j] = s.Chunks[j], s.Chunks[i]
			mayNot(t, s)
			s.Chunks[i] = s.Chunks[j]
			mayNot(t, s)
			s = apartFrom(whole)
			s.Chunks[i] = s.Chunks[j]
			mayNot(t, s)
			s = apartFrom(whole)
			s.Chunks[j] = s.Chunks[i]
			mayNot(t, s)
		}
	}
	fall := apartFrom(whole)
	slices.Reverse(fall.Chunks)
	mayNot(t, fall)
	// Bytes above 127 are more than those below.
	high, low := "\x80"+strings.Repeat("\x00", 31), "\x7f"+strings.Repeat("\xff", 31)
	may(t, api.State{Chunks: []string{low, high}, Places: row(2, 1)})
	mayNot(t, api.State{Chunks: []string{high, low}, Places: row(2, 1)})
	for i := range 32 {
		text := []byte(strings.Repeat("m", 32))
		text[i]++
		may(t, api.State{Chunks: []string{strings.Repeat("m", 32), string(text)}, Places: row(2, 2)})
		mayNot(t, api.State{Chunks: []string{string(text), strings.Repeat("m", 32)}, Places: row(2, 2)})
	}
}

// edges are places around each edge that the chapter names, those that may be and those that may not.
func edges() []api.Place {
	var all []api.Place
	for _, from := range []int{math.MinInt, -mostNode, -1, 0, 1, 16383, 16384, 16385, mostBlob - 1, mostBlob, mostBlob + 1, 1 << 31, 1 << 32, math.MaxInt - 1, math.MaxInt} {
		for _, size := range []int{math.MinInt, -mostBlob, -1, 0, 1, 2, mostNode - 1, mostNode, mostNode + 1, mostBlob - 1, mostBlob, mostBlob + 1, 1<<32 + 1, math.MaxInt - 1, math.MaxInt} {
			all = append(all, at(3, from, size))
		}
		// Together just MaxBlob, one more and one less.
		for _, sum := range []int{mostBlob - 1, mostBlob, mostBlob + 1} {
			all = append(all, at(3, from, sum-from), at(3, sum-from, from))
		}
	}
	for _, size := range []int{0, 1, 31, 32, 33, 64} {
		all = append(all, api.Place{Pack: strings.Repeat("p", size), At: 10, Len: 5})
	}
	return all
}

// P17.1: places around each edge, alone, and first, in the middle and last of some.
func TestPlaces(t *testing.T) {
	well := 0
	for _, p := range edges() {
		s := api.State{Chunks: []string{digest(5)}, Places: []api.Place{p}}
		if mayAsTold(t, s) {
			well++
			findsAsTold(t, s, digest(5))
			packsAsTold(t, s)
		} else {
			mayNot(t, s)
		}
		for i := range 5 {
			s := counted(5, 2)
			s.Places[i] = p
			mayAsTold(t, s)
		}
	}
	if well < 20 || well > len(edges())/2 {
		t.Error(well, "may be, of", len(edges()))
	}
	for _, p := range []api.Place{at(3, 0, 1), at(3, 0, mostNode), at(3, mostBlob-1, 1), at(3, mostBlob-mostNode, mostNode)} {
		may(t, api.State{Chunks: []string{digest(5)}, Places: []api.Place{p}})
	}
	for _, p := range []api.Place{{}, at(3, -1, 1), at(3, -1, 2), at(3, mostBlob, 1), at(3, mostBlob+1, 1), at(3, 0, 0), at(3, 5, -1), at(3, 0, mostNode+1), at(3, mostBlob-mostNode+1, mostNode), at(3, mostBlob, 0), at(3, math.MaxInt, math.MaxInt), at(3, math.MaxInt, 1), at(3, 1, math.MaxInt), at(3, math.MinInt, math.MinInt), {Pack: packOf(1)[:31], At: 0, Len: 1}, {Pack: packOf(1) + "x", At: 0, Len: 1}} {
		mayNot(t, api.State{Chunks: []string{digest(5)}, Places: []api.Place{p}})
	}
}

// stateOf is a state of chunks at places, as many as there are.
func stateOf(places ...api.Place) api.State {
	return api.State{Chunks: digestsOf(numbers(2, 2, len(places))), Places: places}
}

// pairsOf are two places of one pack that have no byte in common, and two that have.
func pairsOf() (apart, common [][2]api.Place) {
	return [][2]api.Place{
		{at(1, 10, 5), at(1, 15, 5)}, {at(1, 10, 5), at(1, 16, 5)}, {at(1, 10, 5), at(1, 15, 1)}, {at(1, 0, 1), at(1, 1, 1)}, {at(1, 0, mostNode), at(1, mostNode, mostNode)},
		{at(1, 10, 5), at(1, mostBlob-1, 1)}, {at(1, 0, 10), at(1, 10, mostNode)},
	}, [][2]api.Place{
		{at(1, 10, 5), at(1, 14, 5)}, {at(1, 10, 5), at(1, 11, 5)}, {at(1, 10, 5), at(1, 10, 5)}, {at(1, 10, 5), at(1, 10, 4)}, {at(1, 10, 5), at(1, 10, 6)},
		{at(1, 10, 5), at(1, 12, 1)}, {at(1, 10, 5), at(1, 14, 1)}, {at(1, 10, 5), at(1, 9, 2)}, {at(1, 10, 5), at(1, 9, 7)}, {at(1, 10, 1), at(1, 10, 1)},
		{at(1, 0, mostNode), at(1, mostNode-1, mostNode)}, {at(1, 0, mostNode), at(1, 5, 1)}, {at(1, mostNode, mostNode), at(1, mostBlob-1, 1)},
	}
}

// P17.1: two places of one pack that touch, that have bytes in common, that lie in one another, the first one ahead and behind, with others between; the same bytes of two packs.
func TestTwoPlaces(t *testing.T) {
	others := [][]api.Place{nil, {at(2, 10, 5)}, {at(2, 10, 5), at(0, 11, 5)}, {at(2, 0, mostNode), at(0, 0, mostNode), at(0, mostNode, 5)}}
	each := func(p [2]api.Place, held func(*testing.T, api.State)) {
		t.Helper()
		for _, list := range others {
			for _, two := range [][]api.Place{{p[0], p[1]}, {p[1], p[0]}} {
				held(t, stateOf(slices.Concat(two, list)...))
				held(t, stateOf(slices.Concat(list, two)...))
				held(t, stateOf(slices.Concat(two[:1], list, two[1:])...))
			}
		}
	}
	apart, common := pairsOf()
	for _, p := range apart {
		each(p, may)
	}
	for _, p := range common {
		each(p, mayNot)
		p[1].Pack = packOf(9)
		each(p, may)
	}
	// Others of that pack stand between: the one that lies in the other is not the next one behind it.
	may(t, stateOf(at(1, 15, 5), at(1, 20, 5), at(1, 10, 5), at(1, 0, 10)))
	mayNot(t, stateOf(at(1, 0, 100), at(1, 10, 5), at(1, 50, 5)))
	mayNot(t, stateOf(at(1, 50, 5), at(1, 100, 5), at(1, 0, 60)))
	mayNot(t, stateOf(at(1, 0, 10), at(1, 10, 10), at(1, 20, 10), at(1, 5, 10)))
	mayNot(t, stateOf(at(1, 30, 10), at(1, 10, 10), at(1, 20, 10), at(1, 39, 10)))
}

// P17.1: packs that differ in a byte alone, at each place of it, are two.
func TestPacksOfOtherBytes(t *testing.T) {
	for i := range 32 {
		other := []byte(packOf(1))
		other[i] ^= 1
		s := stateOf(at(1, 10, 5), api.Place{Pack: string(other), At: 12, Len: 5})
		may(t, s)
		s.Places[0], s.Places[1] = s.Places[1], s.Places[0]
		may(t, s)
	}
}

// P17.1: each chunk is found where it stands, of any number of them, and none that is not there.
func TestFind(t *testing.T) {
	for n := range 70 {
		s := counted(n, 9)
		for i := range 2*n + 4 {
			p, e := Find(s, digest(i))
			if i%2 == 0 && 2 <= i && i <= 2*n {
				if e != api.OK || p != s.Places[i/2-1] {
					t.Errorf("%d of %d: %s, %d", i, n, shownPlace(p), e)
				}
			} else if e != api.ErrNone || p != (api.Place{}) {
				t.Errorf("%d of %d: %s, %d", i, n, shownPlace(p), e)
			}
		}
	}
}

// news are digests and places that may be added to the counted states, in no order.
func news(n int) (digests []string, places []api.Place) {
	for i := range n {
		digests, places = append(digests, digest(1+i*7919%5003*2)), append(places, at(100+i%3, 7000-i*11, 11))
	}
	return digests, places
}

// P17.2: one chunk more, at each place among the others, into a pack that is there and another one.
func TestAddOne(t *testing.T) {
	for n := range 30 {
		s := counted(n, 7)
		for i := range n + 1 {
			more, e := addsAsTold(t, s, []string{digest(2*i + 1)}, []api.Place{at(0, 5000, 9)})
			if e != api.OK || len(more.Chunks) != n+1 || more.Chunks[i] != digest(2*i+1) {
				t.Errorf("%d of %d: %d", i, n, e)
			}
			addsAsTold(t, otherwise(s), []string{digest(2*i + 1)}, []api.Place{at(99, 10, 7)})
		}
	}
}

// P17.2: many chunks more, in whatever row.
func TestAddMany(t *testing.T) {
	for _, s := range states() {
		for _, n := range []int{1, 2, 3, 10, 50} {
			digests, places := news(n)
			if slices.ContainsFunc(digests, func(text string) bool { return slices.Contains(s.Chunks, text) }) {
				digests[0] = digest(99999)
			}
			more, e := addsAsTold(t, s, digests, places)
			rows := rand.New(rand.NewSource(17))
			for range 5 {
				rows.Shuffle(n, func(i, j int) {
					digests[i], digests[j] = digests[j], digests[i]
					places[i], places[j] = places[j], places[i]
				})
				if again, e2 := addsAsTold(t, s, digests, places); e2 != e || !same(again, more) {
					t.Errorf("in another row: %s, %d, not %s, %d", shownState(again), e2, shownState(more), e)
				}
			}
		}
	}
}

// P17.2, the errors: none, more digests than places, and fewer; such as may not be, first, in the middle and last.
func TestAddArgs(t *testing.T) {
	for _, s := range states() {
		digests, places := news(5)
		digests[1] = front(77)
		for _, e := range []api.Errno{
			add(t, s, nil, nil), add(t, s, []string{}, []api.Place{}), add(t, s, digests, places[:4]), add(t, s, digests[:4], places),
			add(t, s, digests, nil), add(t, s, nil, places), add(t, s, digests[:1], nil), add(t, s, nil, places[:1]),
		} {
			if e != api.ErrArg {
				t.Errorf("to %s: %d", shownState(s), e)
			}
		}
		for i := range digests {
			for _, bad := range []string{"", digests[i][:31], digests[i] + "\x00", "x"} {
				other := slices.Clone(digests)
				other[i] = bad
				if e := add(t, s, other, places); e != api.ErrArg {
					t.Errorf("a digest of %s: %d", brief(bad), e)
				}
			}
			for _, p := range edges() {
				other := slices.Clone(places)
				other[i] = p
				if e := add(t, s, digests, other); e != api.ErrArg && !soundPlace(p) {
					t.Errorf("a place %s: %d", shownPlace(p), e)
				}
			}
		}
	}
}

// add is what Add answers, held against the chapter's words.
func add(t *testing.T, s api.State, digests []string, places []api.Place) api.Errno {
	t.Helper()
	_, e := addsAsTold(t, s, digests, places)
	return e
}

// P17.2, the errors: one that is there already, first, in the middle and last; one that stands twice in what is handed in, side by side and apart, at another place or the same.
func TestAddTwice(t *testing.T) {
	s := counted(9, 4)
	for _, there := range s.Chunks {
		for i := range 4 {
			digests, places := news(4)
			digests[i] = there
			if e := add(t, s, digests, places); e != api.ErrTwice {
				t.Errorf("%d: %d", i, e)
			}
		}
		if e := add(t, s, []string{there}, []api.Place{s.Places[0]}); e != api.ErrTwice {
			t.Error(e)
		}
	}
	for _, s := range states() {
		digests, places := news(6)
		digests[0] = front(77)
		for i := range digests {
			for j := range i {
				twice, two := slices.Clone(digests), slices.Clone(places)
				twice[i] = twice[j]
				if e := add(t, s, twice, two); e != api.ErrTwice {
					t.Errorf("%d, %d: %d", j, i, e)
				}
				two[i] = two[j]
				if e := add(t, s, twice, two); e != api.ErrTwice {
					t.Errorf("%d, %d, at one place: %d", j, i, e)
				}
			}
		}
		if len(s.Chunks) > 0 {
			if e := add(t, s, s.Chunks, s.Places); e != api.ErrTwice {
				t.Error(e)
			}
		}
	}
}

// P17.2, the errors: 400 in all, and one more.
func TestAddTooMany(t *testing.T) {
	for _, n := range []int{0, 1, 100, 350, 398, 399, 400} {
		s := counted(n, 50)
		for _, more := range []int{mostChunks - n - 1, mostChunks - n, mostChunks - n + 1, mostChunks, mostChunks + 1} {
			digests, places := news(max(more, 1))
			want := api.OK
			if n+len(digests) > mostChunks {
				want = api.ErrTooLarge
			}
			if e := add(t, s, digests, places); e != want {
				t.Errorf("%d and %d: %d", n, len(digests), e)
			}
		}
	}
}

// P17.2, the errors: places that run into one of the state's, or into another one that is added; and those that touch them.
func TestAddInto(t *testing.T) {
	apart, common := pairsOf()
	far := []api.Place{at(2, 10, 5), at(0, 10, 5)}
	for i, pairs := range [][][2]api.Place{apart, common} {
		want := []api.Errno{api.OK, api.ErrArg}[i]
		for _, p := range pairs {
			for _, two := range [][2]api.Place{p, {p[1], p[0]}} {
				for _, new := range []int{1, 3, 7} {
					if e := add(t, stateOf(two[0]), []string{digest(new)}, two[1:]); e != want {
						t.Errorf("%s: %d", shown(nil, two[:]), e)
					}
					if e := add(t, stateOf(slices.Concat(far, two[:1])...), digestsOf([]int{new, 9}), []api.Place{at(5, 0, 9), two[1]}); e != want {
						t.Errorf("%s, with others: %d", shown(nil, two[:]), e)
					}
				}
				if e := add(t, api.State{}, digestsOf([]int{7, 5}), two[:]); e != want {
					t.Errorf("both new, %s: %d", shown(nil, two[:]), e)
				}
				if e := add(t, stateOf(far...), digestsOf([]int{7, 9, 3}), []api.Place{two[0], at(5, 0, 9), two[1]}); e != want {
					t.Errorf("both new, with others, %s: %d", shown(nil, two[:]), e)
				}
			}
		}
	}
}

// R5: of several errors of Add the first one.
func TestAddErrorsInOrder(t *testing.T) {
	full, bad := counted(mostChunks, 50), counted(mostChunks+1, 50)
	there, fresh := full.Chunks[7], digest(9999)
	into, none, well := full.Places[3], at(0, -1, 1), at(77, 0, 1)
	for _, c := range []struct {
		s       api.State
		digests []string
		places  []api.Place
		e       api.Errno
	}{
		{bad, nil, nil, api.ErrForm},
		{bad, []string{"x"}, []api.Place{none}, api.ErrForm},
		{bad, []string{there, there}, []api.Place{into, into}, api.ErrForm},
		{full, nil, nil, api.ErrArg},
		{full, []string{there, fresh}, []api.Place{well}, api.ErrArg},
		{full, []string{there, "x"}, []api.Place{into, into}, api.ErrArg},
		{full, []string{there, there, fresh}, []api.Place{into, into, none}, api.ErrArg},
		{full, []string{fresh, fresh}, []api.Place{well, none}, api.ErrArg},
		{full, []string{fresh, there}, []api.Place{well, into}, api.ErrTwice},
		{full, []string{fresh, fresh}, []api.Place{well, well}, api.ErrTwice},
		{full, []string{there}, []api.Place{into}, api.ErrTwice},
		{full, []string{fresh}, []api.Place{into}, api.ErrTooLarge},
		{full, []string{fresh, digest(1)}, []api.Place{well, well}, api.ErrTooLarge},
		{counted(mostChunks-1, 50), []string{fresh}, []api.Place{into}, api.ErrArg},
		{counted(mostChunks-1, 50), []string{fresh, digest(1)}, []api.Place{into, into}, api.ErrTooLarge},
		{counted(3, 3), []string{there, digest(3)}, []api.Place{into, into}, api.ErrArg},
	} {
		if e := add(t, c.s, c.digests, c.places); e != c.e {
			t.Errorf("%s: %d, not %d", shown(c.digests, c.places), e, c.e)
		}
	}
}

// P17.2: without none, one, some and all; told twice, and in whatever row; one that is not there, wherever it is told.
func TestDrop(t *testing.T) {
	for _, s := range append(states(), counted(mostChunks, 50)) {
		for i := 0; i < len(s.Chunks); i += 1 + len(s.Chunks)/40 {
			text := s.Chunks[i]
			less, e := dropsAsTold(t, s, []string{text})
			if e != api.OK || len(less.Chunks) != len(s.Chunks)-1 {
				t.Errorf("the chunk %d of %s: %d", i, shownState(s), e)
			}
			twice, e := dropsAsTold(t, s, []string{text, text, text})
			if e != api.OK || !same(twice, less) {
				t.Errorf("the chunk %d of %s, told thrice: %d", i, shownState(s), e)
			}
			dropsAsTold(t, s, s.Chunks[:i])
			dropsAsTold(t, s, s.Chunks[i:])
			dropsAsTold(t, s, slices.Concat(s.Chunks[i:], s.Chunks, s.Chunks[:i]))
			for _, bad := range nowhere(s) {
				for _, digests := range [][]string{{bad, text}, {text, bad}, {text, bad, text}, append(slices.Clone(s.Chunks), bad)} {
					if _, e := dropsAsTold(t, s, digests); e != api.ErrNone {
						t.Errorf("%s: %d", brief(bad), e)
					}
				}
			}
		}
		back := slices.Clone(s.Chunks)
		slices.Reverse(back)
		if less, e := dropsAsTold(t, s, back); e != api.OK || len(less.Chunks) != 0 || len(less.Places) != 0 || less.Next != s.Next {
			t.Errorf("all of %s: %d", shownState(s), e)
		}
		may(t, otherwise(s))
	}
}

// P17.2: packs are told once each, rising, whatever the row in which their chunks stand; and their chunks by rising At.
func TestPacksInOrder(t *testing.T) {
	s := stateOf(at(3, 20, 5), at(9, 0, 5), at(3, 0, 5), at(1, 7, 5), at(9, 30, 5), at(3, 10, 5), at(9, 15, 5))
	packs, e := Packs(s)
	if e != api.OK || !slices.Equal(packs, []string{packOf(9), packOf(3), packOf(1)}) {
		t.Errorf("%s, %d", shown(packs, nil), e)
	}
	digests, places, e := Of(s, packOf(9))
	if e != api.OK || !slices.Equal(digests, digestsOf([]int{4, 14, 10})) || !slices.Equal(places, []api.Place{at(9, 0, 5), at(9, 15, 5), at(9, 30, 5)}) {
		t.Errorf("%s, %d", shown(digests, places), e)
	}
	for range 30 { // no order of a map's shows
		packsAsTold(t, s)
		packsAsTold(t, counted(100, 3))
	}
	for _, pack := range []string{"", packOf(2), packOf(3)[:31], packOf(3) + "x", digest(2)} {
		if digests, places, e := Of(s, pack); e != api.ErrNone || len(digests)+len(places) != 0 {
			t.Errorf("%s: %s, %d", brief(pack), shown(digests, places), e)
		}
	}
}

// P17.3: what Add and Drop tell may be; what was added is found, what was dropped is not; all others stand where they stood.
func TestStillStand(t *testing.T) {
	for _, s := range states() {
		digests, places := news(20)
		digests[4] = front(1 << 50)
		more, e := Add(s, digests, places)
		if e != api.OK || !May(more) {
			t.Fatalf("to %s: %d", shownState(s), e)
		}
		stands := func(in api.State, digests []string, places []api.Place) {
			t.Helper()
			for i, text := range digests {
				if p, e := Find(in, text); e != api.OK || p != places[i] {
					t.Errorf("%s: %s, %d", brief(text), shownPlace(p), e)
				}
			}
		}
		stands(more, digests, places)
		stands(more, s.Chunks, s.Places)
		half := len(s.Chunks) / 2
		less, e := Drop(more, slices.Concat(digests[:9], s.Chunks[half:]))
		if e != api.OK || !May(less) || less.Code != s.Code || less.Next != s.Next || !slices.Equal(less.Snaps, s.Snaps) {
			t.Fatalf("from %s: %d", shownState(more), e)
		}
		stands(less, digests[9:], places[9:])
		stands(less, s.Chunks[:half], s.Places[:half])
		for _, text := range slices.Concat(digests[:9], s.Chunks[half:]) {
			if p, e := Find(less, text); e != api.ErrNone || p != (api.Place{}) {
				t.Errorf("%s: %s, %d", brief(text), shownPlace(p), e)
			}
		}
	}
}

// P17.4: Drop of what was added is as it was; and what was dropped may be added again.
func TestBack(t *testing.T) {
	for _, s := range states() {
		for _, n := range []int{1, 2, 20, 200} {
			digests, places := news(n)
			digests[0] = front(1 << 50)
			more, e := Add(s, digests, places)
			if e != api.OK {
				t.Fatalf("to %s: %d", shownState(s), e)
			}
			slices.Reverse(digests)
			if back, e := Drop(more, digests); e != api.OK || !same(back, s) {
				t.Errorf("%s, not %s, %d", shownState(back), shownState(s), e)
			}
		}
		if len(s.Chunks) == 0 {
			continue
		}
		none, _ := Drop(s, s.Chunks)
		if again, e := Add(none, s.Chunks, s.Places); e != api.OK || !same(again, s) {
			t.Errorf("%s, not %s, %d", shownState(again), shownState(s), e)
		}
	}
}

// P17.5: the chunks of all packs, put together, are all chunks, each once.
func TestEachInOne(t *testing.T) {
	for _, s := range append(states(), counted(mostChunks, 50), counted(mostChunks, 1)) {
		packs, e := Packs(s)
		if e != api.OK {
			t.Fatal(e)
		}
		var all []string
		for _, pack := range packs {
			digests, places, e := Of(s, pack)
			if e != api.OK || len(digests) == 0 || len(places) != len(digests) {
				t.Fatalf("%s: %s, %d", brief(pack), shown(digests, places), e)
			}
			for i, text := range digests {
				if p, _ := Find(s, text); p != places[i] || p.Pack != pack {
					t.Errorf("%s: %s, not %s", brief(text), shownPlace(places[i]), shownPlace(p))
				}
			}
			all = append(all, digests...)
		}
		slices.Sort(all)
		if !slices.Equal(all, s.Chunks) {
			t.Errorf("%s, not %s", shown(all, nil), shownState(s))
		}
	}
}

// All promises: chunks and places at random, one step behind the other, a few of them such as may not be.
func TestAtRandom(t *testing.T) {
	random := rand.New(rand.NewSource(17))
	count := map[api.Errno]int{}
	s := api.State{Next: 3}
	for range 6000 {
		var digests []string
		var places []api.Place
		for range 1 + random.Intn(3) {
			digests = append(digests, digest(random.Intn(120)))
			places = append(places, at(random.Intn(6), random.Intn(300)-1, random.Intn(12)))
		}
		more, e := addsAsTold(t, s, digests, places)
		if count[e]++; e == api.OK {
			s = more
		}
		less, e := dropsAsTold(t, s, digests[:random.Intn(len(digests)+1)])
		if count[e]++; e == api.OK && random.Intn(4) > 0 {
			s = less
		}
		findsAsTold(t, s, digests[0])
		if random.Intn(20) == 0 {
			packsAsTold(t, s)
		}
	}
	for _, e := range []api.Errno{api.OK, api.ErrArg, api.ErrTwice, api.ErrNone} {
		if count[e] < 100 {
			t.Errorf("%d times %d", count[e], e)
		}
	}
}

// lentText is a text over memory that is written to later.
func lentText(text string) (string, []byte) {
	room := []byte("<" + text + ">")
	return unsafe.String(&room[1], len(text)), room
}

// lender hands out what is written over later.
type lender struct{ rooms [][]byte }

func (l *lender) text(text string) string {
	lent, room := lentText(text)
	l.rooms = append(l.rooms, room)
	return lent
}

// digests are texts in a list behind whose end others stand.
func (l *lender) digests(texts []string) []string {
	list := make([]string, 0, len(texts)+2)
	for _, text := range texts {
		list = append(list, l.text(text))
	}
	copy(list[len(list):cap(list)], []string{digest(4), ""})
	return list
}

// places are likewise.
func (l *lender) places(places []api.Place) []api.Place {
	list := make([]api.Place, 0, len(places)+2)
	for _, p := range places {
		p.Pack = l.text(p.Pack)
		list = append(list, p)
	}
	copy(list[len(list):cap(list)], []api.Place{at(0, 10, 7), {}})
	return list
}

// state is likewise.
func (l *lender) state(s api.State) api.State {
	snaps := make([]api.Snap, 0, len(s.Snaps)+2)
	for _, snap := range s.Snaps {
		snap.Root = l.text(snap.Root)
		snaps = append(snaps, snap)
	}
	copy(snaps[len(snaps):cap(snaps)], []api.Snap{{ID: 1}, {ID: 2}})
	s.Snaps, s.Chunks, s.Places = snaps, l.digests(s.Chunks), l.places(s.Places)
	return s
}

// untouched says whether a state is as it was, and what stands behind the ends of its lists too.
func untouched(s, was api.State) bool {
	snaps, chunks, places := s.Snaps[:cap(s.Snaps)], s.Chunks[:cap(s.Chunks)], s.Places[:cap(s.Places)]
	return same(s, was) && slices.Equal(snaps[len(s.Snaps):], []api.Snap{{ID: 1}, {ID: 2}}) && slices.Equal(chunks[len(s.Chunks):], []string{digest(4), ""}) && slices.Equal(places[len(s.Places):], []api.Place{at(0, 10, 7), {}})
}

// end writes over all that was lent.
func (l *lender) end(states ...api.State) {
	for _, room := range l.rooms {
		for i := range room {
			room[i] = '?'
		}
	}
	for _, s := range states {
		spoil(s)
	}
}

// spoil writes over all lists of a state, their spare room too.
func spoil(s api.State) {
	snaps, chunks, places := s.Snaps[:cap(s.Snaps)], s.Chunks[:cap(s.Chunks)], s.Places[:cap(s.Places)]
	for i := range snaps {
		snaps[i] = api.Snap{ID: -1}
	}
	for i := range chunks {
		chunks[i] = "x"
	}
	for i := range places {
		places[i] = api.Place{Pack: "x"}
	}
}

// R3: what was handed in is not changed, not read beyond its end and not kept: what the caller does to it later shows in no answer.
func TestNothingKept(t *testing.T) {
	for _, was := range states() {
		was.Snaps = []api.Snap{{ID: 1, Time: 2, Root: digest(5)}, {Root: "r"}}
		digests, places := news(7)
		digests[2] = front(1 << 40)
		l := &lender{}
		s, newDigests, newPlaces := l.state(was), l.digests(digests), l.places(places)
		some := l.digests(was.Chunks[len(was.Chunks)/2:])
		more, e := Add(s, newDigests, newPlaces)
		less, e2 := Drop(s, some)
		packs, e3 := Packs(s)
		if e != api.OK || e2 != api.OK || e3 != api.OK || !May(s) {
			t.Fatal(e, e2, e3)
		}
		var found []api.Place
		for _, text := range s.Chunks {
			p, _ := Find(s, text)
			found = append(found, p)
		}
		inDigests, inPlaces, _ := Of(s, packOf(0))
		if !untouched(s, was) || !untouched(api.State{Snaps: s.Snaps, Chunks: newDigests, Places: newPlaces}, api.State{Snaps: was.Snaps, Chunks: digests, Places: places}) || !slices.Equal(some[:cap(some)], slices.Concat(was.Chunks[len(was.Chunks)/2:], []string{digest(4), ""})) {
			t.Errorf("%s was changed", shownState(was))
		}
		l.end(s, api.State{Chunks: newDigests, Places: newPlaces}, api.State{Chunks: some})
		wantMore, _ := toldAdd(was, digests, places)
		wantLess, _ := toldDrop(was, was.Chunks[len(was.Chunks)/2:])
		wantPacks, _ := toldPacks(was)
		wantDigests, wantPlaces, _ := toldOf(was, packOf(0))
		if !same(more, wantMore) || !same(less, wantLess) || !slices.Equal(packs, wantPacks) || !slices.Equal(found, was.Places) || !slices.Equal(inDigests, wantDigests) || !slices.Equal(inPlaces, wantPlaces) {
			t.Errorf("%s: the answers are tied to it", shownState(was))
		}
	}
}

// span is the memory of a list, its spare room too.
type span struct{ from, to uintptr }

func spansOf(lists ...any) []span {
	var spans []span
	for _, list := range lists {
		v := reflect.ValueOf(list)
		if v.Cap() > 0 {
			spans = append(spans, span{v.Pointer(), v.Pointer() + uintptr(v.Cap())*v.Type().Elem().Size()})
		}
	}
	return spans
}

// R3: what is handed out, its spare room too, is new memory: no list of an answer shares any with another one, nor with what was handed in.
func TestNewMemory(t *testing.T) {
	for _, s := range append(states(), counted(300, 50)) {
		s.Snaps = []api.Snap{{ID: 1, Time: 2, Root: digest(5)}}
		digests, places := news(7)
		digests[2] = front(1 << 40)
		more, _ := Add(s, digests, places)
		again, _ := Add(s, digests, places)
		less, _ := Drop(s, nil)
		none, _ := Drop(s, s.Chunks)
		packs, _ := Packs(s)
		twice, _ := Packs(s)
		inDigests, inPlaces, _ := Of(s, packOf(0))
		other, others, _ := Of(s, packOf(0))
		spans := spansOf(digests, places, packs, twice, inDigests, inPlaces, other, others)
		for _, each := range []api.State{s, more, again, less, none} {
			spans = append(spans, spansOf(each.Snaps, each.Chunks, each.Places)...)
		}
		slices.SortFunc(spans, func(a, b span) int {
			if a.from < b.from {
				return -1
			}
			return 1
		})
		for i := 1; i < len(spans); i++ {
			if spans[i].from < spans[i-1].to {
				t.Errorf("%s: two lists share memory", shownState(s))
			}
		}
		was := apartFrom(s)
		for _, each := range []api.State{more, less, none, {Chunks: packs}, {Chunks: inDigests, Places: inPlaces}} {
			spoil(each)
		}
		want, _ := toldAdd(was, digests, places)
		if !same(s, was) || !same(again, want) {
			t.Errorf("%s: what was written into an answer shows elsewhere", shownState(s))
		}
		may(t, s)
	}
}

// R2: nothing is left behind: neither the order of calls counts, nor how many there are at a time.
func TestNothingLeft(t *testing.T) {
	all := states()
	var wait sync.WaitGroup
	for g := range 8 {
		wait.Go(func() {
			for i := range all {
				s := all[(i*(2*g+1)+g)%len(all)]
				digests, places := news(5)
				addsAsTold(t, s, digests, places)
				dropsAsTold(t, s, s.Chunks)
				packsAsTold(t, s)
				mayAsTold(t, api.State{Chunks: s.Chunks, Places: append(places, s.Places...)})
			}
		})
	}
	wait.Wait()
	for range 20 {
		may(t, all[5])
		mayNot(t, counted(401, 50))
	}
}
