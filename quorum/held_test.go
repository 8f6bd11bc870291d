package quorum

import (
	"testing"

	"strongbox/api"
	"strongbox/world"
)

// R1, P12.2: no world is a wrong argument, in all six calls, whatever else is handed in.
func TestNoWorld(t *testing.T) {
	for _, base := range []Best{{}, man(1, 1, "x"), man(-1, 1, "x"), man(1, api.MaxCount, sample(room+1, 1)), {Code: two(0, 0)}, {Code: two(1, 13)}} {
		for _, c := range sixOver(base) {
			refuses(t, nil, c, api.ErrArg, 0)
		}
		// One that no call made has no stores; no code is its.
		for _, c := range sixOver(base) {
			if c.name == "Write" || c.name == "Init" {
				refuses(t, &world.World{}, c, api.ErrArg, 0)
			} else {
				c.do(&world.World{})
			}
		}
	}
}

// Each call gets m0 and m1 of each store, whether it answers or not, and no other object is touched.
func TestOthersLeft(t *testing.T) {
	for _, c := range few() {
		w := of(t, c.N)
		for i := range c.N {
			for _, name := range []string{"m", "m00", "m2", "M0", "pack"} {
				put(t, w, i, name, bytesOf(Best{Stamp: stamp(9, 9), Code: c, Body: "stray"}))
			}
		}
		strangers := func() {
			t.Helper()
			for i := range c.N {
				stray := 0
				for _, o := range w.Objects(i) {
					if o.Name != "m0" && o.Name != "m1" {
						same(t, o.Data, bytesOf(Best{Stamp: stamp(9, 9), Code: c, Body: "stray"}))
						stray++
					}
				}
				same(t, stray, 5)
			}
		}
		refuses(t, w, reading(), api.ErrNone, 2*c.N)
		refuses(t, w, opening(), api.ErrNone, 2*c.N)
		b := Best{Stamp: stamp(1, 1), Code: c, Body: "x"}
		does(t, w, starting(c, "x"), b, api.OK, 4*c.N)
		b.Stamp.Gen, b.Body = 2, "new"
		does(t, w, writing(Best{Stamp: stamp(1, 1), Code: c}, "new"), b, api.OK, 4*c.N)
		b.Stamp.Epoch = 2
		does(t, w, opening(), b, api.OK, 5*c.N)
		does(t, w, reading(), b, api.OK, 2*c.N)
		strangers()
		for i := range c.N {
			strike(t, w, api.Fault{Kind: api.Lose, Store: i, N: 2})
		}
		does(t, w, mending(b), Best{}, api.OK, 4*c.N)
		strangers()
	}
}

// slotCase is what a store has, and into which slot a manifest is put over the stamp 2, 3.
type slotCase struct {
	name   string
	m0, m1 string
	taken  string
}

// slotCases are all the ways that the chapter's words list.
func slotCases() []slotCase {
	base, other := bytesOf(man(2, 3, "base")), bytesOf(man(2, 3, "other"))
	less, more := bytesOf(man(2, 2, "less")), bytesOf(man(2, 4, "more"))
	early, late := bytesOf(man(1, 9, "early")), bytesOf(man(3, 0, "late"))
	foreign := bytesOf(Best{Stamp: stamp(2, 3), Code: two(2, 4), Body: "base"})
	wrong, lowest := base[:len(base)-1], bytesOf(man(0, 0, ""))
	k3 := bytesOf(Best{Stamp: stamp(2, 3), Code: two(3, 3), Body: "base"})
	return []slotCase{
		{"nothing", "", "", "m0"},
		{"the base in m0", base, "", "m1"},
		{"the base in m1", "", base, "m0"},
		{"the base in m0, less in m1", base, less, "m1"},
		{"the base in m0, more in m1", base, more, "m1"},
		{"the base in m1, less in m0", less, base, "m0"},
		{"the base in m1, more in m0", more, base, "m0"},
		{"the base in both", base, base, "m1"},
		{"the base's stamp in m0", other, base, "m1"},
		{"the base's stamp in m1", less, other, "m0"},
		{"the base's stamp of another K in m0", k3, less, "m1"},
		{"the base's stamp of another K in m1", late, k3, "m0"},
		{"wrong in m0", wrong, "", "m0"},
		{"wrong in m1", "", wrong, "m0"},
		{"wrong in both", wrong, wrong, "m0"},
		{"wrong in m0, the base in m1", wrong, base, "m0"},
		{"wrong in m1, the base in m0", base, wrong, "m1"},
		{"wrong in m0, less in m1", wrong, less, "m0"},
		{"wrong in m1, less in m0", less, wrong, "m1"},
		{"wrong in m0, more in m1", wrong, more, "m0"},
		{"wrong in m1, more in m0", more, wrong, "m1"},
		{"less in m0 alone", less, "", "m1"},
		{"less in m1 alone", "", less, "m0"},
		{"more in m0 alone", more, "", "m1"},
		{"more in m1 alone", "", more, "m0"},
		{"the lowest in m0 alone", lowest, "", "m1"},
		{"the lowest in m1 alone", "", lowest, "m0"},
		{"the lowest in m0, wrong in m1", lowest, wrong, "m1"},
		{"the lowest in both", lowest, lowest, "m0"},
		{"the base of another N in m0", foreign, less, "m0"},
		{"the base of another N in m1", less, foreign, "m1"},
		{"the base of another N in both", foreign, foreign, "m0"},
		{"less, more", less, more, "m0"},
		{"more, less", more, less, "m1"},
		{"early, less", early, less, "m0"},
		{"less, early", less, early, "m1"},
		{"late, more", late, more, "m1"},
		{"more, late", more, late, "m0"},
		{"early, late", early, late, "m0"},
		{"late, early", late, early, "m1"},
		{"less in both", less, less, "m0"},
		{"more in both", more, more, "m0"},
		{"late in both", late, late, "m0"},
	}
}

// holding is a world of three stores, of which one has what a case says.
func holding(t *testing.T, at int, s slotCase) *world.World {
	t.Helper()
	w := of(t, 3)
	for slot, data := range map[string]string{"m0": s.m0, "m1": s.m1} {
		if data != "" {
			put(t, w, at, slot, data)
		}
	}
	return w
}

// tells fails if a store has other data in its slots; an empty text is no object.
func tells(t *testing.T, w *world.World, at int, m0, m1 string) {
	t.Helper()
	var want []string
	if m0 != "" {
		want = append(want, "m0", m0)
	}
	if m1 != "" {
		want = append(want, "m1", m1)
	}
	holds(t, w, at, want...)
}

// put is what its store's slots have behind a manifest's data was put.
func (s slotCase) put(data string) (m0, m1 string) {
	if s.taken == "m0" {
		return data, s.m1
	}
	return s.m0, data
}

// P12.1, P12.2: which slot Write and Mend take, whichever store it is; the other one stays as it was.
func TestWhichSlot(t *testing.T) {
	base := man(2, 3, "base")
	for _, s := range slotCases() {
		t.Log(s.name)
		for at := range 3 {
			w := holding(t, at, s)
			next := man(2, 4, "new")
			does(t, w, writing(base, "new"), next, api.OK, 6+6)
			m0, m1 := s.put(bytesOf(next))
			tells(t, w, at, m0, m1)
			for i := range 3 {
				if i != at {
					tells(t, w, i, bytesOf(next), "")
				}
			}

			w = holding(t, at, s)
			m0, m1 = s.put(bytesOf(base))
			calls := 6 + 6
			if s.m0 == bytesOf(base) || s.m1 == bytesOf(base) {
				m0, m1, calls = s.m0, s.m1, calls-2
			}
			does(t, w, mending(base), Best{}, api.OK, calls)
			tells(t, w, at, m0, m1)
		}
	}
}

// P12.1: which slots Open takes, twice where the newest is in neither: it stays beside what is put under the next epoch.
func TestWhichSlotsOpened(t *testing.T) {
	base := man(2, 3, "base")
	for _, s := range slotCases() {
		for _, at := range []int{1, 2} {
			w := holding(t, at, s)
			// Of those of the base's stamp the one of store 0 is met first.
			lay(t, w, 0, base, Best{})
			best := newestOf(base, s)
			next := best
			next.Stamp.Epoch++
			t.Log(s.name)
			was, e := Open(w)
			same(t, e, api.OK)
			same(t, was, next)
			tells(t, w, 3-at, bytesOf(best), bytesOf(next))

			over := slotCase{m0: s.m0, m1: s.m1}
			over.taken = slotBy(over, best.Stamp)
			if s.m0 != bytesOf(best) && s.m1 != bytesOf(best) {
				over.m0, over.m1 = over.put(bytesOf(best))
				over.taken = slotBy(over, best.Stamp)
			}
			m0, m1 := over.put(bytesOf(next))
			tells(t, w, at, m0, m1)
		}
	}
}

// newestOf is that of a manifest, and of what a case says behind it.
func newestOf(best Best, s slotCase) Best {
	for _, data := range []string{s.m0, s.m1} {
		m, is := manOf(data)
		if is && m.Code.N == 3 && (m.Stamp.Epoch > best.Stamp.Epoch || m.Stamp.Epoch == best.Stamp.Epoch && m.Stamp.Gen > best.Stamp.Gen) {
			best = m
		}
	}
	return best
}

// slotBy is the slot that the chapter's words name for a store of three.
func slotBy(s slotCase, base api.Stamp) string {
	a, isA := manOf(s.m0)
	b, isB := manOf(s.m1)
	isA, isB = isA && a.Code.N == 3, isB && b.Code.N == 3
	if isA && a.Stamp == base {
		return "m1"
	}
	if isB && b.Stamp == base {
		return "m0"
	}
	if !isA {
		return "m0"
	}
	if !isB {
		return "m1"
	}
	if b.Stamp.Epoch < a.Stamp.Epoch || b.Stamp.Epoch == a.Stamp.Epoch && b.Stamp.Gen < a.Stamp.Gen {
		return "m1"
	}
	return "m0"
}

// The cases name what the words do.
func TestSlotCases(t *testing.T) {
	for _, s := range slotCases() {
		if got := slotBy(s, stamp(2, 3)); got != s.taken {
			t.Errorf("%s: %s", s.name, got)
		}
	}
}

// answeringFirst is what all stores have, as if all answered, of a world in which some then do so no more: so their puts and syncs are refused, as no store's are within a call.
func answeringFirst(t *testing.T, w *world.World, silent int) []held {
	t.Helper()
	all, e := gather(w)
	same(t, e, api.OK)
	strikeAll(t, w, silent, down)
	return all
}

// P12.1: a store has the newest, or has taken the next one, only if the sync was OK: which ones refuse it, and how many, on the inner steps.
func TestSyncsRefused(t *testing.T) {
	for _, c := range few() {
		for silent := range 1 << c.N {
			want := api.OK
			if c.N-ones(silent) < c.K {
				want = api.ErrIO
			}
			w, b := begun(t, c, "x")
			same(t, settle(w, answeringFirst(t, w, silent), b), want)

			w = of(t, c.N)
			same(t, settle(w, answeringFirst(t, w, silent), b), want)

			w, b = begun(t, c, "x")
			next, e := spread(w, answeringFirst(t, w, silent), Best{Stamp: stamp(1, 2), Code: c, Body: "y"}, b.Stamp)
			same(t, e, want)
			if e == api.OK {
				b.Stamp.Gen, b.Body = 2, "y"
				same(t, next, b)
			} else {
				same(t, next, Best{})
			}
		}
	}
}

// A store that answers one of the two Gets alone is none that answers: neither told, nor counted, nor are its replicas; on the inner steps.
func TestHalfAnswering(t *testing.T) {
	all := make([]held, 3)
	all[1] = held{answers: true, slots: [2]replica{{sound: true, Best: man(1, 1, "x")}}}
	all[2] = held{slots: [2]replica{{sound: true, Best: man(2, 1, "y")}}}
	best, is := newest(all)
	same(t, best, man(1, 1, "x"))
	same(t, is, true)
	same(t, answers(all), 1)
	for i := range answering(all) {
		same(t, i, 1)
		break
	}
}
