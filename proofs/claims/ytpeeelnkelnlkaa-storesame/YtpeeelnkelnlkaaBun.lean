/- Several stores side by side, and what the calls do to them; the small functions of the law. -/
import Derived.Test.YtpeeelnkelnlkaaStrike
import Derived.Test.YtpeeelnkelnlkaaCrash2
import Derived.Test.YtpeeelnkelnlkaaSame2
namespace Go.Proofs.Ytpeeelnkelnlkaa
open Go.RowKit Go.Maps
/-- from w0 on: the stores of the list stand, each in memory of its own, all of it new -/
structure StsF (w0 w : World) (l : List (Nat × St)) (F : Nat → Nat → Prop) : Prop where
  base : Below w0.heap.size w0 w
  each : ∀ j b s, l[j]? = some (b, s) → IsSt w (F j) b s ∧ ∀ i, F j i → w0.heap.size ≤ i
  apart : ∀ j k, j < l.length → k < l.length → j ≠ k → ∀ i, F j i → ¬ F k i
def Sts (w0 w : World) (l : List (Nat × St)) : Prop := ∃ F, StsF w0 w l F
theorem Sts.start (w : World) : Sts w w [] := ⟨fun _ _ => False, Below.refl _ _, fun j b s h => by simp at h, fun j k h => by simp at h⟩
theorem Sts.base {w0 w : World} {l : List (Nat × St)} (h : Sts w0 w l) : Below w0.heap.size w0 w := by obtain ⟨_, h⟩ := h; exact h.base
theorem Sts.below {w0 w w' : World} {l : List (Nat × St)} (h : Sts w0 w l) (hb : Below w.heap.size w w') : Sts w0 w' l := by
  obtain ⟨F, h0, h1, h2⟩ := h
  exact ⟨F, h0.trans (hb.mono h0.size), fun j b s hj => ⟨(h1 j b s hj).1.below hb, (h1 j b s hj).2⟩, h2⟩
theorem Sts.get {w0 w : World} {l : List (Nat × St)} (h : Sts w0 w l) (j : Nat) {b : Nat} {s : St} (hj : l[j]? = some (b, s)) : ∃ S, IsSt w S b s ∧ ∀ i, S i → w0.heap.size ≤ i := by
  obtain ⟨F, h0, h1, h2⟩ := h
  exact ⟨F j, h1 j b s hj⟩
theorem StsF.call {w0 w : World} {l : List (Nat × St)} {F : Nat → Nat → Prop} (h : StsF w0 w l F) (j : Nat) {b : Nat} {s : St} (hj : l[j]? = some (b, s)) : IsSt w (F j) b s ∧ (∀ i, F j i → w0.heap.size ≤ i) ∧ ∀ w' s', After w w' (F j) b s' → ∃ F', StsF w0 w' (l.set j (b, s')) F' ∧ ∀ k i, F' k i → F k i ∨ w.heap.size ≤ i := by
  obtain ⟨h0, h1, h2⟩ := h
  have hjl : j < l.length := (List.getElem?_eq_some_iff.1 hj).1
  refine ⟨(h1 j b s hj).1, (h1 j b s hj).2, ?_⟩
  rintro w' s' ⟨S', k1, k2, k3⟩
  refine ⟨fun k => if k = j then S' else F k, ⟨h0.trans (k3.below h0.size (h1 j b s hj).2), ?_, ?_⟩, ?_⟩
  · intro k b1 s1 hk
    by_cases e : k = j
    · subst e
      rw [List.getElem?_set_self hjl] at hk
      cases hk
      simp only [if_true]
      refine ⟨k1, fun i hi => ?_⟩
      rcases k2 i hi with h | h
      · exact (h1 k b s hj).2 i h
      · exact Nat.le_trans h0.size h
    · rw [List.getElem?_set_ne (fun h => e h.symm)] at hk
      simp only [if_neg e]
      have hkl : k < l.length := (List.getElem?_eq_some_iff.1 hk).1
      exact ⟨(h1 k b1 s1 hk).1.only k3 fun i hi hji => h2 k j hkl hjl e i hi hji, (h1 k b1 s1 hk).2⟩
  · intro k m hk hm hkm i hi hi'
    rw [List.length_set] at hk hm
    have new : ∀ n, n < l.length → n ≠ j → F n i → S' i → False := fun n hn hnj a b => by
      have hlt : i < w.heap.size := by
        obtain ⟨x, hx⟩ : ∃ x, l[n]? = some x := ⟨l[n], List.getElem?_eq_getElem hn⟩
        obtain ⟨b2, s2⟩ := x
        obtain ⟨_, _, _, _, _, _, _, _, h7, _⟩ := (h1 n b2 s2 hx).1
        exact h7 i a
      rcases k2 i b with h | h
      · exact h2 n j hn hjl hnj i a h
      · omega
    by_cases ek : k = j
    · subst ek
      simp only [if_true] at hi
      simp only [if_neg (fun h : m = k => hkm h.symm)] at hi'
      exact new m hm (fun h => hkm h.symm) hi' hi
    · simp only [if_neg ek] at hi
      by_cases em : m = j
      · subst em
        simp only [if_true] at hi'
        exact new k hk ek hi hi'
      · simp only [if_neg em] at hi'
        exact h2 k m hk hm hkm i hi hi'
  · intro k i hi
    by_cases e : k = j
    · subst e
      simp only [if_true] at hi
      exact k2 i hi
    · simp only [if_neg e] at hi
      exact .inl hi
theorem Sts.call {w0 w : World} {l : List (Nat × St)} (h : Sts w0 w l) (j : Nat) {b : Nat} {s : St} (hj : l[j]? = some (b, s)) : ∃ S, IsSt w S b s ∧ (∀ i, S i → w0.heap.size ≤ i) ∧ ∀ w' s', After w w' S b s' → Sts w0 w' (l.set j (b, s')) := by
  obtain ⟨F, h⟩ := h
  obtain ⟨h1, h2, h3⟩ := h.call j hj
  exact ⟨F j, h1, h2, fun w' s' ha => by obtain ⟨F', h4, _⟩ := h3 w' s' ha; exact ⟨F', h4⟩⟩
theorem Sts.push {w0 w w' : World} {l : List (Nat × St)} (h : Sts w0 w l) {b : Nat} {s : St} {S : Nat → Prop} (hs : IsSt w' S b s) (hS : ∀ i, S i → w.heap.size ≤ i) (hb : Below w.heap.size w w') : Sts w0 w' (l ++ [(b, s)]) := by
  have h' := h.below hb
  obtain ⟨F, h0, h1, h2⟩ := h
  refine ⟨fun k => if k = l.length then S else F k, h'.base, ?_, ?_⟩
  · intro k b1 s1 hk
    by_cases e : k = l.length
    · subst e
      simp only [List.getElem?_concat_length, Option.some.injEq, Prod.mk.injEq] at hk
      obtain ⟨rfl, rfl⟩ := hk
      simp only [if_true]
      exact ⟨hs, fun i hi => Nat.le_trans h0.size (hS i hi)⟩
    · have hkl : k < l.length := by
        have := (List.getElem?_eq_some_iff.1 hk).1
        simp at this; omega
      rw [List.getElem?_append_left hkl] at hk
      simp only [if_neg e]
      exact ⟨(h1 k b1 s1 hk).1.below hb, (h1 k b1 s1 hk).2⟩
  · intro k m hk hm hkm i hi hi'
    simp only [List.length_append, List.length_singleton] at hk hm
    have new : ∀ n, n < l.length → F n i → S i → False := fun n hn a b => by
      have hlt : i < w.heap.size := by
        obtain ⟨x, hx⟩ : ∃ x, l[n]? = some x := ⟨l[n], List.getElem?_eq_getElem hn⟩
        obtain ⟨b2, s2⟩ := x
        obtain ⟨_, _, _, _, _, _, _, _, h7, _⟩ := (h1 n b2 s2 hx).1
        exact h7 i a
      have := hS i b; omega
    by_cases ek : k = l.length
    · subst ek
      simp only [if_true] at hi
      simp only [if_neg (fun h : m = l.length => hkm h.symm)] at hi'
      exact new m (by omega) hi' hi
    · simp only [if_neg ek] at hi
      by_cases em : m = l.length
      · subst em
        simp only [if_true] at hi'
        exact new k (by omega) hi hi'
      · simp only [if_neg em] at hi'
        exact h2 k m (by omega) (by omega) hkm i hi hi'
/-- Fit, reckoned -/
def fitB (s : St) : Bool := decide (s.seen.length ≤ 100) && decide (s.writes.length ≤ 100) && s.seen.all (fun p => decide (p.1.size ≤ 80) && decide (p.2.size ≤ 65536)) && s.writes.all (fun q => decide (q.name.size ≤ 80) && decide ((q.was.getD ⟨#[]⟩).size ≤ 65536) && decide ((q.now.getD ⟨#[]⟩).size ≤ 65536)) && decide (s.refuse.getD 0 < 1000) && decide (s.room.getD 0 < 1000)
theorem fit_of {s : St} (h : fitB s = true) : Fit 100 s := by
  unfold fitB at h
  simp only [Bool.and_eq_true, decide_eq_true_eq, List.all_eq_true] at h
  obtain ⟨⟨⟨⟨⟨h1, h2⟩, h3⟩, h4⟩, h5⟩, h6⟩ := h
  refine ⟨h1, h2, fun p hp => (h3 p hp).1, fun p hp => (h3 p hp).2, fun q hq => (h4 q hq).1.1, fun q hq => (h4 q hq).1.2, fun q hq => (h4 q hq).2, fun k hk => ?_, fun k hk => ?_⟩
  · rw [hk] at h5; simp at h5; omega
  · rw [hk] at h6; simp at h6; omega
theorem Sts.new {w0 w : World} {l : List (Nat × St)} (h : Sts w0 w l) : Calls Try.prog 9 #[] w fun e w' => ∃ b, e = .returned (ptr b) ∧ Sts w0 w' (l ++ [(b, st0)]) :=
  (new_any w).mono fun _ _ ⟨b, _, h1, h2, h3, h4⟩ => ⟨b, h1, h.push h2 h3 h4⟩
theorem Sts.put {w0 w : World} {l : List (Nat × St)} (h : Sts w0 w l) (j : Nat) {b : Nat} {s : St} (hj : l[j]? = some (b, s)) {N : Nat} (hF : Fit N s) (hN : N ≤ 1000000) {n d : ByteArray} {e : Int} {s' : St} (he : putS s n d = (e, s')) : Calls Try.prog 10 #[ptr b, obv n d] w fun x w' => x = .returned (.int .i64 e) ∧ Sts w0 w' (l.set j (b, s')) := by
  obtain ⟨S, h1, _, h2⟩ := h.call j hj
  refine (put_any h1 hF hN n d).mono ?_
  rintro x w' ⟨rfl, h3⟩
  rw [he] at h3 ⊢
  exact ⟨rfl, h2 _ _ h3⟩
theorem Sts.del {w0 w : World} {l : List (Nat × St)} (h : Sts w0 w l) (j : Nat) {b : Nat} {s : St} (hj : l[j]? = some (b, s)) {N : Nat} (hF : Fit N s) (hN : N ≤ 1000000) {n : ByteArray} (hn : n.size ≤ 1000000) {e : Int} {s' : St} (he : delS s n = (e, s')) : Calls Try.prog 29 #[ptr b, .string n] w fun x w' => x = .returned (.int .i64 e) ∧ Sts w0 w' (l.set j (b, s')) := by
  obtain ⟨S, h1, _, h2⟩ := h.call j hj
  refine (del_any h1 hF hN n hn).mono ?_
  rintro x w' ⟨rfl, h3⟩
  rw [he] at h3 ⊢
  exact ⟨rfl, h2 _ _ h3⟩
theorem Sts.sync {w0 w : World} {l : List (Nat × St)} (h : Sts w0 w l) (j : Nat) {b : Nat} {s : St} (hj : l[j]? = some (b, s)) {e : Int} {s' : St} (he : Ytpeeelnkelnlkaa.sync s = (e, s')) : Calls Try.prog 28 #[ptr b] w fun x w' => x = .returned (.int .i64 e) ∧ Sts w0 w' (l.set j (b, s')) := by
  obtain ⟨S, h1, _, h2⟩ := h.call j hj
  refine (sync_any h1).mono ?_
  rintro x w' ⟨rfl, h3⟩
  rw [he] at h3 ⊢
  exact ⟨rfl, h2 _ _ h3⟩
theorem Sts.strike {w0 w : World} {l : List (Nat × St)} (h : Sts w0 w l) (j : Nat) {b : Nat} {s : St} (hj : l[j]? = some (b, s)) {N : Nat} (hF : Fit N s) (hN : N ≤ 1000000) {k t n a c : Int} (hb : 0 ≤ k ∧ k < 256 ∧ n < 9223372036854775808 ∧ a < 9223372036854775808) {e : Int} {s' : St} (he : strikeS s k n a c = (e, s')) : Calls Try.prog 15 #[ptr b, fv k t n a c] w fun x w' => x = .returned (.int .i64 e) ∧ Sts w0 w' (l.set j (b, s')) := by
  obtain ⟨S, h1, _, h2⟩ := h.call j hj
  refine (strike_any h1 hF hN k t n a c hb.1 hb.2.1 hb.2.2.1 hb.2.2.2).mono ?_
  rintro x w' ⟨rfl, h3⟩
  rw [he] at h3 ⊢
  exact ⟨rfl, h2 _ _ h3⟩
/-- nothing is kept -/
theorem Sts.crash0 {w0 w : World} {l : List (Nat × St)} (h : Sts w0 w l) (j : Nat) {b : Nat} {s : St} (hj : l[j]? = some (b, s)) {N : Nat} (hF : Fit N s) (hN : N ≤ 400000) (hlv : s.writes ≠ [] → s.live = true) {s' : St} (he : crashS s [] = s') : Calls Try.prog 30 #[ptr b, .slice none 0 0] w fun x w' => x = .returned (.int .i64 0) ∧ Sts w0 w' (l.set j (b, s')) := by
  obtain ⟨S, h1, _, h2⟩ := h.call j hj
  refine (crash_any h1 hF hN hlv (.slice none 0 0) [] (.inl ⟨none, 0, rfl, rfl⟩) (by simp) (fun g o n c hh _ => by cases hh)).mono ?_
  rintro x w' ⟨rfl, h3⟩
  rw [he] at h3
  exact ⟨rfl, h2 _ _ h3⟩
/-- what is kept stands in a block that is no store's: it has no stores yet when they were -/
theorem Sts.crash {w0 w : World} {l : List (Nat × St)} (h : Sts w0 w l) (j : Nat) {b : Nat} {s : St} (hj : l[j]? = some (b, s)) {N : Nat} (hF : Fit N s) (hN : N ≤ 400000) (hlv : s.writes ≠ [] → s.live = true) {kv : Value} {ks : List Int} {W : World} (hW : Below w.heap.size w W) (hk : RdI W kv ks) (hkl : ks.length ≤ 9223372036854775807) (hkS : ∀ g o n c, kv = .slice (some ⟨g, o, none⟩) n c → w.heap.size ≤ g ∨ g < w0.heap.size) {s' : St} (he : crashS s ks = s') : Calls Try.prog 30 #[ptr b, kv] W fun x w' => x = .returned (.int .i64 0) ∧ Sts w0 w' (l.set j (b, s')) := by
  obtain ⟨S, h1, hlo, h2⟩ := h.call j hj
  refine (crash_any (h1.below hW) hF hN hlv kv ks hk hkl (fun g o n c hh _ hg => by
    obtain ⟨_, _, _, _, _, _, _, _, h7, _⟩ := h1
    have := h7 g hg
    have := hlo g hg
    rcases hkS g o n c hh with h | h <;> omega)).mono ?_
  rintro x w' ⟨rfl, h3⟩
  rw [he] at h3
  exact ⟨rfl, h2 _ _ (After.front hW h3)⟩
theorem Sts.gets {w0 w : World} {l : List (Nat × St)} (h : Sts w0 w l) (j : Nat) {b : Nat} {s : St} (hj : l[j]? = some (b, s)) {n : ByteArray} (hn : n.size ≤ maxLen) {d : ByteArray} {e : Int} (he : Ytpeeelnkelnlkaa.get s n = (d, e)) : Calls Try.prog 37 #[ptr b, .string n] w fun x w' => x = .returned (.tuple #[.string d, .int .i64 e]) ∧ Sts w0 w' l := by
  obtain ⟨S, h1, _⟩ := h.get j hj
  refine (get_any h1 n hn).mono ?_
  rintro x w' ⟨rfl, h3⟩
  rw [he]
  exact ⟨rfl, h.below h3⟩
theorem Sts.list {w0 w : World} {l : List (Nat × St)} (h : Sts w0 w l) (j : Nat) {b : Nat} {s : St} (hj : l[j]? = some (b, s)) (hs : s.seen.length ≤ 1000000) {k : Nat} {e : Int} (hk : (if s.down then [] else s.seen).length = k) (he : (if s.down then 51 else 0 : Int) = e) : Calls Try.prog 38 #[ptr b] w fun x w' => ∃ a c, x = .returned (.tuple #[.slice a k c, .int .i64 e]) ∧ Sts w0 w' l := by
  obtain ⟨S, h1, _⟩ := h.get j hj
  refine (list_any h1 hs).mono ?_
  rintro x w' ⟨v, rfl, h3, h4⟩
  obtain ⟨a, c, rfl⟩ := row_slice h3
  rw [hk, he]
  exact ⟨a, c, rfl, h.below h4⟩
theorem Sts.up {w0 w : World} {l : List (Nat × St)} (h : Sts w0 w l) (j : Nat) {b : Nat} {s : St} (hj : l[j]? = some (b, s)) {y : Bool} (hy : (!s.down) = y) : Calls Try.prog 13 #[ptr b] w fun x w' => x = .returned (.bool y) ∧ Sts w0 w' l := by
  obtain ⟨S, h1, _⟩ := h.get j hj
  refine (up_any h1).mono ?_
  rintro x w' ⟨rfl, rfl⟩
  rw [hy]
  exact ⟨rfl, h⟩
theorem Sts.sound {w0 w : World} {l : List (Nat × St)} (h : Sts w0 w l) (j : Nat) {b : Nat} {s : St} (hj : l[j]? = some (b, s)) {y : Bool} (hy : (!s.down && s.refuse.isNone) = y) : Calls Try.prog 14 #[ptr b] w fun x w' => x = .returned (.bool y) ∧ Sts w0 w' l := by
  obtain ⟨S, h1, _⟩ := h.get j hj
  refine (sound_any h1).mono ?_
  rintro x w' ⟨rfl, rfl⟩
  rw [hy]
  exact ⟨rfl, h⟩
theorem Sts.copy {w0 w : World} {l : List (Nat × St)} (h : Sts w0 w l) (j : Nat) {b : Nat} {s : St} (hj : l[j]? = some (b, s)) (hn : s.writes.length ≤ 1000000) : Calls Try.prog 22 #[ptr b] w fun x w' => ∃ b', x = .returned (ptr b') ∧ Sts w0 w' (l ++ [(b', s)]) := by
  obtain ⟨S, h1, _⟩ := h.get j hj
  exact (copy_any h1 hn).mono fun _ _ ⟨b', _, h1, h2, h3, h4⟩ => ⟨b', h1, h.push h2 h3 h4⟩
theorem Sts.same {w0 w : World} {l : List (Nat × St)} (h : Sts w0 w l) (j k : Nat) {b c : Nat} {s t : St} (hj : l[j]? = some (b, s)) (hk : l[k]? = some (c, t)) {y : Bool} (hy : sameS s t = y) : Calls Try.prog 23 #[ptr b, ptr c] w fun x w' => x = .returned (.bool y) ∧ Sts w0 w' l := by
  obtain ⟨S, h1, _⟩ := h.get j hj
  obtain ⟨T, h2, _⟩ := h.get k hk
  refine (same_any h1 h2).mono ?_
  rintro x w' ⟨rfl, h3⟩
  rw [hy]
  exact ⟨rfl, h.below h3⟩
theorem Sts.objects {w0 w : World} {l : List (Nat × St)} (h : Sts w0 w l) (j : Nat) {b : Nat} {s : St} (hj : l[j]? = some (b, s)) (hs : s.seen.length ≤ 1000000) : Calls Try.prog 26 #[ptr b] w fun x w' => ∃ v, x = .returned v ∧ w'.ownsRow w.heap.size 28 2 v s.seen.length (objCells s.seen) ∧ Below w.heap.size w w' ∧ Sts w0 w' l := by
  obtain ⟨S, h1, _⟩ := h.get j hj
  exact (objects_any h1 hs).mono fun _ _ ⟨v, h1, h2, h3⟩ => ⟨v, h1, h2, h3, h.below h3⟩
set_option maxRecDepth 20000 in
theorem o_any (n d : ByteArray) (w : World) : Calls Try.prog 11 #[.string n, .string d] w fun e w' => e = .returned (obv n d) ∧ Below w.heap.size w w' := by
  obtain ⟨p0, p1, p2, p3⟩ := two_cells (Has.new w w.heap.size #[.string ⟨#[]⟩, .string ⟨#[]⟩] 28 rfl)
  have H := hid (two_put (Has.new w w.heap.size #[.string ⟨#[]⟩, .string ⟨#[]⟩] 28 rfl) (.string n) (.string d))
  have HB := hid (boxed w (.cells #[.string ⟨#[]⟩, .string ⟨#[]⟩] 28))
  have HC := hid (boxed w (.cells #[.string n, .string d] 28))
  go_enter Try.func11, Try.ntmps11
  go_wp2_with fail
  refine ret_one (b := w.heap.size) (cs := [.string n, .string d]) rfl rfl rfl ?_ Try.underlying28 rfl info28 ⟨rfl, ?_⟩
  · exact (Has.new w w.heap.size #[.string n, .string d] 28 rfl).ranged
  · exact HC.out
theorem Sts.o {w0 w : World} {l : List (Nat × St)} (h : Sts w0 w l) (n d : ByteArray) : Calls Try.prog 11 #[.string n, .string d] w fun x w' => x = .returned (obv n d) ∧ Sts w0 w' l :=
  (o_any n d w).mono fun _ _ ⟨h1, h2⟩ => ⟨h1, h.below h2⟩
def hasS (s : St) (n d : ByteArray) : Bool := decide ((Ytpeeelnkelnlkaa.get s n).2 = 0) && decide ((Ytpeeelnkelnlkaa.get s n).1 = d)
set_option maxRecDepth 20000 in
theorem Sts.has {w0 w : World} {l : List (Nat × St)} (h : Sts w0 w l) (j : Nat) {b : Nat} {s : St} (hj : l[j]? = some (b, s)) {n d : ByteArray} (hn : n.size ≤ maxLen) {y : Bool} (he : hasS s n d = y) : Calls Try.prog 33 #[ptr b, .string n, .string d] w fun x w' => x = .returned (.bool y) ∧ Sts w0 w' l := by
  have hg := h.gets j hj hn (d := (Ytpeeelnkelnlkaa.get s n).1) (e := (Ytpeeelnkelnlkaa.get s n).2) rfl
  subst he
  unfold hasS
  generalize (Ytpeeelnkelnlkaa.get s n).1 = x at *
  generalize (Ytpeeelnkelnlkaa.get s n).2 = e at *
  clear h
  have hq := str_eq x d
  by_cases h0 : e = 0
  · subst h0
    simp only [decide_true, Bool.true_and]
    go_enter Try.func33, Try.ntmps33
    go_wp2_with fail
    refine hg.mono ?_
    rintro x1 w1 ⟨rfl, h⟩
    go_wp2_with fail
    go_ret
    exact ⟨rfl, h⟩
  · have q : (e == 0) = false := beq_eq_false_iff_ne.2 h0
    rw [decide_eq_false h0, Bool.false_and]
    clear hq
    go_enter Try.func33, Try.ntmps33
    go_wp2_with fail
    refine hg.mono ?_
    rintro x1 w1 ⟨rfl, h⟩
    go_wp2_with fail
    go_ret
    exact ⟨rfl, h⟩
set_option maxRecDepth 20000 in
theorem many_any (n : Nat) (hn : n ≤ 1000000) (w : World) : Calls Try.prog 12 #[.int .i64 (n : Int)] w fun e w' => e = .returned (.string (ofBs (List.replicate n 0))) ∧ Below w.heap.size w w' := by
  have h1 := makes_bytes n hn w
  have h2 := conv_str (w.alloc (.cells (U8s (List.replicate n 0)) 5)) w.heap.size (List.replicate n 0) 5 n (Has.new _ _ _ _ rfl)
  rw [List.length_replicate] at h2
  have HB := hid (boxed w (.cells (U8s (List.replicate n 0)) 5))
  go_enter Try.func12, Try.ntmps12
  go_wp2_with fail
  go_ret
  exact ⟨rfl, HB.out⟩
theorem many_size (n : Nat) : (ofBs (List.replicate n 0)).size = n := by
  show ((List.map _ _).toArray).size = n
  simp
theorem rdi_new (w : World) (ks : List Int) (t : TypeId) (c : Nat) : RdI (w.alloc (.cells (ks.map (Value.int .i64)).toArray t)) (.slice (some ⟨w.heap.size, 0, none⟩) ks.length c) ks := by
  cases ks with
  | nil => exact .inl ⟨_, _, rfl, rfl⟩
  | cons k0 kr =>
  generalize hks : k0 :: kr = ks at *
  have hpos : 0 < ks.length := by rw [← hks]; simp
  refine .inr ⟨w.heap.size, 0, c, hpos, rfl, by simp, fun j z hz => ?_⟩
  have hj : j < ks.length := (List.getElem?_eq_some_iff.1 hz).1
  have := (Has.new w w.heap.size (ks.map (Value.int .i64)).toArray t rfl).range j (.int .i64 z) (by simp [hz])
  simpa using this
/-- what is kept is a list written out -/
theorem Sts.crashL {w0 w : World} {l : List (Nat × St)} (h : Sts w0 w l) (j : Nat) {b : Nat} {s : St} (hj : l[j]? = some (b, s)) {N : Nat} (hF : Fit N s) (hN : N ≤ 400000) (hlv : s.writes ≠ [] → s.live = true) (ks : List Int) (t : TypeId) (hkl : ks.length ≤ 9223372036854775807) {s' : St} (he : crashS s ks = s') : Calls Try.prog 30 #[ptr b, .slice (some ⟨w.heap.size, 0, none⟩) ks.length ks.length] (w.alloc (.cells (ks.map (Value.int .i64)).toArray t)) fun x w' => x = .returned (.int .i64 0) ∧ Sts w0 w' (l.set j (b, s')) :=
  h.crash j hj hF hN hlv (boxed w _) (rdi_new w ks t _) hkl (fun g o n c hh => by cases hh; exact .inl (Nat.le_refl _)) he
/-- the objects, counted -/
theorem Sts.objs {w0 w : World} {l : List (Nat × St)} (h : Sts w0 w l) (j : Nat) {b : Nat} {s : St} (hj : l[j]? = some (b, s)) (hs : s.seen.length ≤ 1000000) {k : Nat} (hk : s.seen.length = k) : Calls Try.prog 26 #[ptr b] w fun x w' => ∃ a c, x = .returned (.slice a k c) ∧ Sts w0 w' l := by
  refine (h.objects j hj hs).mono ?_
  rintro x w' ⟨v, rfl, h1, h2, h3⟩
  obtain ⟨a, c, rfl⟩ := row_slice h1
  rw [hk]
  exact ⟨a, c, rfl, h3⟩
/-- the first one's name -/
theorem Sts.obj0 {w0 w : World} {l : List (Nat × St)} (h : Sts w0 w l) (j : Nat) {b : Nat} {s : St} (hj : l[j]? = some (b, s)) (hs : s.seen.length ≤ 1000000) {k : Nat} (hk : s.seen.length = k + 1) {n : ByteArray} (hn : (s.seen[0]?).map (·.1) = some n) : Calls Try.prog 26 #[ptr b] w fun x w' => ∃ g c, x = .returned (.slice (some ⟨g, 0, none⟩) (k + 1) c) ∧ w'.cell? ⟨g, 0, none⟩ = some (.string n) ∧ Sts w0 w' l := by
  refine (h.objects j hj hs).mono ?_
  rintro x w' ⟨v, rfl, h1, h2, h3⟩
  rcases row_form h1 with ⟨_, h, _⟩ | ⟨g, cap, rfl, _, _, _, _, h4⟩
  · omega
  · rw [hk]
    refine ⟨g, cap, rfl, ?_, h3⟩
    cases h5 : s.seen[0]? with
    | none => rw [h5] at hn; cases hn
    | some p =>
      rw [h5] at hn
      cases hn
      exact h4 0 _ (objCells_get s.seen 0 p h5).1
/-- stores, and a block of cells beside them -/
def StsB (w0 w : World) (l : List (Nat × St)) (g : Nat) (cs : Array Value) (t : TypeId) : Prop := ∃ F, StsF w0 w l F ∧ (∀ j, j < l.length → ¬ F j g) ∧ Has w g cs t
theorem Sts.box {w0 w : World} {l : List (Nat × St)} (h : Sts w0 w l) (cs : Array Value) (t : TypeId) : StsB w0 (w.alloc (.cells cs t)) l w.heap.size cs t := by
  have h' := h.below (boxed w (.cells cs t))
  obtain ⟨F, h⟩ := h
  refine ⟨F, ⟨h'.base, fun j b s hj => ⟨(h.each j b s hj).1.below (boxed w _), (h.each j b s hj).2⟩, h.apart⟩, fun j hj hF => ?_, Has.new _ _ _ _ rfl⟩
  obtain ⟨x, hx⟩ : ∃ x, l[j]? = some x := ⟨l[j], List.getElem?_eq_getElem hj⟩
  obtain ⟨b2, s2⟩ := x
  obtain ⟨_, _, _, _, _, _, _, _, h7, _⟩ := (h.each j b2 s2 hx).1
  have := h7 _ hF; omega
theorem StsB.sts {w0 w : World} {l : List (Nat × St)} {g : Nat} {cs : Array Value} {t : TypeId} (h : StsB w0 w l g cs t) : Sts w0 w l := by
  obtain ⟨F, h, _⟩ := h; exact ⟨F, h⟩
theorem StsB.has {w0 w : World} {l : List (Nat × St)} {g : Nat} {cs : Array Value} {t : TypeId} (h : StsB w0 w l g cs t) : Has w g cs t := by
  obtain ⟨F, _, _, h⟩ := h; exact h
theorem StsB.below {w0 w w' : World} {l : List (Nat × St)} {g : Nat} {cs : Array Value} {t : TypeId} (h : StsB w0 w l g cs t) (hb : Below w.heap.size w w') : StsB w0 w' l g cs t := by
  obtain ⟨F, h, h1, h2⟩ := h
  exact ⟨F, ⟨h.base.trans (hb.mono h.base.size), fun j b s hj => ⟨(h.each j b s hj).1.below hb, (h.each j b s hj).2⟩, h.apart⟩, h1, h2.below hb h2.lt⟩
theorem StsB.call {w0 w : World} {l : List (Nat × St)} {g : Nat} {cs : Array Value} {t : TypeId} (h : StsB w0 w l g cs t) (j : Nat) {b : Nat} {s : St} (hj : l[j]? = some (b, s)) : ∃ S, IsSt w S b s ∧ ∀ w' s', After w w' S b s' → StsB w0 w' (l.set j (b, s')) g cs t := by
  obtain ⟨F, h, h1, h2⟩ := h
  obtain ⟨k1, k2, k3⟩ := h.call j hj
  have hjl : j < l.length := (List.getElem?_eq_some_iff.1 hj).1
  refine ⟨F j, k1, fun w' s' ha => ?_⟩
  obtain ⟨F', k4, k5⟩ := k3 w' s' ha
  refine ⟨F', k4, fun k hk hF => ?_, ?_⟩
  · rw [List.length_set] at hk
    have := h2.lt
    rcases k5 k g hF with h | h
    · exact h1 k hk h
    · omega
  · obtain ⟨_, _, _, hO⟩ := ha
    exact hO.has h2 (h1 j hjl)
theorem StsB.put {w0 w : World} {l : List (Nat × St)} {g : Nat} {cs : Array Value} {t : TypeId} (h : StsB w0 w l g cs t) (j : Nat) {b : Nat} {s : St} (hj : l[j]? = some (b, s)) {N : Nat} (hF : Fit N s) (hN : N ≤ 1000000) {n d : ByteArray} {e : Int} {s' : St} (he : putS s n d = (e, s')) : Calls Try.prog 10 #[ptr b, obv n d] w fun x w' => x = .returned (.int .i64 e) ∧ StsB w0 w' (l.set j (b, s')) g cs t := by
  obtain ⟨S, h1, h2⟩ := h.call j hj
  refine (put_any h1 hF hN n d).mono ?_
  rintro x w' ⟨rfl, h3⟩
  rw [he] at h3 ⊢
  exact ⟨rfl, h2 _ _ h3⟩
theorem StsB.strikes {w0 w : World} {l : List (Nat × St)} {g : Nat} {cs : Array Value} {ty : TypeId} (h : StsB w0 w l g cs ty) (j : Nat) {b : Nat} {s : St} (hj : l[j]? = some (b, s)) {N : Nat} (hF : Fit N s) (hN : N ≤ 1000000) {k t n a c : Int} (hb : 0 ≤ k ∧ k < 256 ∧ n < 9223372036854775808 ∧ a < 9223372036854775808) (he : badF k n a c = true) : Calls Try.prog 15 #[ptr b, fv k t n a c] w fun x w' => x = .returned (.int .i64 1) ∧ StsB w0 w' (l.set j (b, s)) g cs ty := by
  obtain ⟨S, h1, h2⟩ := h.call j hj
  refine (strike_any h1 hF hN k t n a c hb.1 hb.2.1 hb.2.2.1 hb.2.2.2).mono ?_
  have e : strikeS s k n a c = (1, s) := by unfold strikeS; rw [if_pos he]
  rintro x w' ⟨rfl, h3⟩
  rw [e] at h3 ⊢
  exact ⟨rfl, h2 _ _ h3⟩
theorem Sts.many {w0 w : World} {l : List (Nat × St)} (h : Sts w0 w l) (n : Nat) (hn : n ≤ 1000000) : Calls Try.prog 12 #[.int .i64 (n : Int)] w fun x w' => x = .returned (.string (ofBs (List.replicate n 0))) ∧ Sts w0 w' l :=
  (many_any n hn w).mono fun _ _ ⟨h1, h2⟩ => ⟨h1, h.below h2⟩
end Go.Proofs.Ytpeeelnkelnlkaa
