/- The two worlds go together. -/
import Derived.Test.YtgdiaflikfdnaaaGreatD8
import Derived.Test.YtgdiaflikfdnaaaGreatW11
namespace Go.Proofs.YtgdiaflikfdnaaaGreat
open Go.RowKit Go.Maps
/-- two worlds that tell the same: store by store, and of that size at most -/
structure Pair (N : Nat) (W : Wd) (R : Rd) : Prop where
  len : W.l.length = R.l.length
  two : ∀ (j : Nat) (x : Kp) (y : Kr), W.l[j]? = some x → R.l[j]? = some y → Twin N x.st y.rf ∧ x.sus = y.sus
  calls : W.calls = R.calls
  dark : W.dark = R.dark
  left : W.dark = false → R.left = if W.cut then some W.left else none
  wl : W.left < 9223372036854775808
  rl : ∀ n, R.left = some n → n < 9223372036854775808
variable {N : Nat} {W : Wd} {R : Rd}
theorem Pair.more {N' : Nat} (h : Pair N W R) (hN : N ≤ N') : Pair N' W R := { h with two := fun j x y hx hy => ⟨(h.two j x y hx hy).1.more hN, (h.two j x y hx hy).2⟩ }
theorem Pair.other (h : Pair N W R) {j : Nat} {x : Kp} (hx : W.l[j]? = some x) : ∃ y, R.l[j]? = some y ∧ Twin N x.st y.rf ∧ x.sus = y.sus := by
  have hj : j < R.l.length := by rw [← h.len]; exact (List.getElem?_eq_some_iff.1 hx).1
  exact ⟨_, List.getElem?_eq_getElem hj, h.two j x _ hx (List.getElem?_eq_getElem hj)⟩
theorem Pair.ours (h : Pair N W R) {j : Nat} {y : Kr} (hy : R.l[j]? = some y) : ∃ x, W.l[j]? = some x ∧ Twin N x.st y.rf ∧ x.sus = y.sus := by
  have hj : j < W.l.length := by rw [h.len]; exact (List.getElem?_eq_some_iff.1 hy).1
  exact ⟨_, List.getElem?_eq_getElem hj, h.two j _ y (List.getElem?_eq_getElem hj) hy⟩
theorem Pair.fit (h : Pair N W R) : ∀ x ∈ W.l, Fit N x.st := fun x hx => by
  obtain ⟨j, hj⟩ := List.getElem?_of_mem hx
  obtain ⟨y, _, ht, _⟩ := h.other hj
  exact ht.fit
theorem Pair.fit2 (h : Pair N W R) : ∀ x ∈ W.l, Fit N x.st ∧ (x.st.writes ≠ [] → x.st.live = true) := fun x hx => by
  obtain ⟨j, hj⟩ := List.getElem?_of_mem hx
  obtain ⟨y, _, ht, _⟩ := h.other hj
  exact ⟨ht.fit, ht.lives⟩
theorem Pair.seenlen (h : Pair N W R) (hN : N ≤ 1000000) : ∀ x ∈ W.l, x.st.seen.length ≤ 1000000 := fun x hx => by
  obtain ⟨j, hj⟩ := List.getElem?_of_mem hx
  obtain ⟨y, _, ht, _⟩ := h.other hj
  exact Nat.le_trans ht.len hN
theorem Pair.writeslen (h : Pair N W R) (hN : N ≤ 1000000) : ∀ x ∈ W.l, x.st.writes.length ≤ 1000000 := fun x hx => by
  obtain ⟨j, hj⟩ := List.getElem?_of_mem hx
  obtain ⟨y, _, ht, _⟩ := h.other hj
  have h1 := ht.many
  rw [ht.writes, List.length_map] at h1
  omega
theorem Pair.small (h : Pair N W R) (hN : N ≤ 1000000) : ∀ x ∈ R.l, x.rf.good.length + x.rf.writes.length ≤ 1000000 ∧ (∀ p ∈ seenR x.rf, p.2.size ≤ 65536) ∧ ∀ k, x.rf.ahead = some k → k < 9223372036854775808 := fun y hy => by
  obtain ⟨j, hj⟩ := List.getElem?_of_mem hy
  obtain ⟨x, _, ht, _⟩ := h.ours hj
  exact ⟨Nat.le_trans ht.many hN, by rw [ht.seen]; exact ht.datas, fun k hk => ht.refl k (by rw [← ht.ahead]; exact hk)⟩
theorem Pair.count (h : Pair N W R) : Pair N (countW W) (callD R).2 ∧ (callD R).1 = if (countW W).dark then 56 else 0 := by
  obtain ⟨Wl, Wc, Wd', Wt, Wf⟩ := W
  obtain ⟨Rl, Rc, Rf', Rd'⟩ := R
  obtain ⟨h1, h2, h3, h4, h5, h6, h7⟩ := h
  simp only at h1 h2 h3 h4 h5 h6 h7
  subst h3
  subst h4
  cases Wd' with
  | true =>
    have e1 : ∃ f, countW ⟨Wl, Wc, true, Wt, Wf⟩ = ⟨Wl, Wc + 1, true, Wt, f⟩ ∧ f < 9223372036854775808 := by
      unfold countW
      simp only
      split
      · split
        · exact ⟨Wf, rfl, h6⟩
        · exact ⟨Wf - 1, rfl, by omega⟩
      · exact ⟨Wf, rfl, h6⟩
    have e2 : callD ⟨Rl, Wc, Rf', true⟩ = (56, ⟨Rl, Wc + 1, Rf', true⟩) := by
      unfold callD
      simp only
      split <;> simp_all
    obtain ⟨f, e1, hf⟩ := e1
    rw [e1, e2]
    exact ⟨⟨h1, h2, rfl, rfl, fun h => (by cases h), hf, h7⟩, rfl⟩
  | false =>
    have h5' := h5 rfl
    subst h5'
    cases Wt with
    | false => exact ⟨⟨h1, h2, rfl, rfl, fun _ => rfl, h6, h7⟩, rfl⟩
    | true =>
      cases Wf with
      | zero => exact ⟨⟨h1, h2, rfl, rfl, fun h => (by cases h), h6, h7⟩, rfl⟩
      | succ n => exact ⟨⟨h1, h2, rfl, rfl, fun _ => rfl, by show n + 1 - 1 < _; omega, fun m hm => by
          have : n = m := by simpa [callD] using hm
          omega⟩, rfl⟩
theorem Pair.eD (h : Pair N W R) (i : Int) : YtgdiaflikfdnaaaGreat.eD R i = if 0 ≤ i ∧ i < (W.l.length : Int) then (if (countW W).dark then 56 else 0) else 1 := by
  unfold YtgdiaflikfdnaaaGreat.eD
  rw [← h.len, h.count.2]
theorem Pair.wD (h : Pair N W R) (i : Int) : YtgdiaflikfdnaaaGreat.wD R i = if 0 ≤ i ∧ i < (W.l.length : Int) then (callD R).2 else R := by
  unfold YtgdiaflikfdnaaaGreat.wD
  rw [← h.len]
theorem Pair.set (h : Pair N W R) {j : Nat} {x : Kp} {y : Kr} (ht : Twin (N + 1) x.st y.rf) (hs : x.sus = y.sus) : Pair (N + 1) { W with l := W.l.set j x } { R with l := R.l.set j y } :=
  { h with
    len := by simp [h.len]
    two := fun i x' y' hx hy => by
      by_cases e : i = j
      · subst e
        simp only [List.getElem?_set_self'] at hx hy
        cases hw : W.l[i]? with
        | none => rw [hw] at hx; cases hx
        | some a =>
          cases hr : R.l[i]? with
          | none => rw [hr] at hy; cases hy
          | some c =>
            rw [hw] at hx
            rw [hr] at hy
            cases hx
            cases hy
            exact ⟨ht, hs⟩
      · rw [List.getElem?_set_ne (Ne.symm e)] at hx hy
        exact ⟨(h.two i x' y' hx hy).1.more (Nat.le_succ _), (h.two i x' y' hx hy).2⟩ }
theorem Pair.ask (h : Pair N W R) (i : Int) {f : St → Int × St} {f' : Rf → Int × Rf} (hf : ∀ s r, Twin N s r → (f' r).1 = (f s).1 ∧ Twin (N + 1) (f s).2 (f' r).2) : (askD R i f').1 = (askS W i f).1 ∧ Pair (N + 1) (askS W i f).2 (askD R i f').2 := by
  obtain ⟨hc, he⟩ := h.count
  unfold askD askS
  rw [h.eD, h.wD]
  by_cases hi : 0 ≤ i ∧ i < (W.l.length : Int)
  · simp only [if_pos hi]
    cases hd : (countW W).dark with
    | true => exact ⟨rfl, hc.more (Nat.le_succ _)⟩
    | false =>
      have hin : i.toNat < (countW W).l.length := by rw [countW_l]; omega
      obtain ⟨x, hx⟩ : ∃ x, (countW W).l[i.toNat]? = some x := ⟨_, List.getElem?_eq_getElem hin⟩
      obtain ⟨y, hy, ht, hs⟩ := hc.other hx
      simp only [Bool.false_eq_true, if_false, if_true, hx, hy]
      obtain ⟨g1, g2⟩ := hf _ _ ht
      have := hc.set (j := i.toNat) (x := { x with st := (f x.st).2 }) (y := { y with rf := (f' y.rf).2 }) g2 hs
      rw [hd] at this
      exact ⟨g1, this⟩
  · simp only [if_neg hi]
    exact ⟨rfl, h.more (Nat.le_succ _)⟩
theorem Pair.asked (h : Pair N W R) (i : Int) : Pair N (askW W i) (YtgdiaflikfdnaaaGreat.wD R i) := by
  unfold askW
  rw [h.wD]
  split
  · exact h.count.1
  · exact h
theorem Pair.get (h : Pair N W R) (i : Int) (n : ByteArray) : getD' R i n = getW W i n := by
  obtain ⟨hc, he⟩ := h.count
  unfold getD' getW 
  rw [h.eD, h.wD]
  by_cases hi : 0 ≤ i ∧ i < (W.l.length : Int)
  · simp only [if_pos hi]
    cases hd : (countW W).dark with
    | true => rfl
    | false =>
      have hin : i.toNat < (countW W).l.length := by rw [countW_l]; omega
      obtain ⟨x, hx⟩ : ∃ x, (countW W).l[i.toNat]? = some x := ⟨_, List.getElem?_eq_getElem hin⟩
      obtain ⟨y, hy, ht, hs⟩ := hc.other hx
      simp only [Bool.false_eq_true, if_false, if_true, hx, hy]
      exact ht.get n
  · simp only [if_neg hi]
    rfl
theorem Pair.list (h : Pair N W R) (i : Int) : listD R i = listW W i := by
  obtain ⟨hc, he⟩ := h.count
  unfold listD listW 
  rw [h.eD, h.wD]
  by_cases hi : 0 ≤ i ∧ i < (W.l.length : Int)
  · simp only [if_pos hi]
    cases hd : (countW W).dark with
    | true => rfl
    | false =>
      have hin : i.toNat < (countW W).l.length := by rw [countW_l]; omega
      obtain ⟨x, hx⟩ : ∃ x, (countW W).l[i.toNat]? = some x := ⟨_, List.getElem?_eq_getElem hin⟩
      obtain ⟨y, hy, ht, hs⟩ := hc.other hx
      simp only [Bool.false_eq_true, if_false, if_true, hx, hy, ht.down, ht.seen]
  · simp only [if_neg hi]
    rfl
theorem Pair.cut (h : Pair N W R) (a : Int) (ha : a < 9223372036854775808) : (cutD R a).1 = (cutW W a).1 ∧ Pair N (cutW W a).2 (cutD R a).2 := by
  unfold cutD cutW
  split
  · exact ⟨rfl, h⟩
  · exact ⟨rfl, { h with
      left := fun _ => rfl
      wl := by show a.toNat < _; omega
      rl := fun n hn => by
        simp only [Option.some.injEq] at hn
        omega }⟩
theorem Pair.crash (h : Pair N W R) (sv : List Sv) : Pair (N + 1) (crashW W sv) (crashD R sv) where
  len := by unfold crashW crashD; simp [h.len]
  two := fun j x y hx hy => by
    unfold crashW at hx
    unfold crashD at hy
    simp only [List.getElem?_mapIdx, Option.map_eq_some_iff] at hx hy
    obtain ⟨x0, hx0, rfl⟩ := hx
    obtain ⟨y0, hy0, rfl⟩ := hy
    obtain ⟨t1, t2⟩ := h.two j x0 y0 hx0 hy0
    exact ⟨t1.crash _, t2⟩
  calls := h.calls
  dark := rfl
  left := fun _ => rfl
  wl := by show 0 < 9223372036854775808; decide
  rl := fun n hn => by cases hn
theorem sound_eq {x : Kp} {y : Kr} (ht : Twin N x.st y.rf) : soundK x = soundR y := by
  unfold soundK soundR
  rw [ht.down, ht.ahead]
theorem Pair.clear (h : Pair N W R) : Pair N (clearW W) (clearD R) :=
  { len := by unfold clearW clearD; simp [h.len]
    two := fun j x y hx hy => by
      unfold clearW at hx
      unfold clearD at hy
      simp only [List.getElem?_mapIdx, List.getElem?_map, Option.map_eq_some_iff] at hx hy
      obtain ⟨x0, hx0, rfl⟩ := hx
      obtain ⟨y0, hy0, rfl⟩ := hy
      obtain ⟨t1, t2⟩ := h.two j x0 y0 hx0 hy0
      unfold clearK clearKr
      rw [sound_eq t1]
      split
      · exact ⟨t1, rfl⟩
      · exact ⟨t1, t2⟩
    calls := h.calls
    dark := h.dark
    left := h.left
    wl := h.wl
    rl := h.rl }
theorem Pair.strike (h : Pair N W R) (k t n a c : Int) (hn : n < 9223372036854775808) : (strikeD R k t n a c).1 = (strikeW W k t n a c).1 ∧ Pair (N + 1) (strikeW W k t n a c).2 (strikeD R k t n a c).2 := by
  unfold strikeW strikeD
  rw [← h.len]
  split
  · rename_i hi
    have hin : t.toNat < W.l.length := by omega
    obtain ⟨x, hx⟩ : ∃ x, W.l[t.toNat]? = some x := ⟨_, List.getElem?_eq_getElem hin⟩
    obtain ⟨y, hy, ht, hs⟩ := h.other hx
    rw [hx, hy]
    simp only
    obtain ⟨s1, s2⟩ := ht.strike k n a c hn
    exact ⟨s1, h.set (j := t.toNat) (x := { x with st := (strikeS x.st k n a c).2, sus := x.sus || (decide ((strikeS x.st k n a c).1 = 0) && (decide (k ≠ 5) && decide (k ≠ 7))) }) (y := { y with rf := (strikeR y.rf k n a c).2, sus := y.sus || (decide ((strikeR y.rf k n a c).1 = 0) && (decide (k ≠ 5) && decide (k ≠ 7))) }) s2 (by simp only [hs, s1])⟩
  · exact ⟨rfl, h.more (Nat.le_succ _)⟩
theorem Pair.sus (h : Pair N W R) : ∀ k, susR R.l k = susL W.l k
  | 0 => rfl
  | k + 1 => by
    unfold susR susL
    rw [h.sus k]
    congr 1
    cases hx : W.l[k]? with
    | none =>
      have : R.l[k]? = none := by
        rw [List.getElem?_eq_none_iff] at hx ⊢
        rw [← h.len]
        exact hx
      rw [this]
    | some x =>
      obtain ⟨y, hy, _, hs⟩ := h.other hx
      rw [hy]
      simp only [hs]
theorem Pair.new {n : Nat} {l : List Kp} {m : List Kr} (hl : l.length = n) (hm : m.length = n) (h1 : ∀ x ∈ l, x.st = st0 ∧ x.sus = false) (h2 : ∀ x ∈ m, x.rf = rf0 ∧ x.sus = false) : Pair 0 (newW l) (newD m) where
  len := by show l.length = m.length; omega
  two := fun j x y hx hy => by
    obtain ⟨a1, a2⟩ := h1 x (List.mem_of_getElem? hx)
    obtain ⟨b1, b2⟩ := h2 y (List.mem_of_getElem? hy)
    rw [a1, a2, b1, b2]
    exact ⟨twin0, rfl⟩
  calls := rfl
  dark := rfl
  left := fun _ => rfl
  wl := by show 0 < 9223372036854775808; decide
  rl := fun n hn => by cases hn
theorem Pair.copy (h : Pair N W R) {l : List Kp} {m : List Kr} (hl : sameK l W.l) (hm : sameR2 m R.l) : Pair N { W with l := l } { R with l := m } := by
  have k1 : ∀ (j : Nat) (x : Kp), l[j]? = some x → ∃ x' : Kp, W.l[j]? = some x' ∧ x'.st = x.st ∧ x'.sus = x.sus := fun j x hx => by
    have := congrArg (fun (q : List (St × Bool)) => q[j]?) hl
    simp only [List.getElem?_map, hx, Option.map_some] at this
    obtain ⟨x', e1, e2⟩ := Option.map_eq_some_iff.1 this.symm
    simp only [Prod.mk.injEq] at e2
    exact ⟨x', e1, e2.1, e2.2⟩
  have k2 : ∀ (j : Nat) (x : Kr), m[j]? = some x → ∃ x' : Kr, R.l[j]? = some x' ∧ x'.rf = x.rf ∧ x'.sus = x.sus := fun j x hx => by
    have := congrArg (fun (q : List (Rf × Bool)) => q[j]?) hm
    simp only [List.getElem?_map, hx, Option.map_some] at this
    obtain ⟨x', e1, e2⟩ := Option.map_eq_some_iff.1 this.symm
    simp only [Prod.mk.injEq] at e2
    exact ⟨x', e1, e2.1, e2.2⟩
  exact { h with
    len := by
      have e1 := congrArg List.length hl
      have e2 := congrArg List.length hm
      simp only [List.length_map] at e1 e2
      show l.length = m.length
      rw [e1, e2, h.len]
    two := fun j x y hx hy => by
      obtain ⟨x', a1, a2, a3⟩ := k1 j x hx
      obtain ⟨y', b1, b2, b3⟩ := k2 j y hy
      obtain ⟨t1, t2⟩ := h.two j x' y' a1 b1
      rw [a2, b2] at t1
      rw [a3, b3] at t2
      exact ⟨t1, t2⟩ }
end Go.Proofs.YtgdiaflikfdnaaaGreat
/- awake: the first example. -/
namespace Go.Proofs.YtgdiaflikfdnaaaGreat
open Go.RowKit Go.Maps
variable {w0 w w' : World} {b : Nat} {W W' : Wd}
/-- a world that was made since w0; all that stood stands -/
def WA (w0 w : World) (b : Nat) (W : Wd) : Prop := ∃ S g, IsWd w S b g W ∧ (∀ i, S i → w0.heap.size ≤ i) ∧ Below w0.heap.size w0 w
theorem WA.next (h : WA w0 w b W) (hb : Below w.heap.size w w') : WA w0 w' b W := by
  obtain ⟨S, g, h1, h2, h3⟩ := h
  exact ⟨S, g, h1.below hb, h2, h3.trans (hb.mono h3.size)⟩
theorem WA.base (h : WA w0 w b W) : Below w0.heap.size w0 w := by
  obtain ⟨S, g, h1, h2, h3⟩ := h
  exact h3
theorem WA.go (h : WA w0 w b W) : ∃ S g, IsWd w S b g W ∧ (∀ i, S i → w0.heap.size ≤ i) ∧ Below w0.heap.size w0 w ∧ ∀ {w' W'}, AfterW w w' S b g W' → WA w0 w' b W' := by
  obtain ⟨S, g, h1, h2, h3⟩ := h
  refine ⟨S, g, h1, h2, h3, fun {w' W'} ⟨S', a1, a2, a3⟩ => ⟨S', g, a1, fun i hi => ?_, h3.trans (a3.below h3.size h2)⟩⟩
  rcases a2 i hi with h | h
  · exact h2 i h
  · exact Nat.le_trans h3.size h
theorem WA.new (w0 : World) (n : Nat) (hn : 1 ≤ n ∧ n ≤ 12) : Calls Tryz.prog 8 #[.int .i64 (n : Int)] w0 fun e w' => ∃ b l, e = .returned (.tuple #[ptr b, er 0]) ∧ WA w0 w' b (newW l) ∧ l.length = n ∧ ∀ x ∈ l, x.st = st0 ∧ x.sus = false :=
  wnew_any w0 n _ (fun h => absurd ⟨by omega, by omega⟩ h) fun _ b g S l w' h1 h2 h3 h4 h5 => ⟨b, l, rfl, ⟨S, g, h1, h4, h5⟩, by simpa using h2, h3⟩
theorem WA.n (h : WA w0 w b W) : Calls Tryz.prog 24 #[ptr b] w fun e w' => e = .returned (.int .i64 (W.l.length : Int)) ∧ WA w0 w' b W := by
  obtain ⟨S, g, h1, h2, h3⟩ := h
  exact (n_any h1).mono fun _ _ ⟨e1, e2⟩ => ⟨e1, by rw [e2]; exact ⟨S, g, h1, h2, h3⟩⟩
theorem WA.dark (h : WA w0 w b W) : Calls Tryz.prog 20 #[ptr b] w fun e w' => e = .returned (.bool W.dark) ∧ WA w0 w' b W := by
  obtain ⟨S, g, h1, h2, h3⟩ := h
  exact (dark_any h1).mono fun _ _ ⟨e1, e2⟩ => ⟨e1, by rw [e2]; exact ⟨S, g, h1, h2, h3⟩⟩
theorem WA.calls (h : WA w0 w b W) : Calls Tryz.prog 19 #[ptr b] w fun e w' => e = .returned (.int .i64 (W.calls : Int)) ∧ WA w0 w' b W := by
  obtain ⟨S, g, h1, h2, h3⟩ := h
  exact (calls_any h1).mono fun _ _ ⟨e1, e2⟩ => ⟨e1, by rw [e2]; exact ⟨S, g, h1, h2, h3⟩⟩
theorem WA.cut (h : WA w0 w b W) (a : Int) {e : Int} (he : cutW W a = (e, W')) : Calls Tryz.prog 18 #[ptr b, .int .i64 a] w fun x w' => x = .returned (er e) ∧ WA w0 w' b W' := by
  obtain ⟨S, g, h1, h2, h3, k⟩ := h.go
  exact (cut_any h1 a).mono fun _ _ ⟨e1, e2⟩ => by rw [he] at e1 e2; exact ⟨e1, k e2⟩
theorem WA.put (h : WA w0 w b W) (hc : W.calls ≤ 1000000) (hl : W.left < 9223372036854775808) {N : Nat} (hF : ∀ x ∈ W.l, Fit N x.st) (hN : N ≤ 1000000) (i : Int) (n d : ByteArray) {e : Int} (he : askS W i (fun s => putS s n d) = (e, W')) : Calls Tryz.prog 14 #[ptr b, .int .i64 i, obv n d] w fun x w' => x = .returned (er e) ∧ WA w0 w' b W' := by
  obtain ⟨S, g, h1, h2, h3, k⟩ := h.go
  exact (wput_any h1 hc hl hF hN i n d).mono fun _ _ ⟨e1, e2⟩ => by rw [he] at e1 e2; exact ⟨e1, k e2⟩
theorem WA.sync (h : WA w0 w b W) (hc : W.calls ≤ 1000000) (hl : W.left < 9223372036854775808) (i : Int) {e : Int} (he : askS W i YtgdiaflikfdnaaaGreat.sync = (e, W')) : Calls Tryz.prog 15 #[ptr b, .int .i64 i] w fun x w' => x = .returned (er e) ∧ WA w0 w' b W' := by
  obtain ⟨S, g, h1, h2, h3, k⟩ := h.go
  exact (wsync_any h1 hc hl i).mono fun _ _ ⟨e1, e2⟩ => by rw [he] at e1 e2; exact ⟨e1, k e2⟩
theorem WA.get (h : WA w0 w b W) (hc : W.calls ≤ 1000000) (hl : W.left < 9223372036854775808) (i : Int) (n : ByteArray) (hn : n.size ≤ 1000000) {d : ByteArray} {e : Int} (hd : getW W i n = (d, e)) (he : askW W i = W') : Calls Tryz.prog 17 #[ptr b, .int .i64 i, .string n] w fun x w' => x = .returned (.tuple #[.string d, er e]) ∧ WA w0 w' b W' := by
  obtain ⟨S, g, h1, h2, h3, k⟩ := h.go
  exact (wget_any h1 hc hl i n hn).mono fun _ _ ⟨e1, e2⟩ => by rw [hd] at e1; rw [he] at e2; exact ⟨e1, k e2⟩
theorem WA.crash0 (h : WA w0 w b W) (hn : W.l.length ≤ 1000) {N : Nat} (hF : ∀ x ∈ W.l, Fit N x.st ∧ (x.st.writes ≠ [] → x.st.live = true)) (hN : N ≤ 400000) (he : crashW W [] = W') : Calls Tryz.prog 16 #[ptr b, .slice none 0 0] w fun x w' => x = .returned (er 0) ∧ WA w0 w' b W' := by
  obtain ⟨S, g, h1, h2, h3, k⟩ := h.go
  exact (wcrash_any h1 hn hF hN h3 h2 (.slice none 0 0) [] ⟨.inl ⟨none, 0, rfl, rfl⟩, fun _ h => (by cases h)⟩ (by decide)).mono fun _ _ ⟨e1, e2⟩ => by rw [he] at e2; exact ⟨e1, k e2⟩
theorem row_is {w : World} {B t k n : Nat} {v : Value} {xs : List Value} (h : w.ownsRow B t k v n xs) : ∃ a c, v = .slice a n c := by
  rcases h.2 with ⟨e, e2, _⟩ | ⟨g1, c1, cur1, e1, _⟩
  · exact ⟨none, 0, e⟩
  · exact ⟨_, _, e1⟩
theorem WA.objs (h : WA w0 w b W) (hs : ∀ x ∈ W.l, x.st.seen.length ≤ 1000000) (i : Int) {L : List Ob} (he : objsW W i = L) : Calls Tryz.prog 22 #[ptr b, .int .i64 i] w fun x w' => ∃ a c, x = .returned (.slice a L.length c) ∧ WA w0 w' b W := by
  obtain ⟨S, g, h1, h2, h3, k⟩ := h.go
  refine (wobjs_any h1 hs i).mono fun _ _ ⟨v, e1, e2, e3⟩ => ?_
  rw [he] at e2
  obtain ⟨a, c, rfl⟩ := row_is e2
  exact ⟨a, c, e1, WA.next ⟨S, g, h1, h2, h3⟩ e3⟩
theorem WA.sus (h : WA w0 w b W) (hn : W.l.length ≤ 1000) {L : List Nat} (he : susL W.l W.l.length = L) : Calls Tryz.prog 25 #[ptr b] w fun x w' => ∃ a c, x = .returned (.slice a L.length c) ∧ WA w0 w' b W := by
  obtain ⟨S, g, h1, h2, h3, k⟩ := h.go
  refine (wsus_any h1 hn).mono fun _ _ ⟨v, e1, e2, e3⟩ => ?_
  rw [he] at e2
  obtain ⟨a, c, rfl⟩ := row_is e2
  exact ⟨a, c, e1, WA.next ⟨S, g, h1, h2, h3⟩ e3⟩
/-- Fit, reckoned -/
def fitB (s : St) : Bool := decide (s.seen.length ≤ 100) && decide (s.writes.length ≤ 100) && s.seen.all (fun p => decide (p.1.size ≤ 80) && decide (p.2.size ≤ 65536)) && s.writes.all (fun q => decide (q.name.size ≤ 80) && decide ((q.was.getD ⟨#[]⟩).size ≤ 65536) && decide ((q.now.getD ⟨#[]⟩).size ≤ 65536)) && decide (s.refuse.getD 0 < 1000) && decide (s.room.getD 0 < 1000)
theorem fit_of {s : St} (h : fitB s = true) : Fit 100 s := by
  unfold fitB at h
  simp only [Bool.and_eq_true, decide_eq_true_eq, List.all_eq_true] at h
  obtain ⟨⟨⟨⟨⟨h1, h2⟩, h3⟩, h4⟩, h5⟩, h6⟩ := h
  refine ⟨h1, h2, fun p hp => (h3 p hp).1, fun p hp => (h3 p hp).2, fun q hq => (h4 q hq).1.1, fun q hq => (h4 q hq).1.2, fun q hq => (h4 q hq).2, fun k hk => ?_, fun k hk => ?_⟩
  · rw [hk] at h5; simp at h5; omega
  · rw [hk] at h6; simp at h6; omega
def aw1 : St := ⟨[(⟨#[97]⟩, ⟨#[120]⟩)], [⟨⟨#[97]⟩, none, some ⟨#[120]⟩⟩], false, none, none, true⟩
def aw2 : St := (crashS aw1 [])
def aw3 : St := (crashS st0 [])
def aw4 : St := (putS aw3 ⟨#[98]⟩ ⟨#[]⟩).2
def aw5 : St := (sync aw4).2
theorem aw1_is : putS st0 ⟨#[97]⟩ ⟨#[120]⟩ = (0, aw1) := by decide +kernel
theorem aw4_is : putS aw3 ⟨#[98]⟩ ⟨#[]⟩ = (0, aw4) := by decide +kernel
theorem aw5_is : sync aw4 = (0, aw5) := by decide +kernel
theorem aw_fit : Fit 100 st0 ∧ Fit 100 aw1 ∧ Fit 100 aw2 ∧ Fit 100 aw3 ∧ Fit 100 aw4 ∧ Fit 100 aw5 := ⟨fit_of (by decide +kernel), fit_of (by decide +kernel), fit_of (by decide +kernel), fit_of (by decide +kernel), fit_of (by decide +kernel), fit_of (by decide +kernel)⟩
def aw (x y : St) (p q c : Nat) (d t : Bool) (l : Nat) : Wd := ⟨[⟨p, x, false⟩, ⟨q, y, false⟩], c, d, t, l⟩
theorem aw_two {x y : St} {p q c : Nat} {d t : Bool} {l : Nat} {P : St → Prop} (h1 : P x) (h2 : P y) : ∀ z ∈ (aw x y p q c d t l).l, P z.st := fun z hz => by
  unfold aw at hz
  simp only [List.mem_cons, List.not_mem_nil, or_false] at hz
  rcases hz with rfl | rfl
  · exact h1
  · exact h2
theorem aw_s1 (p q : Nat) : cutW (aw st0 st0 p q 0 false false 0) 1 = (0, aw st0 st0 p q 0 false true 1) := by kernel_rfl
theorem aw_s2 (p q : Nat) : askS (aw st0 st0 p q 0 false true 1) 0 (fun s => putS s ⟨#[97]⟩ ⟨#[120]⟩) = (0, aw aw1 st0 p q 1 false true 0) := by kernel_rfl
theorem aw_s3 (p q : Nat) : askS (aw aw1 st0 p q 1 false true 0) 0 sync = (56, aw aw1 st0 p q 2 true true 0) := by kernel_rfl
theorem aw_s4 (p q : Nat) : crashW (aw aw1 st0 p q 2 true true 0) [] = aw aw2 aw3 p q 2 false false 0 := by kernel_rfl
theorem aw_s5 (p q : Nat) : getW (aw aw2 aw3 p q 2 false false 0) 0 ⟨#[97]⟩ = (⟨#[]⟩, 5) ∧ askW (aw aw2 aw3 p q 2 false false 0) 0 = aw aw2 aw3 p q 3 false false 0 := ⟨by kernel_rfl, by kernel_rfl⟩
theorem aw_s6 (p q : Nat) : askS (aw aw2 aw3 p q 3 false false 0) 1 (fun s => putS s ⟨#[98]⟩ ⟨#[]⟩) = (0, aw aw2 aw4 p q 4 false false 0) := by kernel_rfl
theorem aw_s7 (p q : Nat) : askS (aw aw2 aw4 p q 4 false false 0) 1 sync = (0, aw aw2 aw5 p q 5 false false 0) := by kernel_rfl
theorem aw_s8 (p q : Nat) : objsW (aw aw2 aw5 p q 5 false false 0) 1 = [(⟨#[98]⟩, ⟨#[]⟩)] := by kernel_rfl
theorem aw_s9 (p q : Nat) : susL (aw aw2 aw5 p q 5 false false 0).l (aw aw2 aw5 p q 5 false false 0).l.length = [] := by kernel_rfl
theorem aw_lv : aw1.writes ≠ [] → aw1.live = true := by decide +kernel
theorem st0_lv : st0.writes ≠ [] → st0.live = true := by decide +kernel
theorem aw_len : ∀ s ∈ [aw2, aw5], s.seen.length ≤ 1000000 := by decide +kernel
set_option maxHeartbeats 4000000 in
set_option maxRecDepth 20000 in
theorem awake_true (w : World) : Calls Tryz.prog 7 #[] w fun e w' => e = .returned (.bool true) ∧ Below w.heap.size w w' := by
  go_enter Tryz.func7, Tryz.ntmps7
  go_wp2_with fail
  refine (WA.new w 2 (by decide)).mono ?_
  rintro x w1 ⟨b, l, rfl, H, hl, hx⟩
  obtain ⟨p, q, rfl⟩ : ∃ p q, l = [⟨p, st0, false⟩, ⟨q, st0, false⟩] := by
    match l, hl, hx with
    | [⟨p, s, u⟩, ⟨q, t, v⟩], _, hx =>
      have h1 := hx ⟨p, s, u⟩ (by simp)
      have h2 := hx ⟨q, t, v⟩ (by simp)
      simp only at h1 h2
      rw [h1.1, h1.2, h2.1, h2.2]
      exact ⟨p, q, rfl⟩
  clear hl hx
  replace H : WA w w1 b (aw st0 st0 p q 0 false false 0) := H
  unfold ptr er
  go_wp2_with fail
  refine (WA.n H).mono ?_
  rintro x w2 ⟨rfl, H⟩
  simp only [show (aw st0 st0 p q 0 false false 0).l.length = 2 from rfl]
  go_wp2_with fail
  refine (WA.cut H 1 (aw_s1 p q)).mono ?_
  rintro x w3 ⟨rfl, H⟩
  unfold er
  go_wp2_with fail
  refine (WA.put H (by simp [aw]) (by simp [aw]) (aw_two aw_fit.1 aw_fit.1) (by decide) 0 ⟨#[97]⟩ ⟨#[120]⟩ (aw_s2 p q)).mono ?_
  rintro x w4 ⟨rfl, H⟩
  unfold er
  go_wp2_with fail
  refine (WA.dark H).mono ?_
  rintro x w5 ⟨rfl, H⟩
  simp only [show (aw aw1 st0 p q 1 false true 0).dark = false from rfl]
  go_wp2_with fail
  refine (WA.sync H (by simp [aw]) (by simp [aw]) 0 (aw_s3 p q)).mono ?_
  rintro x w6 ⟨rfl, H⟩
  unfold er
  go_wp2_with fail
  refine (WA.dark H).mono ?_
  rintro x w7 ⟨rfl, H⟩
  simp only [show (aw aw1 st0 p q 2 true true 0).dark = true from rfl]
  go_wp2_with fail
  refine (WA.calls H).mono ?_
  rintro x w8 ⟨rfl, H⟩
  simp only [show (aw aw1 st0 p q 2 true true 0).calls = 2 from rfl]
  go_wp2_with fail
  refine (WA.crash0 H (by simp [aw]) (aw_two (P := fun s => Fit 100 s ∧ (s.writes ≠ [] → s.live = true)) ⟨aw_fit.2.1, aw_lv⟩ ⟨aw_fit.1, st0_lv⟩) (by decide) (aw_s4 p q)).mono ?_
  rintro x w9 ⟨rfl, H⟩
  unfold er
  go_wp2_with fail
  refine (WA.dark H).mono ?_
  rintro x w10 ⟨rfl, H⟩
  simp only [show (aw aw2 aw3 p q 2 false false 0).dark = false from rfl]
  go_wp2_with fail
  refine (WA.get H (by simp [aw]) (by simp [aw]) 0 ⟨#[97]⟩ (by decide) (aw_s5 p q).1 (aw_s5 p q).2).mono ?_
  rintro x w11 ⟨rfl, H⟩
  unfold er
  go_wp2_with fail
  refine (WA.put H (by simp [aw]) (by simp [aw]) (aw_two aw_fit.2.2.1 aw_fit.2.2.2.1) (by decide) 1 ⟨#[98]⟩ ⟨#[]⟩ (aw_s6 p q)).mono ?_
  rintro x w12 ⟨rfl, H⟩
  unfold er
  go_wp2_with fail
  refine (WA.sync H (by simp [aw]) (by simp [aw]) 1 (aw_s7 p q)).mono ?_
  rintro x w13 ⟨rfl, H⟩
  unfold er
  go_wp2_with fail
  refine (WA.objs H (aw_two (P := fun s => s.seen.length ≤ 1000000) (aw_len aw2 (by simp)) (aw_len aw5 (by simp))) 1 (aw_s8 p q)).mono ?_
  rintro x w14 ⟨a, c, rfl, H⟩
  simp only [List.length_singleton]
  go_wp2_with fail
  refine (WA.sus H (by simp [aw]) (aw_s9 p q)).mono ?_
  rintro x w15 ⟨a2, c2, rfl, H⟩
  simp only [List.length_nil]
  go_wp2_with fail
  go_ret
  exact ⟨rfl, H.base⟩
end Go.Proofs.YtgdiaflikfdnaaaGreat
/- texts; two worlds side by side. -/
namespace Go.Proofs.YtgdiaflikfdnaaaGreat
open Go.RowKit Go.Maps
/-- both lie in S, apart from one another -/
def DP (w : World) (S : Nat → Prop) (b c : Nat) (p : Nat × Nat × Nat) (s : Wd) (r : Rd) : Prop := ∃ S1 T1, IsWd w S1 b p.1 s ∧ IsRd w T1 c p.2.1 p.2.2 r ∧ (∀ i, S1 i → S i) ∧ (∀ i, T1 i → S i) ∧ (∀ i, S1 i → ¬ T1 i) ∧ ∀ i, S i → i < w.heap.size
/-- behind what was done to them -/
def AfterP (w w' : World) (S : Nat → Prop) (b c : Nat) (p : Nat × Nat × Nat) (s : Wd) (r : Rd) : Prop := ∃ S', DP w' S' b c p s r ∧ (∀ i, S' i → S i ∨ w.heap.size ≤ i) ∧ Only S w w'
variable {w w' w1 w2 : World} {S : Nat → Prop} {b c : Nat} {p : Nat × Nat × Nat} {s s' : Wd} {r r' : Rd}
theorem DP.below (h : DP w S b c p s r) (hb : Below w.heap.size w w') : DP w' S b c p s r := by
  obtain ⟨S1, T1, h1, h2, h3, h4, h5, h6⟩ := h
  exact ⟨S1, T1, h1.below hb, h2.below hb, h3, h4, h5, fun i hi => Nat.lt_of_lt_of_le (h6 i hi) hb.size⟩
theorem DP.only {S' : Nat → Prop} (h : DP w S b c p s r) (ho : Only S' w w') (hn : ∀ i, S i → ¬ S' i) : DP w' S b c p s r := by
  obtain ⟨S1, T1, h1, h2, h3, h4, h5, h6⟩ := h
  exact ⟨S1, T1, h1.only ho fun i hi => hn i (h3 i hi), h2.only ho fun i hi => hn i (h4 i hi), h3, h4, h5, fun i hi => Nat.lt_of_lt_of_le (h6 i hi) ho.size⟩
theorem AfterP.refl (h : DP w S b c p s r) : AfterP w w S b c p s r := ⟨S, h, fun _ h => .inl h, Only.refl _ _⟩
theorem AfterP.trans {S1 : Nat → Prop} (hs : ∀ i, S1 i → S i ∨ w.heap.size ≤ i) (ho : Only S w w1) (h : AfterP w1 w2 S1 b c p s r) : AfterP w w2 S b c p s r := by
  obtain ⟨S', h1, h2, h3⟩ := h
  refine ⟨S', h1, fun i hi => ?_, ho.trans h3 hs⟩
  rcases h2 i hi with h | h
  · exact hs i h
  · exact .inr (Nat.le_trans ho.size h)
theorem AfterP.then (h : AfterP w w1 S b c p s r) (k : ∀ S', DP w1 S' b c p s r → AfterP w1 w2 S' b c p s' r') : AfterP w w2 S b c p s' r' := by
  obtain ⟨S', h1, h2, h3⟩ := h
  exact AfterP.trans h2 h3 (k S' h1)
theorem AfterP.front (hb : Below w.heap.size w w1) (h : AfterP w1 w2 S b c p s r) : AfterP w w2 S b c p s r := AfterP.trans (fun _ h => .inl h) (Only.of_below hb) h
theorem AfterP.next (h : AfterP w w1 S b c p s r) (hb : Below w1.heap.size w1 w2) : AfterP w w2 S b c p s r := h.then fun S' h' => ⟨S', h'.below hb, fun _ h => .inl h, Only.of_below hb⟩
theorem DP.st (h : DP w S b c p s r) : ∃ S1, IsWd w S1 b p.1 s ∧ (∀ i, S1 i → S i) ∧ ∀ w' s', AfterW w w' S1 b p.1 s' → AfterP w w' S b c p s' r := by
  obtain ⟨S1, T1, h1, h2, h3, h4, h5, h6⟩ := h
  refine ⟨S1, h1, h3, fun w' s' ha => ?_⟩
  obtain ⟨S1', a1, a2, a3⟩ := ha
  have hT : ∀ i, T1 i → i < w.heap.size := fun i hi => h6 i (h4 i hi)
  refine ⟨fun i => S i ∨ (w.heap.size ≤ i ∧ i < w'.heap.size), ⟨S1', T1, a1, h2.only a3 fun i hi hS => h5 i hS hi, fun i hi => ?_, fun i hi => .inl (h4 i hi), fun i hi hT1 => ?_, fun i hi => ?_⟩, fun i hi => hi.imp id fun h => h.1, a3.mono h3⟩
  · have hb : i < w'.heap.size := a1.bound i hi
    rcases a2 i hi with h | h
    · exact .inl (h3 i h)
    · exact .inr ⟨h, hb⟩
  · rcases a2 i hi with h | h
    · exact h5 i h hT1
    · have := hT i hT1; omega
  · rcases hi with hi | hi
    · exact Nat.lt_of_lt_of_le (h6 i hi) a3.size
    · exact hi.2
theorem DP.rf (h : DP w S b c p s r) : ∃ T1, IsRd w T1 c p.2.1 p.2.2 r ∧ (∀ i, T1 i → S i) ∧ ∀ w' r', AfterD w w' T1 c p.2.1 p.2.2 r' → AfterP w w' S b c p s r' := by
  obtain ⟨S1, T1, h1, h2, h3, h4, h5, h6⟩ := h
  refine ⟨T1, h2, h4, fun w' r' ha => ?_⟩
  obtain ⟨T1', a1, a2, a3⟩ := ha
  have hS : ∀ i, S1 i → i < w.heap.size := fun i hi => h6 i (h3 i hi)
  refine ⟨fun i => S i ∨ (w.heap.size ≤ i ∧ i < w'.heap.size), ⟨S1, T1', h1.only a3 fun i hi hT => h5 i hi hT, a1, fun i hi => .inl (h3 i hi), fun i hi => ?_, fun i hi hT1 => ?_, fun i hi => ?_⟩, fun i hi => hi.imp id fun h => h.1, a3.mono h4⟩
  · have hb : i < w'.heap.size := a1.bound i hi
    rcases a2 i hi with h | h
    · exact .inl (h4 i h)
    · exact .inr ⟨h, hb⟩
  · rcases a2 i hT1 with h | h
    · exact h5 i hi h
    · have := hS i hi; omega
  · rcases hi with hi | hi
    · exact Nat.lt_of_lt_of_le (h6 i hi) a3.size
    · exact hi.2
theorem AfterP.st (h : AfterP w w1 S b c p s r) : ∃ S1, IsWd w1 S1 b p.1 s ∧ (∀ i, S1 i → S i ∨ w.heap.size ≤ i) ∧ ∀ w2 s', AfterW w1 w2 S1 b p.1 s' → AfterP w w2 S b c p s' r := by
  obtain ⟨S', h1, h2, h3⟩ := h
  obtain ⟨S1, k1, k2, k3⟩ := h1.st
  exact ⟨S1, k1, fun i hi => h2 i (k2 i hi), fun w2 s' ha => AfterP.trans h2 h3 (k3 w2 s' ha)⟩
theorem AfterP.rf (h : AfterP w w1 S b c p s r) : ∃ T1, IsRd w1 T1 c p.2.1 p.2.2 r ∧ (∀ i, T1 i → S i ∨ w.heap.size ≤ i) ∧ ∀ w2 r', AfterD w1 w2 T1 c p.2.1 p.2.2 r' → AfterP w w2 S b c p s r' := by
  obtain ⟨S', h1, h2, h3⟩ := h
  obtain ⟨S1, k1, k2, k3⟩ := h1.rf
  exact ⟨S1, k1, fun i hi => h2 i (k2 i hi), fun w2 s' ha => AfterP.trans h2 h3 (k3 w2 s' ha)⟩
theorem AfterP.has (h : AfterP w w1 S b c p s r) {B : Nat} {cs : Array Value} {t : TypeId} (hh : Has w B cs t) (hn : ¬ S B) : Has w1 B cs t := by
  obtain ⟨_, _, _, h3⟩ := h
  exact h3.has hh hn
def txF (v1 v2 : Value) (g1 g2 k : Nat) (p : ByteArray) (i : Nat) (v : Value) (_ : World) : Prop := match i with
  | 17 => v = v1
  | 18 => v = .int .i64 (k : Int)
  | 19 => v = .pointer (some ⟨g1, k, none⟩)
  | 20 => v = .string p
  | 21 => v = v2
  | 22 => v = .int .i64 (k : Int)
  | 23 => v = .pointer (some ⟨g2, k, none⟩)
  | 24 => v = .string p
  | 25 => v = .bool false
  | _ => True
section
variable {ev : Operand → Value} {o : Oper} {w : World} {x y : Operand}
theorem rn_ix75n {g n c k : Nat} (ho : o.op = .indexAddr 75 x y) (hx : ev x = .slice (some ⟨g, 0, none⟩) n c) (hy : ev y = .int .i64 (k : Int)) (hk : k < n) : (execOp ev o).run Tryz.prog w = .ok (.value (.pointer (some ⟨g, k, none⟩))) w := by
  have q : (k : Int) < (n : Int) := by omega
  simp [execOp, ho, hx, hy, go_sem, q]
end
set_option maxHeartbeats 2000000 in
set_option maxRecDepth 20000 in
theorem texts_any {w : World} {B1 B2 : Nat} {v1 v2 : Value} {M : List Ob} (h1 : w.ownsRow B1 9 1 v1 M.length (nameCells M)) (h2 : w.ownsRow B2 9 1 v2 M.length (nameCells M)) (hne : ∀ k, v1.ownBlock = some k → k < B2) (hB : B1 ≤ w.heap.size) (hM : M.length ≤ 1000000) : Calls Tryz.prog 37 #[v1, v2] w fun e w' => e = .returned (.bool true) ∧ Below B1 w w' ∧ Only (fun i => v1.ownBlock = some i) w w' := by
  obtain ⟨a1, c1, rfl⟩ := row_slice h1
  obtain ⟨a2, c2, rfl⟩ := row_slice h2
  have H1 := hid h1
  have H2 := hid h2
  have HNE := hid hne
  clear h1 h2 hne
  generalize hL : M.length = L at *
  have HL := hid hL
  have HB := hid hB
  clear hL hB
  have H0 : Hid (0 < L → ∃ g1 cur, a1 = some ⟨g1, 0, none⟩ ∧ Has w g1 cur 9 ∧ ∀ j, 0 ≤ j → cur[j]? = w.cell? ⟨g1, j, none⟩) := hid fun h0 => by
    rcases H1.out.2 with ⟨e, e2⟩ | ⟨g1, ca, cur, e1, _, hh, _⟩
    · cases e; omega
    · cases e1
      have hh' : Has w g1 cur 9 := hh
      exact ⟨g1, cur, rfl, hh', fun j _ => (hh'.cell j).symm⟩
  go_enter Tryz.func37, Tryz.ntmps37
  go_wp2_with fail
  go_loopg [5] L (fun gk s5 wx => ∃ k : Nat, k + gk = L ∧ s5 = .int .i64 (k : Int) ∧ (0 < L → ∃ g1 cur, a1 = some ⟨g1, 0, none⟩ ∧ Has wx g1 cur 9 ∧ ∀ j, k ≤ j → cur[j]? = w.cell? ⟨g1, j, none⟩) ∧ Only (fun i => (Value.slice a1 L c1).ownBlock = some i) w wx)
  case atStart => exact ⟨0, by omega, rfl, H0.out, Only.refl _ _⟩
  case round =>
    obtain ⟨k, hk, rfl, hin, hon⟩ := hrel
    have HON := hid hon
    cases gk with
    | zero =>
      have q1 : ¬ ((k : Int) < (L : Int)) := by omega
      clear hon hin
      go_wp2_with fail
      go_ret
      exact ⟨rfl, HON.out.below HB.out fun i hi => (H1.out.lt i hi).1, HON.out⟩
    | succ g1' =>
      have q1 : (k : Int) < (L : Int) := by omega
      have hk1 : k < L := by omega
      obtain ⟨g1, cur, rfl, hHas, hcur⟩ := hin (by omega)
      obtain ⟨p, hp⟩ : ∃ p, M[k]? = some p := ⟨_, List.getElem?_eq_getElem (by rw [HL.out]; exact hk1)⟩
      obtain ⟨g3, ca, ea, d1⟩ := names_cells (by rw [HL.out]; exact H1.out) hp
      rw [HL.out] at ea
      cases ea
      obtain ⟨g2, cb, eb, f0⟩ := names_cells (w := wr) (by rw [HL.out]; exact row_block H2.out fun k hk hl => hon.block k hl (fun e => by have := HNE.out k e; have := (H2.out.lt k hk).1; omega)) hp
      rw [HL.out] at eb
      cases eb
      have d0 : wr.cell? ⟨g1, k, none⟩ = some (.string p.1) := by rw [hHas.cell k, hcur k (Nat.le_refl _), d1]
      have y2 := hHas.frozen k
      have HH := hid hHas
      have HC := hid hcur
      clear hp hon hin hHas hcur d1
      go_wp2_with fail
      refine Tl.wp_mix_lit (by kernel_rfl) 9 [17, 18, 19, 20, 21, 22, 23, 24, 25] 29 rfl (by kernel_rfl) (AtW wr.drew) (txF (.slice (some ⟨g1, 0, none⟩) L c1) (.slice (some ⟨g2, 0, none⟩) L c2) g1 g2 k p.1) rfl
        ⟨fun a' W' hC hF => ?_, fun a' W' hC hF => ?_, fun a' W' hC hF => ?_, fun a' W' hC hF => ?_, fun a' W' hC hF => ?_, fun a' W' hC hF => ?_, fun a' W' hC hF => ?_, fun a' W' hC hF => ?_, fun a' W' hC hF => ?_, trivial⟩ ?_
      · exact Tl.sm_v 17 _ rfl (Tl.wanted_none rfl) hC rfl (rn_move rfl ((hF 0 (by decide +kernel)).2 (by decide)))
      · exact Tl.sm_v 18 _ rfl (Tl.wanted_none rfl) hC rfl (rn_move rfl ((hF 5 (by decide +kernel)).2 (by decide)))
      · exact Tl.sm_v 19 _ rfl (Tl.wanted_none rfl) hC rfl (rn_ix75n rfl ((hF 17 (by decide +kernel)).1 (by decide)) ((hF 18 (by decide +kernel)).1 (by decide)) hk1)
      · exact Tl.sm_v 20 _ rfl (Tl.wanted_none rfl) hC rfl (rn_load9 rfl ((hF 19 (by decide +kernel)).1 (by decide)) (by rw [show W' = _ from hC]; exact d0))
      · exact Tl.sm_v 21 _ rfl (Tl.wanted_none rfl) hC rfl (rn_move rfl ((hF 1 (by decide +kernel)).2 (by decide)))
      · exact Tl.sm_v 22 _ rfl (Tl.wanted_none rfl) hC rfl (rn_move rfl ((hF 5 (by decide +kernel)).2 (by decide)))
      · exact Tl.sm_v 23 _ rfl (Tl.wanted_none rfl) hC rfl (rn_ix75n rfl ((hF 21 (by decide +kernel)).1 (by decide)) ((hF 22 (by decide +kernel)).1 (by decide)) hk1)
      · exact Tl.sm_v 24 _ rfl (Tl.wanted_none rfl) hC rfl (rn_load9 rfl ((hF 23 (by decide +kernel)).1 (by decide)) (by rw [show W' = _ from hC]; exact f0))
      · exact Tl.sm_v 25 _ rfl (Tl.wanted_none rfl) hC rfl (rn_neq9 rfl ((hF 20 (by decide +kernel)).1 (by decide)) ((hF 24 (by decide +kernel)).1 (by decide)) (by simp))
      intro v wB hw hv
      obtain rfl : wB = _ := hw
      have v25 : v 25 = .bool false := hv 25 (by decide)
      clear hv
      simp only [Tl.fill, List.drop_succ_cons, List.drop_zero, wpList]
      simp only [Act.put, List.setIfInBounds_toArray, List.set_cons_succ, List.set_cons_zero, v25]
      clear v25
      go_wp2_with fail
      go_roundg g1'
      case measure => omega
      case rel =>
        refine ⟨k + 1, by omega, by first | rfl | simp, fun _ => ⟨g1, _, rfl, (HH.out.below (Below.refl _ _).drew HH.out.lt).set k _, fun j hj => ?_⟩, (HON.out.drew).set (p := ⟨g1, k, none⟩) (.inl rfl) _⟩
        rw [Array.getElem?_setIfInBounds_ne (by omega)]
        exact HC.out j (by omega)
end Go.Proofs.YtgdiaflikfdnaaaGreat
