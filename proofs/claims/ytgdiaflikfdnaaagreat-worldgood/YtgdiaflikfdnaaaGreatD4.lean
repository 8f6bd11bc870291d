/- The document's world: what it is, how it lies in memory; call, Cut. -/
import Derived.Test.YtgdiaflikfdnaaaGreatW11
namespace Go.Proofs.YtgdiaflikfdnaaaGreat
open Go.RowKit Go.Maps
structure Kr where
  blk : Nat
  rf : Rf
  sus : Bool
structure Rd where
  l : List Kr
  calls : Nat
  left : Option Nat
  dark : Bool
def pcells (l : List Kr) : List Value := l.map fun x => ptr x.blk
def ucells (l : List Kr) : List Value := l.map fun x => Value.bool x.sus
def rdcells (sv uv : Value) (W : Rd) : Array Value := #[sv, uv, .int .i64 (W.calls : Int), .int .i64 (less1 W.left), .bool W.dark]
def IsRd (w : World) (S : Nat → Prop) (b g u : Nat) (W : Rd) : Prop := ∃ (cap cup : Nat) (F : Nat → Nat → Prop), Has w b (rdcells (.slice (some ⟨g, 0, none⟩) W.l.length cap) (.slice (some ⟨u, 0, none⟩) W.l.length cup) W) 70 ∧ w.ownsRow 0 71 1 (.slice (some ⟨g, 0, none⟩) W.l.length cap) W.l.length (pcells W.l) ∧ w.ownsRow 0 4 1 (.slice (some ⟨u, 0, none⟩) W.l.length cup) W.l.length (ucells W.l) ∧ (∀ (j : Nat) (x : Kr), W.l[j]? = some x → IsRf w (F j) x.blk x.rf ∧ (∀ i, F j i → S i) ∧ ¬ F j b ∧ ¬ F j g ∧ ¬ F j u) ∧ (∀ j k, j < W.l.length → k < W.l.length → j ≠ k → ∀ i, F j i → ¬ F k i) ∧ S b ∧ S g ∧ S u ∧ (∀ i, S i → i < w.heap.size)
def AfterD (w w' : World) (S : Nat → Prop) (b g u : Nat) (W : Rd) : Prop := ∃ S', IsRd w' S' b g u W ∧ (∀ i, S' i → S i ∨ w.heap.size ≤ i) ∧ Only S w w'
variable {w w' w1 w2 : World} {S : Nat → Prop} {b g u : Nat} {W W' : Rd}
theorem IsRd.only {S' : Nat → Prop} (h : IsRd w S b g u W) (ho : Only S' w w') (hn : ∀ i, S i → ¬ S' i) : IsRd w' S b g u W := by
  obtain ⟨cap, cup, F, h1, h2, hu, h3, h4, h5, h6, h8, h7⟩ := h
  refine ⟨cap, cup, F, ho.has h1 (hn _ h5), row_block h2 fun k hk hl => ho.block k hl (hn _ (by simp [Value.ownBlock] at hk; subst hk; exact h6)), row_block hu fun k hk hl => ho.block k hl (hn _ (by simp [Value.ownBlock] at hk; subst hk; exact h8)), fun j x hj => ?_, h4, h5, h6, h8, fun i hi => Nat.lt_of_lt_of_le (h7 i hi) ho.size⟩
  obtain ⟨k1, k2, k3⟩ := h3 j x hj
  exact ⟨k1.only ho fun i hi => hn i (k2 i hi), k2, k3⟩
theorem IsRd.below (h : IsRd w S b g u W) (hb : Below w.heap.size w w') : IsRd w' S b g u W := h.only (S' := fun _ => False) (Only.of_below hb) fun _ _ h => h
theorem IsRd.bound (h : IsRd w S b g u W) : ∀ i, S i → i < w.heap.size := by
  obtain ⟨cap, cup, F, h1, h2, hu, h3, h4, h5, h6, h8, h7⟩ := h; exact h7
theorem AfterD.refl (h : IsRd w S b g u W) : AfterD w w S b g u W := ⟨S, h, fun _ h => .inl h, Only.refl _ _⟩
theorem AfterD.trans {S1 : Nat → Prop} (hs : ∀ i, S1 i → S i ∨ w.heap.size ≤ i) (ho : Only S w w1) (h : AfterD w1 w2 S1 b g u W) : AfterD w w2 S b g u W := by
  obtain ⟨S', h1, h2, h3⟩ := h
  refine ⟨S', h1, fun i hi => ?_, ho.trans h3 hs⟩
  rcases h2 i hi with h | h
  · exact hs i h
  · exact .inr (Nat.le_trans ho.size h)
theorem AfterD.then (h : AfterD w w1 S b g u W) (k : ∀ S', IsRd w1 S' b g u W → AfterD w1 w2 S' b g u W') : AfterD w w2 S b g u W' := by
  obtain ⟨S', h1, h2, h3⟩ := h
  exact AfterD.trans h2 h3 (k S' h1)
theorem AfterD.front (hb : Below w.heap.size w w1) (h : AfterD w1 w2 S b g u W) : AfterD w w2 S b g u W := AfterD.trans (fun _ h => .inl h) (Only.of_below hb) h
theorem AfterD.next (h : AfterD w w1 S b g u W) (hb : Below w1.heap.size w1 w2) : AfterD w w2 S b g u W := h.then fun S' h' => ⟨S', h'.below hb, fun _ h => .inl h, Only.of_below hb⟩
theorem AfterD.has (h : AfterD w w1 S b g u W) {B : Nat} {cs : Array Value} {t : TypeId} (hh : Has w B cs t) (hn : ¬ S B) : Has w1 B cs t := by
  obtain ⟨_, _, _, h3⟩ := h
  exact h3.has hh hn
theorem IsRd.cells (h : IsRd w S b g u W) : ∃ cap cup, (w.cell? ⟨b, 0, none⟩ = some (.slice (some ⟨g, 0, none⟩) W.l.length cap) ∧ w.cell? ⟨b, 1, none⟩ = some (.slice (some ⟨u, 0, none⟩) W.l.length cup) ∧ w.cell? ⟨b, 2, none⟩ = some (.int .i64 (W.calls : Int)) ∧ w.cell? ⟨b, 3, none⟩ = some (.int .i64 (less1 W.left)) ∧ w.cell? ⟨b, 4, none⟩ = some (.bool W.dark)) ∧ (∀ i, w.frozen? ⟨b, i, none⟩ = false) ∧ w.ownsRow 0 71 1 (.slice (some ⟨g, 0, none⟩) W.l.length cap) W.l.length (pcells W.l) ∧ w.ownsRow 0 4 1 (.slice (some ⟨u, 0, none⟩) W.l.length cup) W.l.length (ucells W.l) := by
  obtain ⟨cap, cup, F, h1, h2, hu, _⟩ := h
  exact ⟨cap, cup, ⟨h1.cell 0, h1.cell 1, h1.cell 2, h1.cell 3, h1.cell 4⟩, fun i => h1.frozen i, h2, hu⟩
theorem IsRd.kept (h : IsRd w S b g u W) {j : Nat} {x : Kr} (hj : W.l[j]? = some x) : w.cell? ⟨g, j, none⟩ = some (ptr x.blk) ∧ w.cell? ⟨u, j, none⟩ = some (.bool x.sus) ∧ (∀ i, w.frozen? ⟨u, i, none⟩ = false) := by
  obtain ⟨cap, cup, F, h1, h2, hu, _⟩ := h
  have hl : j < W.l.length := (List.getElem?_eq_some_iff.1 hj).1
  exact ⟨by rw [h2.cellAt j (by omega)]; simp [pcells, hj], by rw [hu.cellAt j (by omega)]; simp [ucells, hj], fun i => hu.frozenAt i⟩
theorem AfterD.turn (h : IsRd w S b g u W) (i : Nat) (v : Value) (he : W'.l = W.l) (hc : ∀ sv uv, (rdcells sv uv W).setIfInBounds i v = rdcells sv uv W') : AfterD w (w.setCell ⟨b, i, none⟩ v) S b g u W' := by
  obtain ⟨cap, cup, F, h1, h2, hu, h3, h4, h5, h6, h8, h7⟩ := h
  have ho : Only (fun k => k = b) w (w.setCell ⟨b, i, none⟩ v) := (Only.refl (fun k => k = b) w).set (p := ⟨b, i, none⟩) (.inl rfl) v
  refine ⟨S, ⟨cap, cup, F, ?_, ?_, ?_, fun j x hj => ?_, by rw [he]; exact h4, h5, h6, h8, fun k hk => Nat.lt_of_lt_of_le (h7 k hk) ho.size⟩, fun _ h => .inl h, ho.mono fun k hk => by subst hk; exact h5⟩
  · have := h1.set i v
    rw [hc] at this
    rw [he]; exact this
  · rw [he]; exact row_setb h2 h1 (by decide) i v
  · rw [he]; exact row_setb hu h1 (by decide) i v
  · rw [he] at hj
    obtain ⟨k1, k2, k3, k4⟩ := h3 j x hj
    exact ⟨k1.only ho fun k hk e => k3 (e ▸ hk), k2, k3, k4⟩
theorem pcells_set (l : List Kr) (j : Nat) (x y : Kr) (h : l[j]? = some x) (e : y.blk = x.blk) : pcells (l.set j y) = pcells l := by
  apply List.ext_getElem?
  intro i
  unfold pcells
  rw [List.getElem?_map, List.getElem?_map]
  by_cases hij : i = j
  · subst hij
    rw [List.getElem?_set_self (List.getElem?_eq_some_iff.1 h).1, h]
    simp [e]
  · rw [List.getElem?_set_ne (Ne.symm hij)]
theorem ucells_set (l : List Kr) (j : Nat) (x y : Kr) (h : l[j]? = some x) (e : y.sus = x.sus) : ucells (l.set j y) = ucells l := by
  apply List.ext_getElem?
  intro i
  unfold ucells
  rw [List.getElem?_map, List.getElem?_map]
  by_cases hij : i = j
  · subst hij
    rw [List.getElem?_set_self (List.getElem?_eq_some_iff.1 h).1, h]
    simp [e]
  · rw [List.getElem?_set_ne (Ne.symm hij)]
theorem ucells_sus (l : List Kr) (j : Nat) (y : Kr) : ucells (l.set j y) = (ucells l).set j (.bool y.sus) := by
  unfold ucells
  rw [List.map_set]
theorem IsRd.call (h : IsRd w S b g u W) {j : Nat} {x : Kr} (hj : W.l[j]? = some x) : ∃ T, IsRf w T x.blk x.rf ∧ (∀ i, T i → S i) ∧ ∀ w' s', AfterR w w' T x.blk s' → AfterD w w' S b g u { W with l := W.l.set j { x with rf := s' } } := by
  obtain ⟨cap, cup, F, h1, h2, hu, h3, h4, h5, h6, h8, h7⟩ := h
  have hl : j < W.l.length := (List.getElem?_eq_some_iff.1 hj).1
  obtain ⟨k1, k2, k3, k4, k5⟩ := h3 j x hj
  refine ⟨F j, k1, k2, fun w' s' ha => ?_⟩
  obtain ⟨T', a1, a2, a3⟩ := ha
  have hT' : ∀ i, T' i → i < w'.heap.size := a1.bound
  refine ⟨fun i => S i ∨ (w.heap.size ≤ i ∧ i < w'.heap.size), ⟨cap, cup, fun k => if k = j then T' else F k, ?_, ?_, ?_, fun k y hk => ?_, fun k m hk hm hkm i hi hi' => ?_, .inl h5, .inl h6, .inl h8, fun i hi => ?_⟩, fun i hi => hi.imp id fun h => h.1, a3.mono k2⟩
  · have := a3.has h1 k3
    unfold rdcells at this ⊢
    simpa using this
  · simp only [List.length_set]
    rw [pcells_set W.l j x { x with rf := s' } hj rfl]
    exact row_block h2 fun k hk hl' => a3.block k hl' (by simp [Value.ownBlock] at hk; subst hk; exact k4)
  · simp only [List.length_set]
    rw [ucells_set W.l j x { x with rf := s' } hj rfl]
    exact row_block hu fun k hk hl' => a3.block k hl' (by simp [Value.ownBlock] at hk; subst hk; exact k5)
  · by_cases e : k = j
    · subst e
      simp only [if_true]
      simp only [List.getElem?_set_self hl, Option.some.injEq] at hk
      subst hk
      refine ⟨a1, fun i hi => ?_, fun hb => ?_, fun hg => ?_, fun hg => ?_⟩
      · have := hT' i hi
        rcases a2 i hi with h | h
        · exact .inl (k2 i h)
        · exact .inr ⟨h, this⟩
      · rcases a2 b hb with h | h
        · exact k3 h
        · have := h7 b h5; omega
      · rcases a2 g hg with h | h
        · exact k4 h
        · have := h7 g h6; omega
      · rcases a2 u hg with h | h
        · exact k5 h
        · have := h7 u h8; omega
    · simp only [if_neg e]
      simp only [List.getElem?_set_ne (Ne.symm e)] at hk
      obtain ⟨m1, m2, m3, m4⟩ := h3 k y hk
      have hkl : k < W.l.length := (List.getElem?_eq_some_iff.1 hk).1
      exact ⟨m1.only a3 fun i hi hT => h4 k j hkl hl e i hi hT, fun i hi => .inl (m2 i hi), m3, m4⟩
  · simp only [List.length_set] at hk hm
    have new : ∀ n, n < W.l.length → n ≠ j → F n i → T' i → False := fun n hn hnj a c => by
      rcases a2 i c with h | h
      · exact h4 n j hn hl hnj i a h
      · obtain ⟨y, hy⟩ : ∃ y, W.l[n]? = some y := ⟨_, List.getElem?_eq_getElem hn⟩
        have := h7 i ((h3 n y hy).2.1 i a)
        omega
    by_cases ek : k = j
    · subst ek
      simp only [if_true] at hi
      simp only [if_neg (Ne.symm hkm)] at hi'
      exact new m hm (Ne.symm hkm) hi' hi
    · simp only [if_neg ek] at hi
      by_cases em : m = j
      · subst em
        simp only [if_true] at hi'
        exact new k hk ek hi hi'
      · simp only [if_neg em] at hi'
        exact h4 k m hk hm hkm i hi hi'
  · rcases hi with hi | hi
    · exact Nat.lt_of_lt_of_le (h7 i hi) a3.size
    · exact hi.2
theorem AfterD.sus (h : IsRd w S b g u W) {j : Nat} {x : Kr} (hj : W.l[j]? = some x) (v : Bool) : AfterD w (w.setCell ⟨u, j, none⟩ (.bool v)) S b g u { W with l := W.l.set j { x with sus := v } } := by
  obtain ⟨cap, cup, F, h1, h2, hu, h3, h4, h5, h6, h8, h7⟩ := h
  have hl : j < W.l.length := (List.getElem?_eq_some_iff.1 hj).1
  have ho : Only (fun k => k = u) w (w.setCell ⟨u, j, none⟩ (.bool v)) := (Only.refl (fun k => k = u) w).set (p := ⟨u, j, none⟩) (.inl rfl) _
  have hbu : b ≠ u := fun e => row_ne hu h1 (by decide) u rfl e.symm
  have hgu : g ≠ u := fun e => rows_ne h2 hu (by decide) g rfl (by rw [e]; rfl)
  refine ⟨S, ⟨cap, cup, F, ?_, ?_, ?_, fun k y hk => ?_, by simpa using h4, h5, h6, h8, fun k hk => Nat.lt_of_lt_of_le (h7 k hk) ho.size⟩, fun _ h => .inl h, ho.mono fun k hk => by subst hk; exact h8⟩
  · have := ho.has h1 hbu
    unfold rdcells at this ⊢
    simpa using this
  · simp only [List.length_set]
    rw [pcells_set W.l j x { x with sus := v } hj rfl]
    exact row_block h2 fun k hk hl' => ho.block k hl' (by simp [Value.ownBlock] at hk; subst hk; exact hgu)
  · simp only [List.length_set]
    rw [ucells_sus]
    exact (hu.stored j (.bool v)).1
  · by_cases e : k = j
    · subst e
      simp only [List.getElem?_set_self hl, Option.some.injEq] at hk
      subst hk
      obtain ⟨k1, k2, k3, k4, k5⟩ := h3 k x hj
      exact ⟨k1.only ho fun i hi e => k5 (e ▸ hi), k2, k3, k4, k5⟩
    · simp only [List.getElem?_set_ne (Ne.symm e)] at hk
      obtain ⟨k1, k2, k3, k4, k5⟩ := h3 k y hk
      exact ⟨k1.only ho fun i hi e => k5 (e ▸ hi), k2, k3, k4, k5⟩
end Go.Proofs.YtgdiaflikfdnaaaGreat
/- The document's world: call, Cut, Put, Del, Sync, Get, List. -/
namespace Go.Proofs.YtgdiaflikfdnaaaGreat
open Go.RowKit Go.Maps
variable {w w' w1 w2 : World} {S : Nat → Prop} {b g u : Nat} {W W' : Rd}
def cutD (W : Rd) (a : Int) : Int × Rd := if a < 0 then (1, W) else (0, { W with left := some a.toNat })
set_option maxRecDepth 20000 in
theorem dcut_any (h : IsRd w S b g u W) (a : Int) : Calls Tryz.prog 39 #[ptr b, .int .i64 a] w fun e w' => e = .returned (er (cutD W a).1) ∧ AfterD w w' S b g u (cutD W a).2 := by
  have HR := hid (AfterD.refl h)
  unfold cutD er
  by_cases h0 : a < 0
  · rw [if_pos h0]
    clear h
    unfold ptr
    go_enter Tryz.func39, Tryz.ntmps39
    go_wp2_with fail
    go_ret
    exact ⟨rfl, HR.out⟩
  · rw [if_neg h0]
    obtain ⟨k, rfl⟩ := Int.eq_ofNat_of_zero_le (show 0 ≤ a by omega)
    have q0 : decide ((k : Int) < 0) = false := decide_eq_false h0
    have HA := hid (AfterD.turn (W' := { W with left := some k }) h 3 (.int .i64 (k : Int)) rfl fun _ _ => rfl)
    obtain ⟨cap, cup, F, h1, _⟩ := h
    have f3 := h1.frozen 3
    have k3 : w.cell? ⟨b, 3, none⟩ = some (.int .i64 (less1 W.left)) := h1.cell 3
    clear h1 h0
    unfold ptr
    go_enter Tryz.func39, Tryz.ntmps39
    go_wp2_with fail
    go_ret
    exact ⟨rfl, HA.out⟩
/-- a call is counted -/
def callD (W : Rd) : Int × Rd := match W.left with
  | some 0 => (56, { W with calls := W.calls + 1, dark := true })
  | none => if W.dark then (56, { W with calls := W.calls + 1 }) else (0, { W with calls := W.calls + 1 })
  | some (n + 1) => if W.dark then (56, { W with calls := W.calls + 1 }) else (0, { W with calls := W.calls + 1, left := some n })
theorem callD_l (W : Rd) : (callD W).2.l = W.l := by
  unfold callD
  split
  · rfl
  · split <;> rfl
  · split <;> rfl
set_option maxHeartbeats 2000000 in
set_option maxRecDepth 20000 in
theorem call62_any (h : IsRd w S b g u W) (hc : W.calls ≤ 1000000) (hl : ∀ n, W.left = some n → n < 9223372036854775808) (i : Int) : Calls Tryz.prog 62 #[ptr b, .int .i64 i] w fun e w' => e = .returned (.int .i64 (if 0 ≤ i ∧ i < (W.l.length : Int) then (callD W).1 else 1)) ∧ AfterD w w' S b g u (if 0 ≤ i ∧ i < (W.l.length : Int) then (callD W).2 else W) := by
  obtain ⟨ls, cl, lf, dk⟩ := W
  simp only at hc hl
  have HR := hid (AfterD.refl h)
  have HA1 := hid (AfterD.turn (W' := ⟨ls, cl + 1, lf, dk⟩) h 2 (.int .i64 ((cl + 1 : Nat) : Int)) rfl fun _ _ => rfl)
  have hw1 : IntKind.i64.wrap ((cl : Int) + 1) = ((cl + 1 : Nat) : Int) := wrapN (b := 1) (by omega)
  obtain ⟨cap, cup, F, hh, _⟩ := h
  have k0 : w.cell? ⟨b, 0, none⟩ = some (.slice (some ⟨g, 0, none⟩) ls.length cap) := hh.cell 0
  have k2 : w.cell? ⟨b, 2, none⟩ = some (.int .i64 (cl : Int)) := hh.cell 2
  have f2 := hh.frozen 2
  have h2 := hh.set 2 (.int .i64 ((cl + 1 : Nat) : Int))
  have k3 : (w.setCell ⟨b, 2, none⟩ (.int .i64 ((cl + 1 : Nat) : Int))).cell? ⟨b, 3, none⟩ = some (.int .i64 (less1 lf)) := h2.cell 3
  have f3 := h2.frozen 3
  have k4 : (w.setCell ⟨b, 2, none⟩ (.int .i64 ((cl + 1 : Nat) : Int))).cell? ⟨b, 4, none⟩ = some (.bool dk) := h2.cell 4
  have f4 := h2.frozen 4
  have h3 := h2.set 4 (.bool true)
  have k5 : ((w.setCell ⟨b, 2, none⟩ (.int .i64 ((cl + 1 : Nat) : Int))).setCell ⟨b, 4, none⟩ (.bool true)).cell? ⟨b, 4, none⟩ = some (.bool true) := h3.cell 4
  clear hh h2 h3
  unfold ptr
  simp only
  by_cases h1 : i < 0
  · rw [if_neg (by omega), if_neg (by omega)]
    clear k0 k2 k3 k4 k5 f2 f3 f4 HA1
    go_enter Tryz.func62, Tryz.ntmps62
    go_wp2_with fail
    go_ret
    exact ⟨rfl, HR.out⟩
  have q0 : decide (i < 0) = false := decide_eq_false h1
  obtain ⟨k, rfl⟩ := Int.eq_ofNat_of_zero_le (show 0 ≤ i by omega)
  clear h1
  by_cases hin : k < ls.length
  · rw [if_pos ⟨by omega, by omega⟩, if_pos ⟨by omega, by omega⟩]
    have q1 : decide ((ls.length : Int) ≤ (k : Int)) = false := decide_eq_false (by omega)
    have q1b : (k : Int) < (ls.length : Int) := by omega
    have q1c : ¬ (ls.length ≤ k) := by omega
    unfold callD
    have HA2 := hid (HA1.out.then fun S' h' => AfterD.turn (W' := ⟨ls, cl + 1, lf, true⟩) h' 4 (.bool true) rfl fun _ _ => rfl)
    simp only
    generalize ls.length = nn at *
    clear hin
    cases lf with
    | none =>
      have k3' : (w.setCell ⟨b, 2, none⟩ (.int .i64 ((cl + 1 : Nat) : Int))).cell? ⟨b, 3, none⟩ = some (.int .i64 (-1)) := k3
      clear k3 HA2 hl
      generalize cl + 1 = cc at *
      cases dk with
      | true =>
        simp only [if_true]
        go_enter Tryz.func62, Tryz.ntmps62
        go_wp2_with fail
        go_ret
        exact ⟨rfl, HA1.out⟩
      | false =>
        simp only [Bool.false_eq_true, if_false]
        go_enter Tryz.func62, Tryz.ntmps62
        go_wp2_with fail
        go_ret
        exact ⟨rfl, HA1.out⟩
    | some m =>
      have k3' : (w.setCell ⟨b, 2, none⟩ (.int .i64 ((cl + 1 : Nat) : Int))).cell? ⟨b, 3, none⟩ = some (.int .i64 (m : Int)) := k3
      have hm := hl m rfl
      clear k3 hl
      cases m with
      | zero =>
        generalize cl + 1 = cc at *
        go_enter Tryz.func62, Tryz.ntmps62
        go_wp2_with fail
        go_ret
        exact ⟨rfl, HA2.out⟩
      | succ n =>
        have q2 : (((n + 1 : Nat) : Int) == 0) = false := beq_eq_false_iff_ne.2 (by omega)
        have q3 : (0 : Int) < ((n + 1 : Nat) : Int) := by omega
        have hw : IntKind.i64.wrap (((n + 1 : Nat) : Int) - 1) = (n : Int) := by rw [wrap_i64_of (by omega) (by omega)]; omega
        have HA3 := hid (HA1.out.then fun S' h' => AfterD.turn (W' := ⟨ls, cl + 1, some n, dk⟩) h' 3 (.int .i64 (n : Int)) rfl fun _ _ => rfl)
        clear HA2
        generalize cl + 1 = cc at *
        generalize ((n + 1 : Nat) : Int) = zz at *
        cases dk with
        | true =>
          simp only [if_true]
          clear HA3 hw
          go_enter Tryz.func62, Tryz.ntmps62
          go_wp2_with fail
          go_ret
          exact ⟨rfl, HA1.out⟩
        | false =>
          simp only [Bool.false_eq_true, if_false]
          go_enter Tryz.func62, Tryz.ntmps62
          go_wp2_with fail
          go_ret
          exact ⟨rfl, HA3.out⟩
  · rw [if_neg (by omega), if_neg (by omega)]
    have q1 : (ls.length : Int) ≤ (k : Int) := by omega
    clear hin HA1 k2 k3 k4 k5 f2 f3 f4
    generalize ls.length = nn at *
    go_enter Tryz.func62, Tryz.ntmps62
    go_wp2_with fail
    go_ret
    exact ⟨rfl, HR.out⟩
end Go.Proofs.YtgdiaflikfdnaaaGreat
/- The document's world: Put, Del, Sync, Get, List. -/
namespace Go.Proofs.YtgdiaflikfdnaaaGreat
open Go.RowKit Go.Maps
variable {w w' w1 w2 : World} {S : Nat → Prop} {b g u : Nat} {W W' : Rd}
def eD (W : Rd) (i : Int) : Int := if 0 ≤ i ∧ i < (W.l.length : Int) then (callD W).1 else 1
def wD (W : Rd) (i : Int) : Rd := if 0 ≤ i ∧ i < (W.l.length : Int) then (callD W).2 else W
def askD (W : Rd) (i : Int) (f : Rf → Int × Rf) : Int × Rd := if eD W i = 0 then (match (wD W i).l[i.toNat]? with
  | some x => ((f x.rf).1, { wD W i with l := (wD W i).l.set i.toNat { x with rf := (f x.rf).2 } })
  | none => (0, wD W i)) else (eD W i, wD W i)
theorem wD_l (W : Rd) (i : Int) : (wD W i).l = W.l := by
  unfold wD
  split
  · exact callD_l W
  · rfl
theorem eD_in {W : Rd} {i : Int} (h : eD W i = 0) : 0 ≤ i ∧ i < (W.l.length : Int) := by
  unfold eD at h
  split at h
  · assumption
  · cases h
theorem eD_at {W : Rd} {i : Int} (h : eD W i = 0) : ∃ x, (wD W i).l[i.toNat]? = some x ∧ x ∈ W.l := by
  have hin := eD_in h
  obtain ⟨x, hx⟩ : ∃ x, (wD W i).l[i.toNat]? = some x := ⟨_, List.getElem?_eq_getElem (by rw [wD_l]; omega)⟩
  refine ⟨x, hx, ?_⟩
  rw [wD_l] at hx
  exact List.mem_of_getElem? hx
theorem dcall (h : IsRd w S b g u W) (hc : W.calls ≤ 1000000) (hl : ∀ n, W.left = some n → n < 9223372036854775808) (i : Int) : Calls Tryz.prog 62 #[.pointer (some ⟨b, 0, none⟩), .int .i64 i] w fun e w' => e = .returned (.int .i64 (eD W i)) ∧ AfterD w w' S b g u (wD W i) := call62_any h hc hl i
section
variable {ev : Operand → Value} {o : Oper} {w : World} {x y : Operand}
theorem rn_f70_0 {g k : Nat} (ho : o.op = .fieldAddr 70 x 0) (hx : ev x = .pointer (some ⟨g, k, none⟩)) : (execOp ev o).run Tryz.prog w = .ok (.value (.pointer (some ⟨g, k, none⟩))) w := by
  simp [execOp, ho, hx, go_sem]
theorem rn_load68 {g k : Nat} {v : Value} (ho : o.op = .load 68 x) (hx : ev x = .pointer (some ⟨g, k, none⟩)) (hc : w.cell? ⟨g, k, none⟩ = some v) : (execOp ev o).run Tryz.prog w = .ok (.value v) w := by
  simp [execOp, ho, hx, go_sem, hc]
theorem rn_load71 {g k : Nat} {v : Value} (ho : o.op = .load 71 x) (hx : ev x = .pointer (some ⟨g, k, none⟩)) (hc : w.cell? ⟨g, k, none⟩ = some v) : (execOp ev o).run Tryz.prog w = .ok (.value v) w := by
  simp [execOp, ho, hx, go_sem, hc]
theorem rn_ix68 {g n c i : Nat} (ho : o.op = .indexAddr 68 x y) (hx : ev x = .slice (some ⟨g, 0, none⟩) n c) (hy : ev y = .int .i64 (i : Int)) (hi : i < n) : (execOp ev o).run Tryz.prog w = .ok (.value (.pointer (some ⟨g, i, none⟩))) w := by
  have q1 : (i : Int) < (n : Int) := by omega
  simp [execOp, ho, hx, hy, go_sem, q1]
end
def dpF (b g cap nn k blk _B : Nat) (n d : ByteArray) (i : Nat) (v : Value) (_ : World) : Prop := match i with
  | 14 => v = .pointer (some ⟨b, 0, none⟩) | 15 => v = .pointer (some ⟨b, 0, none⟩) | 16 => v = .pointer (some ⟨b, 0, none⟩)
  | 17 => v = .slice (some ⟨g, 0, none⟩) nn cap | 18 => v = .int .i64 (k : Int) | 19 => v = .pointer (some ⟨g, k, none⟩) | 20 => v = .pointer (some ⟨blk, 0, none⟩) | 21 => v = .agg #[.string n, .string d]
  | _ => True
set_option maxHeartbeats 2000000 in
set_option maxRecDepth 20000 in
theorem dput_any (h : IsRd w S b g u W) (hc : W.calls ≤ 1000000) (hl : ∀ n, W.left = some n → n < 9223372036854775808) (hR : ∀ x ∈ W.l, x.rf.good.length + x.rf.writes.length ≤ 1000000 ∧ (∀ p ∈ seenR x.rf, p.2.size ≤ 65536) ∧ ∀ k, x.rf.ahead = some k → k < 9223372036854775808) (i : Int) (n d : ByteArray) : Calls Tryz.prog 31 #[ptr b, .int .i64 i, obv n d] w fun e w' => e = .returned (er (askD W i (fun r => putR r n d)).1) ∧ AfterD w w' S b g u (askD W i (fun r => putR r n d)).2 := by
  have HB := hid (boxed w (.cells #[.string n, .string d] 35))
  have HX := hid (Has.new w w.heap.size #[.string n, .string d] 35 rfl)
  have HNS : Hid (¬ S w.heap.size) := hid fun hS => by have := h.bound _ hS; omega
  obtain ⟨wa, hwa⟩ : ∃ wa, wa = w.alloc (.cells #[.string n, .string d] 35) := ⟨_, rfl⟩
  rw [← hwa] at HB HX
  have HC := dcall (h.below HB.out) hc hl i
  unfold er obv
  unfold askD
  by_cases hz : eD W i = 0
  · rw [hz] at HC
    have hin := eD_in hz
    obtain ⟨x, hx, hxm⟩ := eD_at hz
    obtain ⟨k, rfl⟩ := Int.eq_ofNat_of_zero_le hin.1
    rw [Int.toNat_natCast] at *
    have q1 : (k : Int) < (W.l.length : Int) := hin.2
    rw [if_pos hz, hx]
    simp only
    have HWL := hid (show (wD W (k : Int)).l.length = W.l.length from by rw [wD_l])
    have HX2 := hid hx
    clear hin hx h hc hl hz
    unfold ptr at *
    go_enter Tryz.func31, Tryz.ntmps31
    go_wp2_with fail
    rw [← hwa]
    refine HC.mono ?_
    clear HC hwa
    rintro z w1 ⟨rfl, ha⟩
    have HA := hid ha
    obtain ⟨S1, i1, s1, o1⟩ := ha
    obtain ⟨cap, cup, ⟨c0, _, _, _, _⟩, _, _, _⟩ := i1.cells
    rw [HWL.out] at c0
    obtain ⟨k0, _, _⟩ := i1.kept HX2.out
    obtain ⟨T, t1, _, t3⟩ := i1.call HX2.out
    have hob : Has w1 w.heap.size #[.string n, .string d] 35 := HA.out.has HX.out HNS.out
    have o0 : w1.cell? ⟨w.heap.size, 0, none⟩ = some (.string n) := hob.cell 0
    have o1 : w1.cell? ⟨w.heap.size, 1, none⟩ = some (.string d) := hob.cell 1
    have q1n : k < W.l.length := by omega
    have t1d : IsRf w1.drew T x.blk x.rf := t1
    have HST := refPutS_any t1d (hR x hxm).1 (hR x hxm).2.1 (hR x hxm).2.2 n d
    unfold ptr obv er at HST
    clear hob hR hxm t1d
    unfold ptr at k0
    clear i1 t1
    generalize W.l.length = nn at *
    go_wp2_with fail
    refine Tl.wp_mix_lit (by kernel_rfl) 8 [14, 15, 16, 17, 18, 19, 20, 21] 23 rfl (by kernel_rfl) (AtW w1.drew) (dpF b g cap nn k x.blk w.heap.size n d) rfl
      ⟨fun a' W' hC hF => ?_, fun a' W' hC hF => ?_, fun a' W' hC hF => ?_, fun a' W' hC hF => ?_, fun a' W' hC hF => ?_, fun a' W' hC hF => ?_, fun a' W' hC hF => ?_, fun a' W' hC hF => ?_, trivial⟩ ?_
    · exact Tl.sm_v 14 _ rfl (Tl.wanted_none rfl) hC rfl (rn_move rfl ((hF 0 (by decide +kernel)).2 (by decide)))
    · exact Tl.sm_v 15 _ rfl (Tl.wanted_none rfl) hC rfl (rn_nilCheck rfl ((hF 14 (by decide +kernel)).1 (by decide)))
    · exact Tl.sm_v 16 _ rfl (Tl.wanted_none rfl) hC rfl (rn_f70_0 rfl ((hF 15 (by decide +kernel)).1 (by decide)))
    · exact Tl.sm_v 17 _ rfl (Tl.wanted_none rfl) hC rfl (rn_load68 rfl ((hF 16 (by decide +kernel)).1 (by decide)) (by rw [show W' = _ from hC]; exact c0))
    · exact Tl.sm_v 18 _ rfl (Tl.wanted_none rfl) hC rfl (rn_move rfl ((hF 1 (by decide +kernel)).2 (by decide)))
    · exact Tl.sm_v 19 _ rfl (Tl.wanted_none rfl) hC rfl (rn_ix68 rfl ((hF 17 (by decide +kernel)).1 (by decide)) ((hF 18 (by decide +kernel)).1 (by decide)) q1n)
    · exact Tl.sm_v 20 _ rfl (Tl.wanted_none rfl) hC rfl (rn_load71 rfl ((hF 19 (by decide +kernel)).1 (by decide)) (by rw [show W' = _ from hC]; exact k0))
    · exact Tl.sm_v 21 _ rfl (Tl.wanted_none rfl) hC rfl (rn_load28 rfl ((hF 5 (by decide +kernel)).2 (by decide)) (by rw [show W' = _ from hC]; exact o0) (by rw [show W' = _ from hC]; exact o1))
    intro v wB hw hv
    obtain rfl : wB = _ := hw
    have v20 : v 20 = .pointer (some ⟨x.blk, 0, none⟩) := hv 20 (by decide)
    have v21 : v 21 = .agg #[.string n, .string d] := hv 21 (by decide)
    clear hv o0 o1
    simp only [Tl.fill, List.drop_succ_cons, List.drop_zero]
    simp only [Act.put, List.setIfInBounds_toArray, List.set_cons_succ, List.set_cons_zero, v20, v21]
    clear v20 v21
    go_wp2_with fail
    refine HST.mono ?_
    clear HST
    rintro z w3 ⟨rfl, hs⟩
    have HF := hid (AfterD.front HB.out (AfterD.trans s1 o1 (t3 _ _ (AfterR.front (Below.refl _ _).drew hs))))
    clear hs s1 o1 t3 HA
    go_wp2_with fail
    go_ret
    exact ⟨rfl, HF.out⟩
  · have q0 : (eD W i != 0) = true := bne_iff_ne.2 hz
    rw [if_neg hz]
    clear h hc hl hz
    unfold ptr at *
    generalize eD W i = z0 at *
    go_enter Tryz.func31, Tryz.ntmps31
    go_wp2_with fail
    rw [← hwa]
    refine HC.mono ?_
    clear HC hwa
    rintro z w1 ⟨rfl, ha⟩
    have HA := hid (AfterD.front HB.out ha)
    clear ha
    go_wp2_with fail
    go_ret
    exact ⟨rfl, HA.out⟩
set_option maxHeartbeats 2000000 in
set_option maxRecDepth 20000 in
theorem ddel_any (h : IsRd w S b g u W) (hc : W.calls ≤ 1000000) (hl : ∀ n, W.left = some n → n < 9223372036854775808) (hR : ∀ x ∈ W.l, x.rf.good.length + x.rf.writes.length ≤ 1000000 ∧ (∀ p ∈ seenR x.rf, p.2.size ≤ 65536) ∧ ∀ k, x.rf.ahead = some k → k < 9223372036854775808) (i : Int) (n : ByteArray) : Calls Tryz.prog 34 #[ptr b, .int .i64 i, .string n] w fun e w' => e = .returned (er (askD W i (fun r => delR r n)).1) ∧ AfterD w w' S b g u (askD W i (fun r => delR r n)).2 := by
  have HB := hid (Below.refl w.heap.size w)
  have HC := dcall h hc hl i
  unfold er
  unfold askD
  by_cases hz : eD W i = 0
  · rw [hz] at HC
    have hin := eD_in hz
    obtain ⟨x, hx, hxm⟩ := eD_at hz
    obtain ⟨k, rfl⟩ := Int.eq_ofNat_of_zero_le hin.1
    rw [Int.toNat_natCast] at *
    have q1 : (k : Int) < (W.l.length : Int) := hin.2
    rw [if_pos hz, hx]
    simp only
    have HWL := hid (show (wD W (k : Int)).l.length = W.l.length from by rw [wD_l])
    have HX2 := hid hx
    clear hin hx h hc hl hz
    unfold ptr at *
    go_enter Tryz.func34, Tryz.ntmps34
    go_wp2_with fail

    refine HC.mono ?_
    clear HC
    rintro z w1 ⟨rfl, ha⟩
    have HA := hid ha
    obtain ⟨S1, i1, s1, o1⟩ := ha
    obtain ⟨cap, cup, ⟨c0, _, _, _, _⟩, _, _, _⟩ := i1.cells
    rw [HWL.out] at c0
    obtain ⟨k0, _, _⟩ := i1.kept HX2.out
    obtain ⟨T, t1, _, t3⟩ := i1.call HX2.out
    have HST := refDel_any t1 (hR x hxm).1 (hR x hxm).2.2 n
    unfold ptr er at HST
    clear hR hxm
    unfold ptr at k0
    clear i1 t1
    generalize W.l.length = nn at *
    go_wp2_with fail

    refine HST.mono ?_
    clear HST
    rintro z w3 ⟨rfl, hs⟩
    have HF := hid (AfterD.front HB.out (AfterD.trans s1 o1 (t3 _ _ hs)))
    clear hs s1 o1 t3 HA
    go_wp2_with fail
    go_ret
    exact ⟨rfl, HF.out⟩
  · have q0 : (eD W i != 0) = true := bne_iff_ne.2 hz
    rw [if_neg hz]
    clear h hc hl hz
    unfold ptr at *
    generalize eD W i = z0 at *
    go_enter Tryz.func34, Tryz.ntmps34
    go_wp2_with fail

    refine HC.mono ?_
    clear HC
    rintro z w1 ⟨rfl, ha⟩
    have HA := hid (AfterD.front HB.out ha)
    clear ha
    go_wp2_with fail
    go_ret
    exact ⟨rfl, HA.out⟩
set_option maxHeartbeats 2000000 in
set_option maxRecDepth 20000 in
theorem dsync_any (h : IsRd w S b g u W) (hc : W.calls ≤ 1000000) (hl : ∀ n, W.left = some n → n < 9223372036854775808) (hR : ∀ x ∈ W.l, x.rf.good.length + x.rf.writes.length ≤ 1000000 ∧ (∀ p ∈ seenR x.rf, p.2.size ≤ 65536) ∧ ∀ k, x.rf.ahead = some k → k < 9223372036854775808) (i : Int) : Calls Tryz.prog 38 #[ptr b, .int .i64 i] w fun e w' => e = .returned (er (askD W i syncR).1) ∧ AfterD w w' S b g u (askD W i syncR).2 := by
  have HB := hid (Below.refl w.heap.size w)
  have HC := dcall h hc hl i
  unfold er
  unfold askD
  by_cases hz : eD W i = 0
  · rw [hz] at HC
    have hin := eD_in hz
    obtain ⟨x, hx, hxm⟩ := eD_at hz
    obtain ⟨k, rfl⟩ := Int.eq_ofNat_of_zero_le hin.1
    rw [Int.toNat_natCast] at *
    have q1 : (k : Int) < (W.l.length : Int) := hin.2
    rw [if_pos hz, hx]
    simp only
    have HWL := hid (show (wD W (k : Int)).l.length = W.l.length from by rw [wD_l])
    have HX2 := hid hx
    clear hin hx h hc hl hz
    unfold ptr at *
    go_enter Tryz.func38, Tryz.ntmps38
    go_wp2_with fail

    refine HC.mono ?_
    clear HC
    rintro z w1 ⟨rfl, ha⟩
    have HA := hid ha
    obtain ⟨S1, i1, s1, o1⟩ := ha
    obtain ⟨cap, cup, ⟨c0, _, _, _, _⟩, _, _, _⟩ := i1.cells
    rw [HWL.out] at c0
    obtain ⟨k0, _, _⟩ := i1.kept HX2.out
    obtain ⟨T, t1, _, t3⟩ := i1.call HX2.out
    have HST := refSync_any t1 (hR x hxm).1
    unfold ptr at HST
    clear hR hxm
    unfold ptr at k0
    clear i1 t1
    generalize W.l.length = nn at *
    go_wp2_with fail

    refine HST.mono ?_
    clear HST
    rintro z w3 ⟨rfl, hs⟩
    have HF := hid (AfterD.front HB.out (AfterD.trans s1 o1 (t3 _ _ hs)))
    clear hs s1 o1 t3 HA
    go_wp2_with fail
    go_ret
    exact ⟨rfl, HF.out⟩
  · have q0 : (eD W i != 0) = true := bne_iff_ne.2 hz
    rw [if_neg hz]
    clear h hc hl hz
    unfold ptr at *
    generalize eD W i = z0 at *
    go_enter Tryz.func38, Tryz.ntmps38
    go_wp2_with fail

    refine HC.mono ?_
    clear HC
    rintro z w1 ⟨rfl, ha⟩
    have HA := hid (AfterD.front HB.out ha)
    clear ha
    go_wp2_with fail
    go_ret
    exact ⟨rfl, HA.out⟩
def getD' (W : Rd) (i : Int) (n : ByteArray) : ByteArray × Int := if eD W i = 0 then (match (wD W i).l[i.toNat]? with
  | some x => getR x.rf n
  | none => (⟨#[]⟩, 0)) else (⟨#[]⟩, eD W i)
set_option maxHeartbeats 2000000 in
set_option maxRecDepth 20000 in
theorem dget_any (h : IsRd w S b g u W) (hc : W.calls ≤ 1000000) (hl : ∀ n, W.left = some n → n < 9223372036854775808) (hR : ∀ x ∈ W.l, x.rf.good.length + x.rf.writes.length ≤ 1000000 ∧ (∀ p ∈ seenR x.rf, p.2.size ≤ 65536) ∧ ∀ k, x.rf.ahead = some k → k < 9223372036854775808) (i : Int) (n : ByteArray) : Calls Tryz.prog 32 #[ptr b, .int .i64 i, .string n] w fun e w' => e = .returned (.tuple #[.string (getD' W i n).1, er (getD' W i n).2]) ∧ AfterD w w' S b g u (wD W i) := by
  have HB := hid (Below.refl w.heap.size w)
  have HC := dcall h hc hl i
  unfold er
  unfold getD'
  by_cases hz : eD W i = 0
  · rw [hz] at HC
    have hin := eD_in hz
    obtain ⟨x, hx, hxm⟩ := eD_at hz
    obtain ⟨k, rfl⟩ := Int.eq_ofNat_of_zero_le hin.1
    rw [Int.toNat_natCast] at *
    have q1 : (k : Int) < (W.l.length : Int) := hin.2
    rw [if_pos hz, hx]
    simp only
    have HWL := hid (show (wD W (k : Int)).l.length = W.l.length from by rw [wD_l])
    have HX2 := hid hx
    clear hin hx h hc hl hz
    unfold ptr at *
    go_enter Tryz.func32, Tryz.ntmps32
    go_wp2_with fail

    refine HC.mono ?_
    clear HC
    rintro z w1 ⟨rfl, ha⟩
    have HA := hid ha
    obtain ⟨S1, i1, s1, o1⟩ := ha
    obtain ⟨cap, cup, ⟨c0, _, _, _, _⟩, _, _, _⟩ := i1.cells
    rw [HWL.out] at c0
    obtain ⟨k0, _, _⟩ := i1.kept HX2.out
    obtain ⟨T, t1, _, t3⟩ := i1.call HX2.out
    have HST := refGet_any t1 (hR x hxm).1 n
    unfold ptr at HST
    clear hR hxm
    unfold ptr at k0
    clear i1 t1
    generalize W.l.length = nn at *
    go_wp2_with fail

    refine HST.mono ?_
    clear HST
    rintro z w3 ⟨rfl, hs⟩
    have HF := hid (AfterD.front HB.out (AfterD.next HA.out hs))
    clear hs s1 o1 t3 HA
    go_wp2_with fail
    go_ret2
    exact ⟨rfl, HF.out⟩
  · have q0 : (eD W i != 0) = true := bne_iff_ne.2 hz
    rw [if_neg hz]
    clear h hc hl hz
    unfold ptr at *
    generalize eD W i = z0 at *
    go_enter Tryz.func32, Tryz.ntmps32
    go_wp2_with fail

    refine HC.mono ?_
    clear HC
    rintro z w1 ⟨rfl, ha⟩
    have HA := hid (AfterD.front HB.out ha)
    clear ha
    go_wp2_with fail
    go_ret2
    exact ⟨rfl, HA.out⟩
def listD (W : Rd) (i : Int) : List Ob × Int := if eD W i = 0 then (match (wD W i).l[i.toNat]? with
  | some x => if x.rf.down then ([], 51) else (seenR x.rf, 0)
  | none => ([], 0)) else ([], eD W i)
set_option maxHeartbeats 2000000 in
set_option maxRecDepth 20000 in
theorem dlist_any (h : IsRd w S b g u W) (hc : W.calls ≤ 1000000) (hl : ∀ n, W.left = some n → n < 9223372036854775808) (hR : ∀ x ∈ W.l, x.rf.good.length + x.rf.writes.length ≤ 1000000 ∧ (∀ p ∈ seenR x.rf, p.2.size ≤ 65536) ∧ ∀ k, x.rf.ahead = some k → k < 9223372036854775808) (i : Int) : Calls Tryz.prog 36 #[ptr b, .int .i64 i] w fun e w' => ∃ v, e = .returned (.tuple #[v, er (listD W i).2]) ∧ w'.ownsRow w.heap.size 9 1 v (listD W i).1.length (nameCells (listD W i).1) ∧ AfterD w w' S b g u (wD W i) := by
  have HB := hid (Below.refl w.heap.size w)
  have HC := dcall h hc hl i
  unfold er
  unfold listD
  by_cases hz : eD W i = 0
  · rw [hz] at HC
    have hin := eD_in hz
    obtain ⟨x, hx, hxm⟩ := eD_at hz
    obtain ⟨k, rfl⟩ := Int.eq_ofNat_of_zero_le hin.1
    rw [Int.toNat_natCast] at *
    have q1 : (k : Int) < (W.l.length : Int) := hin.2
    rw [if_pos hz, hx]
    simp only
    have HLL := hid (show ∀ (w1 w3 : World) (v : Value), w1.heap.size ≥ w.heap.size → w3.ownsRow w1.heap.size 9 1 v (if x.rf.down then [] else seenR x.rf).length (nameCells (if x.rf.down then [] else seenR x.rf)) → w3.ownsRow w.heap.size 9 1 v (if x.rf.down then (([], 51) : List Ob × Int) else (seenR x.rf, 0)).1.length (nameCells (if x.rf.down then (([], 51) : List Ob × Int) else (seenR x.rf, 0)).1) from fun w1 w3 v hs hr => by
      have := row_base hr hs
      cases hd : x.rf.down <;> (rw [hd] at this; exact this))
    have HZZ := hid (show (if x.rf.down then (51 : Int) else 0) = (if x.rf.down then (([], 51) : List Ob × Int) else (seenR x.rf, 0)).2 from by cases x.rf.down <;> rfl)
    generalize (if x.rf.down then (([], 51) : List Ob × Int) else (seenR x.rf, 0)) = PL at *
    have HWL := hid (show (wD W (k : Int)).l.length = W.l.length from by rw [wD_l])
    have HX2 := hid hx
    clear hin hx h hc hl hz
    unfold ptr at *
    go_enter Tryz.func36, Tryz.ntmps36
    go_wp2_with fail

    refine HC.mono ?_
    clear HC
    rintro z w1 ⟨rfl, ha⟩
    have HA := hid ha
    obtain ⟨S1, i1, s1, o1⟩ := ha
    obtain ⟨cap, cup, ⟨c0, _, _, _, _⟩, _, _, _⟩ := i1.cells
    rw [HWL.out] at c0
    obtain ⟨k0, _, _⟩ := i1.kept HX2.out
    obtain ⟨T, t1, _, t3⟩ := i1.call HX2.out
    have HST := refList_any t1 (hR x hxm).1
    unfold ptr er at HST
    clear hR hxm
    unfold ptr at k0
    clear i1 t1
    generalize W.l.length = nn at *
    go_wp2_with fail

    refine HST.mono ?_
    clear HST
    rintro z w3 ⟨v, rfl, hr, hs⟩
    have HF := hid (AfterD.front HB.out (AfterD.next HA.out hs))
    have HRR := hid (HLL.out w1 w3 v o1.size hr)
    clear hs hr s1 o1 t3 HA HLL
    have HZ2 := HZZ.out
    generalize (if x.rf.down then (51 : Int) else 0) = z0 at *
    go_wp2_with fail
    go_ret2
    exact ⟨v, by rw [← HZ2]; rfl, HRR.out, HF.out⟩
  · have q0 : (eD W i != 0) = true := bne_iff_ne.2 hz
    rw [if_neg hz]
    clear h hc hl hz
    unfold ptr at *
    generalize eD W i = z0 at *
    go_enter Tryz.func36, Tryz.ntmps36
    go_wp2_with fail

    refine HC.mono ?_
    clear HC
    rintro z w1 ⟨rfl, ha⟩
    have HA := hid (AfterD.front HB.out ha)
    clear ha
    go_wp2_with fail
    go_ret2
    exact ⟨_, rfl, World.ownsRow_nil _ _ _ _, HA.out⟩
end Go.Proofs.YtgdiaflikfdnaaaGreat
/- The document's world: Crash, Clear, Suspects, Strike. -/
namespace Go.Proofs.YtgdiaflikfdnaaaGreat
open Go.RowKit Go.Maps
variable {w w' w1 w2 : World} {S : Nat → Prop} {b g u : Nat} {W W' : Rd}
/-- the first k of them are turned -/
def preG (f : Nat → Kr → Kr) (l : List Kr) (k : Nat) : List Kr := l.mapIdx fun i x => if i < k then f i x else x
theorem preG_get {f : Nat → Kr → Kr} {l : List Kr} {k : Nat} {x : Kr} (h : l[k]? = some x) : (preG f l k)[k]? = some x := by
  unfold preG
  rw [List.getElem?_mapIdx, h]
  simp
theorem preG_len (f : Nat → Kr → Kr) (l : List Kr) (k : Nat) : (preG f l k).length = l.length := by unfold preG; simp
theorem preG_zero (f : Nat → Kr → Kr) (l : List Kr) : preG f l 0 = l := by
  apply List.ext_getElem?
  intro i
  unfold preG
  rw [List.getElem?_mapIdx]
  cases l[i]? <;> simp
theorem preG_succ {f : Nat → Kr → Kr} {l : List Kr} {k : Nat} {x : Kr} (h : l[k]? = some x) : preG f l (k + 1) = (preG f l k).set k (f k x) := by
  have hl : k < l.length := (List.getElem?_eq_some_iff.1 h).1
  apply List.ext_getElem?
  intro i
  by_cases e : i = k
  · subst e
    rw [List.getElem?_set_self (by rw [preG_len]; exact hl)]
    unfold preG
    rw [List.getElem?_mapIdx, h]
    simp
  · rw [List.getElem?_set_ne (Ne.symm e)]
    unfold preG
    rw [List.getElem?_mapIdx, List.getElem?_mapIdx]
    cases l[i]? with
    | none => rfl
    | some y =>
      simp only [Option.map_some, Option.some.injEq]
      by_cases h1 : i < k
      · rw [if_pos h1, if_pos (by omega)]
      · rw [if_neg h1, if_neg (by omega)]
theorem preG_all (f : Nat → Kr → Kr) (l : List Kr) : preG f l l.length = l.mapIdx f := by
  apply List.ext_getElem?
  intro i
  unfold preG
  rw [List.getElem?_mapIdx, List.getElem?_mapIdx]
  cases h : l[i]? with
  | none => rfl
  | some y =>
    have hl : i < l.length := (List.getElem?_eq_some_iff.1 h).1
    simp [hl]
def crashKr (sv : List Sv) (i : Nat) (x : Kr) : Kr := { x with rf := crashR x.rf (keepOf sv i) }
def crashD (W : Rd) (sv : List Sv) : Rd := { W with l := W.l.mapIdx (crashKr sv), left := none, dark := false }
set_option maxHeartbeats 4000000 in
set_option maxRecDepth 20000 in
theorem dcrash_any {w0 : World} (h : IsRd w S b g u W) (hn : W.l.length ≤ 1000) (hR : ∀ x ∈ W.l, x.rf.good.length + x.rf.writes.length ≤ 1000000) (hb0 : Below w0.heap.size w0 w) (hS : ∀ i, S i → w0.heap.size ≤ i) (lv : Value) (sv : List Sv) (hlv : RdS w0 lv sv) (hsl : sv.length ≤ 9223372036854775807) : Calls Tryz.prog 40 #[ptr b, lv] w fun e w' => e = .returned (.tuple #[]) ∧ AfterD w w' S b g u (crashD W sv) := by
  obtain ⟨la, lc, rfl⟩ := hlv.form
  have HLV := hid hlv
  have HH := hid h
  have HB0 := hid hb0
  have HS := hid hS
  have HR := hid hR
  clear h hlv hb0 hS hR
  unfold ptr at *
  generalize hL : W.l.length = L at *
  have HL := hid hL
  clear hL
  go_enter Tryz.func40, Tryz.ntmps40
  go_wp2_with fail
  go_loopg [4] L (fun gk s4 wx => ∃ k : Nat, k + gk = L ∧ s4 = .int .i64 (k : Int) ∧ AfterD w wx S b g u { W with l := preG (crashKr sv) W.l k })
  case atStart => exact ⟨0, by omega, rfl, by rw [preG_zero]; exact AfterD.refl HH.out⟩
  case round =>
    obtain ⟨k, hk, rfl, hA⟩ := hrel
    have HA := hid hA
    obtain ⟨S2, i2, s2, o2⟩ := hA
    obtain ⟨cap', cup', ⟨c0, _, _, _, _⟩, _, _, _⟩ := i2.cells
    have c0' : wr.cell? ⟨b, 0, none⟩ = some (.slice (some ⟨g, 0, none⟩) L cap') := by rw [c0]; simp only; rw [preG_len, HL.out]
    cases gk with
    | zero =>
      have q1 : ¬ ((k : Int) < (L : Int)) := by omega
      have HE := hid (show preG (crashKr sv) W.l k = W.l.mapIdx (crashKr sv) from by rw [show k = W.l.length by rw [HL.out]; omega, preG_all])
      have a1 := AfterD.turn (W' := { W with l := preG (crashKr sv) W.l k, left := none }) i2 3 (.int .i64 (-1)) rfl fun _ _ => rfl
      have a2 := a1.then fun S' h' => AfterD.turn (W' := { W with l := preG (crashKr sv) W.l k, left := none, dark := false }) h' 4 (.bool false) rfl fun _ _ => rfl
      have HA3 := hid (AfterD.trans s2 o2 a2)
      obtain ⟨_, _, F, h1, _⟩ := i2
      have f3 := h1.frozen 3
      have k3 : wr.cell? ⟨b, 3, none⟩ = some (.int .i64 (less1 W.left)) := h1.cell 3
      have h2 := h1.set 3 (.int .i64 (-1))
      have f4 := h2.frozen 4
      have k4 : (wr.setCell ⟨b, 3, none⟩ (.int .i64 (-1))).cell? ⟨b, 4, none⟩ = some (.bool W.dark) := h2.cell 4
      clear h1 h2 a1 a2 s2 o2 HA c0
      go_wp2_with fail
      go_end0
      refine ⟨rfl, ?_⟩
      have := HA3.out
      rw [HE.out] at this
      exact this
    | succ g1 =>
      have q1 : (k : Int) < (L : Int) := by omega
      obtain ⟨x, hx⟩ : ∃ x, W.l[k]? = some x := ⟨_, List.getElem?_eq_getElem (by rw [HL.out]; omega)⟩
      have hx2 := preG_get (f := crashKr sv) hx
      have HT := hid (preG_succ (f := crashKr sv) hx)
      obtain ⟨k0, _, _⟩ := i2.kept hx2
      obtain ⟨T, t1, t2, t3⟩ := i2.call hx2
      have hS2 : ∀ i, S2 i → w0.heap.size ≤ i := fun i hi => (s2 i hi).elim (HS.out i) (fun h => Nat.le_trans HB0.out.size h)
      have hb0r : Below w0.heap.size w0 wr := HB0.out.trans (o2.below HB0.out.size HS.out)
      have HCR := hid (fun (kv : Value) (ks : List Int) (hk : RdI w0 kv ks) (hkl : ks.length ≤ 140737488355328) => refCrash_any t1 (HR.out x (List.mem_of_getElem? hx)) kv ks (hk.below hb0r) (by omega) (fun g' o' n' c' e1 e2 hT => by
        have := RdI.lt hk e1 e2
        have := hS2 g' (t2 g' hT)
        omega))
      have HNX := hid (show ∀ w', AfterR wr w' T x.blk (crashR x.rf (keepOf sv k)) → AfterD w w' S b g u { W with l := preG (crashKr sv) W.l (k + 1) } from fun w' ha => by
        rw [HT.out]
        exact AfterD.trans s2 o2 (t3 _ _ ha))
      unfold ptr at *
      by_cases hks : k < sv.length
      · obtain ⟨y, hy⟩ : ∃ y, sv[k]? = some y := ⟨_, List.getElem?_eq_getElem hks⟩
        have q2 : (k : Int) < (sv.length : Int) := by omega
        have HCC := HCR.out y.kv y.ks (HLV.out.2 y (List.mem_of_getElem? hy)).1 (HLV.out.2 y (List.mem_of_getElem? hy)).2
        have HKE := hid (show keepOf sv k = y.ks from by unfold keepOf; rw [hy]; rfl)
        rw [← HKE.out] at HCC
        rcases HLV.out.1 with ⟨_, _, _, e0⟩ | ⟨gs, os, caps, _, es, hgs, hcs⟩
        · rw [e0] at hks; simp at hks
        cases es
        have l0 : wr.cell? ⟨gs, os + k, none⟩ = some y.kv := by rw [hb0r.cell (p := ⟨gs, os + k, none⟩) hgs]; exact hcs k y hy
        clear hcs hy hx hx2 i2 s2 o2 c0 t1 t2 t3 hS2 hb0r HCR hks
        go_wp2_with fail
        refine HCC.mono ?_
        clear HCC
        rintro z w3 ⟨rfl, ha⟩
        have HA3 := hid (HNX.out _ ha)
        clear ha HNX
        go_wp2_with fail
        go_roundg g1
        case measure => omega
        case rel => exact ⟨k + 1, by omega, by first | rfl | simp, HA3.out⟩
      · have q2 : ¬ ((k : Int) < (sv.length : Int)) := by omega
        have HCC := HCR.out (.slice none 0 0) [] (.inl ⟨_, _, rfl, rfl⟩) (Nat.zero_le _)
        have HKE := hid (show keepOf sv k = [] from by unfold keepOf; rw [List.getElem?_eq_none (by omega)]; rfl)
        rw [← HKE.out] at HCC
        clear hx hx2 i2 s2 o2 c0 t1 t2 t3 hS2 hb0r HCR hks
        go_wp2_with fail
        refine HCC.mono ?_
        clear HCC
        rintro z w3 ⟨rfl, ha⟩
        have HA3 := hid (HNX.out _ ha)
        clear ha HNX
        go_wp2_with fail
        go_roundg g1
        case measure => omega
        case rel => exact ⟨k + 1, by omega, by first | rfl | simp, HA3.out⟩
def soundR (x : Kr) : Bool := !x.rf.down && x.rf.ahead.isNone
def clearKr (_ : Nat) (x : Kr) : Kr := if soundR x then { x with sus := false } else x
def clearD (W : Rd) : Rd := { W with l := W.l.mapIdx clearKr }
set_option maxHeartbeats 2000000 in
set_option maxRecDepth 20000 in
theorem dclear_any (h : IsRd w S b g u W) (hn : W.l.length ≤ 1000) : Calls Tryz.prog 44 #[ptr b] w fun e w' => e = .returned (.tuple #[]) ∧ AfterD w w' S b g u (clearD W) := by
  have HH := hid h
  clear h
  unfold ptr at *
  generalize hL : W.l.length = L at *
  have HL := hid hL
  clear hL
  go_enter Tryz.func44, Tryz.ntmps44
  go_wp2_with fail
  go_loopg [2] L (fun gk s2 wx => ∃ k : Nat, k + gk = L ∧ s2 = .int .i64 (k : Int) ∧ AfterD w wx S b g u { W with l := preG clearKr W.l k })
  case atStart => exact ⟨0, by omega, rfl, by rw [preG_zero]; exact AfterD.refl HH.out⟩
  case round =>
    obtain ⟨k, hk, rfl, hA⟩ := hrel
    have HA := hid hA
    obtain ⟨S2, i2, s2, o2⟩ := hA
    obtain ⟨cap', cup', ⟨c0, c1, _, _, _⟩, _, _, _⟩ := i2.cells
    have c0' : wr.cell? ⟨b, 0, none⟩ = some (.slice (some ⟨g, 0, none⟩) L cap') := by rw [c0]; simp only; rw [preG_len, HL.out]
    have c1' : wr.cell? ⟨b, 1, none⟩ = some (.slice (some ⟨u, 0, none⟩) L cup') := by rw [c1]; simp only; rw [preG_len, HL.out]
    clear c0 c1
    cases gk with
    | zero =>
      have q1 : ¬ ((k : Int) < (L : Int)) := by omega
      have HE := hid (show ({ W with l := preG clearKr W.l k } : Rd) = clearD W from by
        unfold clearD
        rw [show k = W.l.length by rw [HL.out]; omega, preG_all])
      clear i2 s2 o2
      go_wp2_with fail
      go_end0
      refine ⟨rfl, ?_⟩
      have := HA.out
      rwa [HE.out] at this
    | succ g1 =>
      have q1 : (k : Int) < (L : Int) := by omega
      obtain ⟨x, hx⟩ : ∃ x, W.l[k]? = some x := ⟨_, List.getElem?_eq_getElem (by rw [HL.out]; omega)⟩
      have hx2 := preG_get (f := clearKr) hx
      have HT := hid (preG_succ (f := clearKr) hx)
      obtain ⟨k0, k1, kf⟩ := i2.kept hx2
      have f1 := kf k
      obtain ⟨T, t1, _, _⟩ := i2.call hx2
      have HSO := refSound_any t1
      have HSU := hid (AfterD.trans s2 o2 (AfterD.sus i2 hx2 false))
      unfold ptr at *
      cases hso : soundR x with
      | true =>
        have e1 : (!x.rf.down && x.rf.ahead.isNone) = true := hso
        rw [e1] at HSO
        have HT2 := hid (show clearKr k x = { x with sus := false } from by unfold clearKr; rw [hso]; rfl)
        clear e1 hso hx hx2 i2 s2 o2 t1
        go_wp2_with fail
        refine HSO.mono ?_
        rintro z w3 ⟨rfl, rfl⟩
        clear HSO
        go_wp2_with fail
        go_roundg g1
        case measure => omega
        case rel => exact ⟨k + 1, by omega, by first | rfl | simp, by rw [HT.out, HT2.out]; exact HSU.out⟩
      | false =>
        have e1 : (!x.rf.down && x.rf.ahead.isNone) = false := hso
        rw [e1] at HSO
        have HT2 := hid (show (preG clearKr W.l k).set k (clearKr k x) = preG clearKr W.l k from by
          unfold clearKr; rw [hso]
          simp only [Bool.false_eq_true, if_false]
          exact List.set_getElem?_self' hx2)
        clear e1 hso hx hx2 i2 s2 o2 t1 HSU
        go_wp2_with fail
        refine HSO.mono ?_
        rintro z w3 ⟨rfl, rfl⟩
        clear HSO
        go_wp2_with fail
        go_roundg g1
        case measure => omega
        case rel => exact ⟨k + 1, by omega, by first | rfl | simp, by rw [HT.out, HT2.out]; exact HA.out⟩
def susR (l : List Kr) : Nat → List Nat
  | 0 => []
  | k + 1 => susR l k ++ (match l[k]? with | some x => if x.sus then [k] else [] | none => [])
theorem susR_len (l : List Kr) : ∀ k, (susR l k).length ≤ k
  | 0 => Nat.le_refl _
  | k + 1 => by
    have := susR_len l k
    unfold susR
    rw [List.length_append]
    split
    · split <;> simp <;> omega
    · simp; omega
set_option maxHeartbeats 2000000 in
set_option maxRecDepth 20000 in
theorem dsus_any (h : IsRd w S b g u W) (hn : W.l.length ≤ 1000) : Calls Tryz.prog 45 #[ptr b] w fun e w' => ∃ v, e = .returned v ∧ w'.ownsRow w.heap.size 3 1 v (susR W.l W.l.length).length (intCells (susR W.l W.l.length)) ∧ Below w.heap.size w w' := by
  have HH := hid h
  clear h
  unfold ptr at *
  generalize hL : W.l.length = L at *
  have HL := hid hL
  clear hL
  go_enter Tryz.func45, Tryz.ntmps45
  go_wp2_with fail
  go_loopg [3, 4] L (fun gk s3 s4 wx => ∃ k : Nat, k + gk = L ∧ s4 = .int .i64 (k : Int) ∧ wx.ownsRow w.heap.size 3 1 s3 (susR W.l k).length (intCells (susR W.l k)) ∧ Below w.heap.size w wx)
  case atStart => exact ⟨0, by omega, rfl, World.ownsRow_nil _ _ _ _, Below.refl _ _⟩
  case round =>
    obtain ⟨k, hk, rfl, hrow, hbw⟩ := hrel
    have HB := hid hbw
    have HRow := hid hrow
    have hI := HH.out.below hbw
    obtain ⟨cap, cup, ⟨_, c1, _, _, _⟩, _, _, _⟩ := hI.cells
    rw [HL.out] at c1
    cases gk with
    | zero =>
      have q1 : ¬ ((k : Int) < (L : Int)) := by omega
      have hkn : k = L := by omega
      clear hrow hbw hI
      go_wp2_with fail
      go_ret
      have := HRow.out
      rw [hkn] at this
      exact ⟨u3, rfl, this, HB.out⟩
    | succ g1 =>
      have q1 : (k : Int) < (L : Int) := by omega
      obtain ⟨x, hx⟩ : ∃ x, W.l[k]? = some x := ⟨_, List.getElem?_eq_getElem (by rw [HL.out]; omega)⟩
      obtain ⟨_, k1, _⟩ := hI.kept hx
      have hz : w.heap.size ≤ wr.heap.size := hbw.size
      have hsl := susR_len W.l k
      cases hsu : x.sus with
      | true =>
        rw [hsu] at k1
        have HT := hid (show susR W.l (k + 1) = susR W.l k ++ [k] from by show susR W.l k ++ _ = _; rw [hx]; simp only [hsu]; rfl)
        clear hx hI hbw hsu
        have HT1 := hid (show (susR W.l (k + 1)).length = (susR W.l k).length + 1 ∧ intCells (susR W.l (k + 1)) = intCells (susR W.l k) ++ [.int .i64 (k : Int)] from by rw [HT.out]; simp [intCells])
        generalize (susR W.l k).length = D at *
        generalize intCells (susR W.l k) = X at *
        go_wp2_with (at_builtin; refine wpList_app el3 rfl _ _ rfl w.heap.size _ D _ rfl (hrow.alloc _) ⟨wr.heap.size, 0, none⟩ 1 1 [.int .i64 (k : Int)] rfl (by decide) rfl (new_cells wr [.int .i64 (k : Int)] 3) (by simp [Value.oneCell']) (by omega) (by simp; omega) ?_; intro g' cap' w' hr' hgr')
        go_roundg g1
        case measure => omega
        case rel =>
          refine ⟨k + 1, by omega, by first | rfl | simp, ?_, ?_⟩
          · rw [HT1.out.1, HT1.out.2]; exact hr'
          · exact grown_below ((HB.out).alloc hz _) (HRow.out.alloc _) hgr' (Nat.le_refl _) (by simp; omega)
      | false =>
        rw [hsu] at k1
        have HT := hid (show susR W.l (k + 1) = susR W.l k from by show susR W.l k ++ _ = _; rw [hx]; simp only [hsu]; simp)
        clear hx hI hbw hsu hrow
        go_wp2_with fail
        go_roundg g1
        case measure => omega
        case rel => exact ⟨k + 1, by omega, by first | rfl | simp, by rw [HT.out]; exact HRow.out, HB.out⟩
end Go.Proofs.YtgdiaflikfdnaaaGreat
