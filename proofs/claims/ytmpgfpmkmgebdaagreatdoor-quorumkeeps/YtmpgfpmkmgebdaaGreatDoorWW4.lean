/- The program's world: what it is, how it lies in memory; its small calls. -/
import Derived.Test.YtmpgfpmkmgebdaaGreatDoorWTlL
import Derived.Laws.OwnMore
import Derived.Laws.ResultCell
namespace Go.Proofs.YtmpgfpmkmgebdaaGreatDoor.W
open Go.RowKit Go.Maps
/-- a store of a world: its block, what it is, whether it is suspect -/
structure Kp where
  blk : Nat
  st : St
  sus : Bool
structure Wd where
  l : List Kp
  calls : Nat
  dark : Bool
  cut : Bool
  left : Nat
def kcells (x : Kp) : List Value := [ptr x.blk, .bool x.sus]
def wdcells (sv : Value) (W : Wd) : Array Value := #[sv, .int .i64 (W.calls : Int), .bool W.dark, .bool W.cut, .int .i64 (W.left : Int)]
/-- block b is a world; all that is its own lies in S; its stores' list lies in g -/
def IsWd (w : World) (S : Nat → Prop) (b g : Nat) (W : Wd) : Prop := ∃ (cap : Nat) (F : Nat → Nat → Prop), Has w b (wdcells (.slice (some ⟨g, 0, none⟩) W.l.length cap) W) 62 ∧ w.ownsRow 0 66 2 (.slice (some ⟨g, 0, none⟩) W.l.length cap) W.l.length (W.l.flatMap kcells) ∧ (∀ (j : Nat) (x : Kp), W.l[j]? = some x → IsSt w (F j) x.blk x.st ∧ (∀ i, F j i → S i) ∧ ¬ F j b ∧ ¬ F j g) ∧ (∀ j k, j < W.l.length → k < W.l.length → j ≠ k → ∀ i, F j i → ¬ F k i) ∧ S b ∧ S g ∧ (∀ i, S i → i < w.heap.size)
def AfterW (w w' : World) (S : Nat → Prop) (b g : Nat) (W : Wd) : Prop := ∃ S', IsWd w' S' b g W ∧ (∀ i, S' i → S i ∨ w.heap.size ≤ i) ∧ Only S w w'
variable {w w' w1 w2 : World} {S : Nat → Prop} {b g : Nat} {W W' : Wd}
theorem IsWd.only {S' : Nat → Prop} (h : IsWd w S b g W) (ho : Only S' w w') (hn : ∀ i, S i → ¬ S' i) : IsWd w' S b g W := by
  obtain ⟨cap, F, h1, h2, h3, h4, h5, h6, h7⟩ := h
  refine ⟨cap, F, ho.has h1 (hn _ h5), row_block h2 fun k hk hl => ho.block k hl (hn _ (by simp [Value.ownBlock] at hk; subst hk; exact h6)), fun j x hj => ?_, h4, h5, h6, fun i hi => Nat.lt_of_lt_of_le (h7 i hi) ho.size⟩
  obtain ⟨k1, k2, k3⟩ := h3 j x hj
  exact ⟨k1.only ho fun i hi => hn i (k2 i hi), k2, k3⟩
theorem IsWd.below (h : IsWd w S b g W) (hb : Below w.heap.size w w') : IsWd w' S b g W := h.only (S' := fun _ => False) (Only.of_below hb) fun _ _ h => h
theorem IsWd.bound (h : IsWd w S b g W) : ∀ i, S i → i < w.heap.size := by
  obtain ⟨cap, F, h1, h2, h3, h4, h5, h6, h7⟩ := h; exact h7
theorem AfterW.refl (h : IsWd w S b g W) : AfterW w w S b g W := ⟨S, h, fun _ h => .inl h, Only.refl _ _⟩
theorem AfterW.trans {S1 : Nat → Prop} (hs : ∀ i, S1 i → S i ∨ w.heap.size ≤ i) (ho : Only S w w1) (h : AfterW w1 w2 S1 b g W) : AfterW w w2 S b g W := by
  obtain ⟨S', h1, h2, h3⟩ := h
  refine ⟨S', h1, fun i hi => ?_, ho.trans h3 hs⟩
  rcases h2 i hi with h | h
  · exact hs i h
  · exact .inr (Nat.le_trans ho.size h)
theorem AfterW.then (h : AfterW w w1 S b g W) (k : ∀ S', IsWd w1 S' b g W → AfterW w1 w2 S' b g W') : AfterW w w2 S b g W' := by
  obtain ⟨S', h1, h2, h3⟩ := h
  exact AfterW.trans h2 h3 (k S' h1)
theorem AfterW.front (hb : Below w.heap.size w w1) (h : AfterW w1 w2 S b g W) : AfterW w w2 S b g W := AfterW.trans (fun _ h => .inl h) (Only.of_below hb) h
theorem AfterW.next (h : AfterW w w1 S b g W) (hb : Below w1.heap.size w1 w2) : AfterW w w2 S b g W := h.then fun S' h' => ⟨S', h'.below hb, fun _ h => .inl h, Only.of_below hb⟩
theorem AfterW.has (h : AfterW w w1 S b g W) {B : Nat} {cs : Array Value} {t : TypeId} (hh : Has w B cs t) (hn : ¬ S B) : Has w1 B cs t := by
  obtain ⟨_, _, _, h3⟩ := h
  exact h3.has hh hn
theorem IsWd.cells (h : IsWd w S b g W) : ∃ cap, (w.cell? ⟨b, 0, none⟩ = some (.slice (some ⟨g, 0, none⟩) W.l.length cap) ∧ w.cell? ⟨b, 1, none⟩ = some (.int .i64 (W.calls : Int)) ∧ w.cell? ⟨b, 2, none⟩ = some (.bool W.dark) ∧ w.cell? ⟨b, 3, none⟩ = some (.bool W.cut) ∧ w.cell? ⟨b, 4, none⟩ = some (.int .i64 (W.left : Int))) ∧ (∀ i, w.frozen? ⟨b, i, none⟩ = false) ∧ w.ownsRow 0 66 2 (.slice (some ⟨g, 0, none⟩) W.l.length cap) W.l.length (W.l.flatMap kcells) := by
  obtain ⟨cap, F, h1, h2, _⟩ := h
  exact ⟨cap, ⟨h1.cell 0, h1.cell 1, h1.cell 2, h1.cell 3, h1.cell 4⟩, fun i => h1.frozen i, h2⟩
theorem kflat_get : ∀ (l : List Kp) (k : Nat) (q : Kp), l[k]? = some q → (l.flatMap kcells)[k * 2]? = some (ptr q.blk) ∧ (l.flatMap kcells)[k * 2 + 1]? = some (.bool q.sus)
  | [], k, q, h => by simp at h
  | p :: r, 0, q, h => by
    simp at h; subst h
    exact ⟨rfl, rfl⟩
  | p :: r, k + 1, q, h => by
    have hr := kflat_get r k q (by simpa using h)
    have hl : (kcells p).length = 2 := rfl
    rw [List.flatMap_cons]
    rw [List.getElem?_append_right (by omega), List.getElem?_append_right (by omega), hl, show (k + 1) * 2 - 2 = k * 2 by omega, show (k + 1) * 2 + 1 - 2 = k * 2 + 1 by omega]
    exact hr
/-- the two cells of a store's place -/
theorem IsWd.kept (h : IsWd w S b g W) {j : Nat} {x : Kp} (hj : W.l[j]? = some x) : w.cell? ⟨g, j * 2, none⟩ = some (ptr x.blk) ∧ w.cell? ⟨g, j * 2 + 1, none⟩ = some (.bool x.sus) ∧ (∀ i, w.frozen? ⟨g, i, none⟩ = false) := by
  obtain ⟨cap, F, h1, h2, _⟩ := h
  have hl : j < W.l.length := (List.getElem?_eq_some_iff.1 hj).1
  obtain ⟨e1, e2⟩ := kflat_get W.l j x hj
  exact ⟨by rw [h2.cellAt (j * 2) (by omega)]; exact e1, by rw [h2.cellAt (j * 2 + 1) (by omega)]; exact e2, fun i => h2.frozenAt i⟩
/-- one cell that is no list is written -/
theorem AfterW.turn (h : IsWd w S b g W) (i : Nat) (v : Value) (he : W'.l = W.l) (hc : ∀ sv, (wdcells sv W).setIfInBounds i v = wdcells sv W') : AfterW w (w.setCell ⟨b, i, none⟩ v) S b g W' := by
  obtain ⟨cap, F, h1, h2, h3, h4, h5, h6, h7⟩ := h
  have ho : Only (fun k => k = b) w (w.setCell ⟨b, i, none⟩ v) := (Only.refl (fun k => k = b) w).set (p := ⟨b, i, none⟩) (.inl rfl) v
  refine ⟨S, ⟨cap, F, ?_, ?_, fun j x hj => ?_, by rw [he]; exact h4, h5, h6, fun k hk => Nat.lt_of_lt_of_le (h7 k hk) ho.size⟩, fun _ h => .inl h, ho.mono fun k hk => by subst hk; exact h5⟩
  · have := h1.set i v
    rw [hc] at this
    rw [he]; exact this
  · rw [he]; exact row_setb h2 h1 (by decide) i v
  · rw [he] at hj
    obtain ⟨k1, k2, k3, k4⟩ := h3 j x hj
    exact ⟨k1.only ho fun k hk e => k3 (e ▸ hk), k2, k3, k4⟩
/-- a call on one of the stores -/
theorem IsWd.call (h : IsWd w S b g W) {j : Nat} {x : Kp} (hj : W.l[j]? = some x) : ∃ T, IsSt w T x.blk x.st ∧ (∀ i, T i → S i) ∧ ∀ w' s', After w w' T x.blk s' → AfterW w w' S b g { W with l := W.l.set j { x with st := s' } } := by
  obtain ⟨cap, F, h1, h2, h3, h4, h5, h6, h7⟩ := h
  have hl : j < W.l.length := (List.getElem?_eq_some_iff.1 hj).1
  obtain ⟨k1, k2, k3, k4⟩ := h3 j x hj
  refine ⟨F j, k1, k2, fun w' s' ha => ?_⟩
  obtain ⟨T', a1, a2, a3⟩ := ha
  have hT' : ∀ i, T' i → i < w'.heap.size := a1.bound
  have hfl : (W.l.set j { x with st := s' }).flatMap kcells = W.l.flatMap kcells := by
    have e : ∀ l : List Kp, ∀ j, l[j]? = some x → (l.set j { x with st := s' }).flatMap kcells = l.flatMap kcells := fun l => by
      induction l with
      | nil => intro j h; simp at h
      | cons p r ih =>
        intro j h
        cases j with
        | zero => simp at h; subst h; rfl
        | succ j => rw [List.set_cons_succ, List.flatMap_cons, List.flatMap_cons, ih j (by simpa using h)]
    exact e W.l j hj
  refine ⟨fun i => S i ∨ (w.heap.size ≤ i ∧ i < w'.heap.size), ⟨cap, fun k => if k = j then T' else F k, ?_, ?_, fun k y hk => ?_, fun k m hk hm hkm i hi hi' => ?_, .inl h5, .inl h6, fun i hi => ?_⟩, fun i hi => hi.imp id fun h => h.1, a3.mono k2⟩
  · have := a3.has h1 k3
    unfold wdcells at this ⊢
    simpa using this
  · simp only [List.length_set]
    rw [hfl]
    exact row_block h2 fun k hk hl' => a3.block k hl' (by simp [Value.ownBlock] at hk; subst hk; exact k4)
  · by_cases e : k = j
    · subst e
      simp only [if_true]
      simp only [List.getElem?_set_self hl, Option.some.injEq] at hk
      subst hk
      refine ⟨a1, fun i hi => ?_, fun hb => ?_, fun hg => ?_⟩
      · have := hT' i hi
        rcases a2 i hi with h | h
        · exact .inl (k2 i h)
        · exact .inr ⟨h, this⟩
      · rcases a2 b hb with h | h
        · exact k3 h
        · have := h7 b h5; omega
      · rcases a2 g hg with h | h
        · exact k4 h
        · have := h7 g h6; omega
    · simp only [if_neg e]
      simp only [List.getElem?_set_ne (Ne.symm e)] at hk
      obtain ⟨m1, m2, m3, m4⟩ := h3 k y hk
      have hkl : k < W.l.length := (List.getElem?_eq_some_iff.1 hk).1
      exact ⟨m1.only a3 fun i hi hT => h4 k j hkl hl e i hi hT, fun i hi => .inl (m2 i hi), m3, m4⟩
  · simp only [List.length_set] at hk hm
    have new : ∀ n, n < W.l.length → n ≠ j → F n i → T' i → False := fun n hn hnj a c => by
      rcases a2 i c with h | h
      · exact h4 n j hn hl hnj i a h
      · obtain ⟨y, hy⟩ : ∃ y, W.l[n]? = some y := ⟨_, List.getElem?_eq_getElem hn⟩
        have := h7 i ((h3 n y hy).2.1 i a)
        omega
    by_cases ek : k = j
    · subst ek
      simp only [if_true] at hi
      simp only [if_neg (Ne.symm hkm)] at hi'
      exact new m hm (Ne.symm hkm) hi' hi
    · simp only [if_neg ek] at hi
      by_cases em : m = j
      · subst em
        simp only [if_true] at hi'
        exact new k hk ek hi hi'
      · simp only [if_neg em] at hi'
        exact h4 k m hk hm hkm i hi hi'
  · rcases hi with hi | hi
    · exact Nat.lt_of_lt_of_le (h7 i hi) a3.size
    · exact hi.2
end Go.Proofs.YtmpgfpmkmgebdaaGreatDoor.W
/- The program's world: N, at, Calls, Dark, Cut, count, Up, Objects. -/
namespace Go.Proofs.YtmpgfpmkmgebdaaGreatDoor.W
open Go.RowKit Go.Maps
variable {w w' w1 w2 : World} {S : Nat → Prop} {b g : Nat} {W W' : Wd}
set_option maxRecDepth 20000 in
theorem n_any (h : IsWd w S b g W) : Calls Tryz.prog 42 #[ptr b] w fun e w' => e = .returned (.int .i64 (W.l.length : Int)) ∧ w' = w := by
  obtain ⟨cap, ⟨c0, c1, c2, c3, c4⟩, _, _⟩ := h.cells
  clear h
  unfold ptr
  generalize W.l.length = n at *
  go_enter Tryz.func42, Tryz.ntmps42
  go_wp2_with fail
  go_ret
  exact ⟨rfl, rfl⟩
set_option maxRecDepth 20000 in
theorem dark_any (h : IsWd w S b g W) : Calls Tryz.prog 9 #[ptr b] w fun e w' => e = .returned (.bool W.dark) ∧ w' = w := by
  obtain ⟨cap, ⟨c0, c1, c2, c3, c4⟩, _, _⟩ := h.cells
  clear h
  unfold ptr
  go_enter Tryz.func9, Tryz.ntmps9
  go_wp2_with fail
  go_ret
  exact ⟨rfl, rfl⟩
/-- where a store's place lies -/
def placeV (g n : Nat) (i : Int) : Value := if 0 ≤ i ∧ i < (n : Int) then .pointer (some ⟨g, i.toNat * 2, none⟩) else .pointer none
set_option maxRecDepth 20000 in
theorem at_any (h : IsWd w S b g W) (i : Int) : Calls Tryz.prog 34 #[ptr b, .int .i64 i] w fun e w' => e = .returned (placeV g W.l.length i) ∧ w' = w := by
  have HN := n_any h
  obtain ⟨cap, ⟨c0, c1, c2, c3, c4⟩, _, _⟩ := h.cells
  clear h
  unfold ptr at *
  unfold placeV
  by_cases h0 : i < 0
  · rw [if_neg (by omega)]
    clear HN
    go_enter Tryz.func34, Tryz.ntmps34
    go_wp2_with fail
    go_ret
    exact ⟨rfl, rfl⟩
  · have q0 : decide (i < 0) = false := decide_eq_false h0
    obtain ⟨k, rfl⟩ := Int.eq_ofNat_of_zero_le (show 0 ≤ i by omega)
    generalize W.l.length = n at *
    by_cases h1 : k < n
    · rw [if_pos ⟨by omega, by omega⟩]
      have q1 : decide ((n : Int) ≤ (k : Int)) = false := decide_eq_false (by omega)
      have q2 : (k : Int) < (n : Int) := by omega
      go_enter Tryz.func34, Tryz.ntmps34
      go_wp2_with fail
      refine HN.mono ?_
      clear HN
      rintro x w1 ⟨rfl, rfl⟩
      go_wp2_with fail
      go_ret
      exact ⟨rfl, rfl⟩
    · rw [if_neg (by omega)]
      have q1 : (n : Int) ≤ (k : Int) := by omega
      go_enter Tryz.func34, Tryz.ntmps34
      go_wp2_with fail
      refine HN.mono ?_
      clear HN
      rintro x w1 ⟨rfl, rfl⟩
      go_wp2_with fail
      go_ret
      exact ⟨rfl, rfl⟩
def cutW (W : Wd) (a : Int) : Int × Wd := if a < 0 then (1, W) else (0, { W with cut := true, left := a.toNat })
set_option maxRecDepth 20000 in
theorem cut_any (h : IsWd w S b g W) (a : Int) : Calls Tryz.prog 8 #[ptr b, .int .i64 a] w fun e w' => e = .returned (er (cutW W a).1) ∧ AfterW w w' S b g (cutW W a).2 := by
  have HR := hid (AfterW.refl h)
  unfold cutW er
  by_cases h0 : a < 0
  · rw [if_pos h0]
    clear h
    unfold ptr
    go_enter Tryz.func8, Tryz.ntmps8
    go_wp2_with fail
    go_ret
    exact ⟨rfl, HR.out⟩
  · rw [if_neg h0]
    obtain ⟨k, rfl⟩ := Int.eq_ofNat_of_zero_le (show 0 ≤ a by omega)
    have q0 : decide ((k : Int) < 0) = false := decide_eq_false h0
    have HA := hid ((AfterW.turn (W' := { W with cut := true }) h 3 (.bool true) rfl fun _ => rfl).then fun S' h' => AfterW.turn (W' := { W with cut := true, left := k }) h' 4 (.int .i64 (k : Int)) rfl fun _ => rfl)
    obtain ⟨cap, F, h1, _⟩ := h
    have f3 := h1.frozen 3
    have k3 : w.cell? ⟨b, 3, none⟩ = some (.bool W.cut) := h1.cell 3
    have h2 := h1.set 3 (.bool true)
    have f4 := h2.frozen 4
    have k4 : (w.setCell ⟨b, 3, none⟩ (.bool true)).cell? ⟨b, 4, none⟩ = some (.int .i64 (W.left : Int)) := h2.cell 4
    clear h1 h2 h0
    unfold ptr
    go_enter Tryz.func8, Tryz.ntmps8
    go_wp2_with fail
    go_ret
    exact ⟨rfl, HA.out⟩
/-- a call is counted -/
def countW (W : Wd) : Wd := if W.cut then (if W.left = 0 then { W with calls := W.calls + 1, dark := true } else { W with calls := W.calls + 1, left := W.left - 1 }) else { W with calls := W.calls + 1 }
set_option maxRecDepth 20000 in
theorem count_any (h : IsWd w S b g W) (hc : W.calls ≤ 1000000) (hl : W.left < 9223372036854775808) : Calls Tryz.prog 101 #[ptr b] w fun e w' => e = .returned (.tuple #[]) ∧ AfterW w w' S b g (countW W) := by
  have HA := AfterW.turn (W' := { W with calls := W.calls + 1 }) h 1 (.int .i64 ((W.calls + 1 : Nat) : Int)) rfl fun _ => rfl
  have HA1 := hid HA
  have hw1 : IntKind.i64.wrap ((W.calls : Int) + 1) = ((W.calls + 1 : Nat) : Int) := wrapN (b := 1) (by omega)
  obtain ⟨cap, F, h1, _⟩ := h
  have f1 := h1.frozen 1
  have k1 : w.cell? ⟨b, 1, none⟩ = some (.int .i64 (W.calls : Int)) := h1.cell 1
  have h2 := h1.set 1 (.int .i64 ((W.calls + 1 : Nat) : Int))
  have k3 : (w.setCell ⟨b, 1, none⟩ (.int .i64 ((W.calls + 1 : Nat) : Int))).cell? ⟨b, 3, none⟩ = some (.bool W.cut) := h2.cell 3
  have k4 : (w.setCell ⟨b, 1, none⟩ (.int .i64 ((W.calls + 1 : Nat) : Int))).cell? ⟨b, 4, none⟩ = some (.int .i64 (W.left : Int)) := h2.cell 4
  have k2 : (w.setCell ⟨b, 1, none⟩ (.int .i64 ((W.calls + 1 : Nat) : Int))).cell? ⟨b, 2, none⟩ = some (.bool W.dark) := h2.cell 2
  have f2 := h2.frozen 2
  have f4 := h2.frozen 4
  clear h1 h2 HA
  unfold countW ptr
  generalize W.calls + 1 = cc at *
  by_cases hcut : W.cut = true
  · rw [hcut] at k3
    rw [if_pos hcut]
    by_cases h0 : W.left = 0
    · rw [if_pos h0]
      have q0 : ((W.left : Int) == 0) = true := beq_iff_eq.2 (by omega)
      have HA2 := hid (HA1.out.then fun S' h' => AfterW.turn (W' := { W with calls := cc, dark := true }) h' 2 (.bool true) rfl fun _ => rfl)
      clear h0 hcut
      go_enter Tryz.func101, Tryz.ntmps101
      go_wp2_with fail
      try simp only [Exit.inBlock, Exit.then]
      refine bodyPost_ret (results_none rfl _ _ _) rfl ?_
      exact ⟨rfl, HA2.out⟩
    · rw [if_neg h0]
      have q0 : ((W.left : Int) == 0) = false := beq_eq_false_iff_ne.2 (by omega)
      have hw : IntKind.i64.wrap ((W.left : Int) - 1) = ((W.left - 1 : Nat) : Int) := by rw [wrap_i64_of (by omega) (by omega)]; omega
      have HA2 := hid (HA1.out.then fun S' h' => AfterW.turn (W' := { W with calls := cc, left := W.left - 1 }) h' 4 (.int .i64 ((W.left - 1 : Nat) : Int)) rfl fun _ => rfl)
      clear h0 hcut
      generalize W.left - 1 = lf at *
      go_enter Tryz.func101, Tryz.ntmps101
      go_wp2_with fail
      go_end0
      exact ⟨rfl, HA2.out⟩
  · rw [Bool.not_eq_true] at hcut
    rw [hcut] at k3
    rw [if_neg (by rw [hcut]; decide)]
    clear hcut
    go_enter Tryz.func101, Tryz.ntmps101
    go_wp2_with fail
    try simp only [Exit.inBlock, Exit.then]
    refine bodyPost_ret (results_none rfl _ _ _) rfl ?_
    exact ⟨rfl, HA1.out⟩
def objsW (W : Wd) (i : Int) : List Ob := if 0 ≤ i ∧ i < (W.l.length : Int) then (match W.l[i.toNat]? with | some x => x.st.seen | none => []) else []
set_option maxRecDepth 20000 in
theorem wobjs_any (h : IsWd w S b g W) (hs : ∀ x ∈ W.l, x.st.seen.length ≤ 1000000) (i : Int) : Calls Tryz.prog 32 #[ptr b, .int .i64 i] w fun e w' => ∃ v, e = .returned v ∧ w'.ownsRow w.heap.size 131 2 v (objsW W i).length (objCells (objsW W i)) ∧ Below w.heap.size w w' := by
  have HA := at_any h i
  unfold objsW
  unfold placeV at HA
  by_cases h0 : 0 ≤ i ∧ i < (W.l.length : Int)
  · rw [if_pos h0] at HA
    rw [if_pos h0]
    obtain ⟨k, rfl⟩ := Int.eq_ofNat_of_zero_le h0.1
    obtain ⟨x, hx⟩ : ∃ x, W.l[k]? = some x := ⟨_, List.getElem?_eq_getElem (by omega)⟩
    obtain ⟨c0, c1, _⟩ := h.kept hx
    obtain ⟨T, t1, _, _⟩ := h.call hx
    have HU := objects_any t1 (hs x (List.mem_of_getElem? hx))
    rw [Int.toNat_natCast] at *
    rw [hx]
    simp only
    unfold ptr at *
    clear h hx t1 h0 hs
    go_enter Tryz.func32, Tryz.ntmps32
    go_wp2_with fail
    refine HA.mono ?_
    clear HA
    rintro z w1 ⟨rfl, rfl⟩
    go_wp2_with fail
    refine HU.mono ?_
    clear HU
    rintro z w2 ⟨v, rfl, hr, hb⟩
    have HR := hid hr
    have HB := hid hb
    clear hr hb
    go_wp2_with fail
    go_ret
    exact ⟨v, rfl, HR.out, HB.out⟩
  · rw [if_neg h0] at HA
    rw [if_neg h0]
    clear h h0 hs
    unfold ptr at *
    go_enter Tryz.func32, Tryz.ntmps32
    go_wp2_with fail
    refine HA.mono ?_
    clear HA
    rintro z w1 ⟨rfl, rfl⟩
    go_wp2_with fail
    go_ret
    exact ⟨_, rfl, World.ownsRow_nil _ _ _ _, Below.refl _ _⟩
end Go.Proofs.YtmpgfpmkmgebdaaGreatDoor.W
/- The program's world: what is asked of a store, counted. -/
namespace Go.Proofs.YtmpgfpmkmgebdaaGreatDoor.W
open Go.RowKit Go.Maps
variable {w w' w1 w2 : World} {S : Nat → Prop} {b g : Nat} {W W' : Wd}
set_option maxHeartbeats 2000000 in
set_option maxRecDepth 20000 in
theorem ask54_any (h : IsWd w S b g W) (hc : W.calls ≤ 1000000) (hl : W.left < 9223372036854775808) (i : Int) (B : Nat) (Q : Ending → World → Prop)
    (h1 : ¬ (0 ≤ i ∧ i < (W.l.length : Int)) → Q (.returned (.tuple #[.string ⟨#[]⟩, .int .i64 1])) w)
    (h2 : 0 ≤ i ∧ i < (W.l.length : Int) → (countW W).dark = true → ∀ w1, AfterW w w1 S b g (countW W) → Q (.returned (.tuple #[.string ⟨#[]⟩, .int .i64 56])) w1)
    (hf : 0 ≤ i ∧ i < (W.l.length : Int) → (countW W).dark = false → ∀ w1, AfterW w w1 S b g (countW W) → Calls Tryz.prog 75 #[.pointer (some ⟨g, i.toNat * 2, none⟩), .pointer (some ⟨B, 0, none⟩)] w1 fun e w' => ∃ (d : ByteArray) (z : Int), e = .returned (.tuple #[.string d, .int .i64 z]) ∧ Q e w') :
    Calls Tryz.prog 74 #[ptr b, .int .i64 i, .func (.func 75) #[] #[.pointer (some ⟨B, 0, none⟩)]] w Q := by
  have HA := at_any h i
  have HC := count_any h hc hl
  unfold placeV at HA
  by_cases h0 : 0 ≤ i ∧ i < (W.l.length : Int)
  · rw [if_pos h0] at HA
    have HF := hid (hf h0)
    have H2 := hid (h2 h0)
    unfold ptr at *
    clear h hf h1 h2 h0 hc hl
    go_enter Tryz.func74, Tryz.ntmps74
    go_wp2_with fail
    refine HA.mono ?_
    clear HA
    rintro x w1 ⟨rfl, rfl⟩
    go_wp2_with fail
    refine HC.mono ?_
    clear HC
    rintro x w2 ⟨rfl, ha⟩
    have HA2 := hid ha
    obtain ⟨S2, hi2, _, _⟩ := ha
    obtain ⟨cap, ⟨c0, c1, c2, c3, c4⟩, _, _⟩ := hi2.cells
    clear hi2 c0 c1 c3 c4
    cases hd : (countW W).dark with
    | true =>
      rw [hd] at c2
      have HQ := hid (H2.out hd w2 HA2.out)
      clear hd H2 HF
      go_wp2_with fail
      exact HQ.out
    | false =>
      rw [hd] at c2
      have HFF := HF.out hd w2 HA2.out
      clear hd HF H2
      go_wp2_with fail
      refine HFF.mono ?_
      clear HFF
      rintro x w3 ⟨d, z, rfl, hq⟩
      have HQ := hid hq
      clear hq
      go_wp2_with fail
      exact HQ.out
  · rw [if_neg h0] at HA
    have H1 := hid (h1 h0)
    clear h hf HC h0 h1 h2
    unfold ptr at *
    go_enter Tryz.func74, Tryz.ntmps74
    go_wp2_with fail
    refine HA.mono ?_
    clear HA
    rintro x w1 ⟨rfl, rfl⟩
    go_wp2_with fail
    exact H1.out
end Go.Proofs.YtmpgfpmkmgebdaaGreatDoor.W
/- The program's world: what is asked of a store, counted: answers that are an error alone, and lists. -/
namespace Go.Proofs.YtmpgfpmkmgebdaaGreatDoor.W
open Go.RowKit Go.Maps
variable {w w' w1 w2 : World} {S : Nat → Prop} {b g : Nat} {W W' : Wd}
theorem load82 (w : World) (q : Nat) : (loadVar 160 ⟨q, 0, none⟩).run Tryz.prog w = .ok (.agg #[]) w := run_loadVar_mid w q 0 160 [] _ (fun j u hu => by simp at hu) Tryz.underlying160 rfl (by kernel_rfl)
/-- the answer: nothing, and an error -/
theorem ret82 {f : Func} {p u : Tmp} (hr : f.results = #[.cell p 160, .tmp u]) {Q : Ending → World → Prop} {a : Act} {w : World} {q : Nat} {z : Int} (hd : a.defers = []) (hp : a.tmps.getD p undef = .pointer (some ⟨q, 0, none⟩)) (hu : a.tmps.getD u undef = .int .i64 z) (h : Q (.returned (.tuple #[.agg #[], .int .i64 z])) w) : bodyPost Tryz.prog f Q .ret a w := by
  refine bodyPost_ret (v := .tuple #[.agg #[], .int .i64 z]) ?_ hd h
  rw [results_cell_tmp hr, hp, hu]
  have := load82 w q
  simp [asAddr, this, Result.andThen]
set_option maxHeartbeats 2000000 in
set_option maxRecDepth 20000 in
theorem ask48_any (h : IsWd w S b g W) (hc : W.calls ≤ 1000000) (hl : W.left < 9223372036854775808) (i : Int) (B : Nat) (Q : Ending → World → Prop)
    (h1 : ¬ (0 ≤ i ∧ i < (W.l.length : Int)) → ∀ w1, Below w.heap.size w w1 → Q (.returned (.tuple #[.agg #[], .int .i64 1])) w1)
    (h2 : 0 ≤ i ∧ i < (W.l.length : Int) → (countW W).dark = true → ∀ w1, AfterW w w1 S b g (countW W) → Q (.returned (.tuple #[.agg #[], .int .i64 56])) w1)
    (hf : 0 ≤ i ∧ i < (W.l.length : Int) → (countW W).dark = false → ∀ w1, AfterW w w1 S b g (countW W) → Calls Tryz.prog 115 #[.pointer (some ⟨g, i.toNat * 2, none⟩), .pointer (some ⟨B, 0, none⟩)] w1 fun e w' => ∃ z : Int, e = .returned (.tuple #[.agg #[], .int .i64 z]) ∧ Q e w') :
    Calls Tryz.prog 96 #[ptr b, .int .i64 i, .func (.func 115) #[] #[.pointer (some ⟨B, 0, none⟩)]] w Q := by
  have HB := hid (show Below w.heap.size w ((w.alloc (.cells #[] 160)).alloc (.cells #[] 160)) from (boxed w _).trans ((boxed (w.alloc (.cells #[] 160)) _).mono (by simp)))
  have h' := h.below HB.out
  have HA := at_any h' i
  have HC := count_any h' hc hl
  unfold placeV at HA
  by_cases h0 : 0 ≤ i ∧ i < (W.l.length : Int)
  · rw [if_pos h0] at HA
    have HF := hid (hf h0)
    have H2 := hid (h2 h0)
    unfold ptr at *
    clear h h' hf h1 h2 h0 hc hl
    go_enter Tryz.func96, Tryz.ntmps96
    go_wp2_with fail
    refine HA.mono ?_
    clear HA
    rintro x w1 ⟨rfl, rfl⟩
    go_wp2_with fail
    refine HC.mono ?_
    clear HC
    rintro x w2 ⟨rfl, ha⟩
    have HA2 := hid (AfterW.front HB.out ha)
    obtain ⟨S2, hi2, _, _⟩ := ha
    obtain ⟨cap, ⟨c0, c1, c2, c3, c4⟩, _, _⟩ := hi2.cells
    clear hi2 c0 c1 c3 c4
    cases hd : (countW W).dark with
    | true =>
      rw [hd] at c2
      have HQ := hid (H2.out hd w2 HA2.out)
      clear hd H2 HF
      go_wp2_with fail
      exact ret82 rfl rfl rfl rfl HQ.out
    | false =>
      rw [hd] at c2
      have HFF := HF.out hd w2 HA2.out
      clear hd HF H2
      go_wp2_with fail
      refine HFF.mono ?_
      clear HFF
      rintro x w3 ⟨z, rfl, hq⟩
      have HQ := hid hq
      clear hq
      go_wp2_with fail
      exact ret82 rfl rfl rfl rfl HQ.out
  · rw [if_neg h0] at HA
    have H1 := hid (h1 h0 _ HB.out)
    clear h h' hf HC h0 h1 h2
    unfold ptr at *
    go_enter Tryz.func96, Tryz.ntmps96
    go_wp2_with fail
    refine HA.mono ?_
    clear HA
    rintro x w1 ⟨rfl, rfl⟩
    go_wp2_with fail
    exact ret82 rfl rfl rfl rfl H1.out
end Go.Proofs.YtmpgfpmkmgebdaaGreatDoor.W
