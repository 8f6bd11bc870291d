/- Matrices in the call's own memory: a list of rows, each in a block of its own; what becomes of it when a row is written, laid anew, or rows move down. -/
import Derived.Test.YtfbjpgcgdhhfnaaOwn
namespace Go.Proofs.Ytfbjpgcgdhhfnaa
open Go.RowKit
/-- nothing below base is changed, nothing that was there from top on -/
def Keeps (base top : Nat) (w w' : World) : Prop := Below base w w' ∧ ∀ b, top ≤ b → b < w.heap.size → w'.heap[b]? = w.heap[b]?
theorem Keeps.refl (base top : Nat) (w : World) : Keeps base top w w := ⟨Below.refl _ _, fun _ _ _ => rfl⟩
theorem Keeps.trans {base top : Nat} {a b c : World} (h : Keeps base top a b) (k : Keeps base top b c) : Keeps base top a c :=
  ⟨h.1.trans k.1, fun i h1 h2 => (k.2 i h1 (Nat.lt_of_lt_of_le h2 h.1.size)).trans (h.2 i h1 h2)⟩
theorem Keeps.mono {base top base' top' : Nat} {a b : World} (h : Keeps base top a b) (h1 : base' ≤ base) (h2 : top ≤ top') : Keeps base' top' a b :=
  ⟨h.1.mono h1, fun i k1 k2 => h.2 i (by omega) k2⟩
theorem Keeps.ofBelow {base top : Nat} {w w' : World} (h : Below w.heap.size w w') (hb : base ≤ w.heap.size) : Keeps base top w w' := ⟨h.mono hb, fun i _ h2 => h.block i h2⟩
theorem Keeps.drewN {base top : Nat} {w w' : World} (h : Keeps base top w w') (n : Nat) : Keeps base top w (w'.drewN n) := ⟨below_drewN h.1 n, h.2⟩
theorem Keeps.drew {base top : Nat} {w w' : World} (h : Keeps base top w w') : Keeps base top w w'.drew := ⟨h.1.drew, h.2⟩
theorem Keeps.set {base top : Nat} {w w' : World} (h : Keeps base top w w') {p : Addr} (h1 : base ≤ p.block) (h2 : p.block < top) (u : Value) : Keeps base top w (w'.setCell p u) :=
  ⟨h.1.setCell h1 u, fun i k1 k2 => by rw [Below.heap_setCell _ _ _ _ (by omega)]; exact h.2 i k1 k2⟩
theorem Keeps.alloc {base top : Nat} {w w' : World} (h : Keeps base top w w') (hb : base ≤ w'.heap.size) (o : Obj) : Keeps base top w (w'.alloc o) :=
  ⟨h.1.alloc hb o, fun i k1 k2 => by rw [Below.heap_alloc _ _ _ (Nat.lt_of_lt_of_le k2 h.1.size)]; exact h.2 i k1 k2⟩
theorem Keeps.has {base top : Nat} {w w' : World} (h : Keeps base top w w') {b : Nat} {cs : Array Value} {t : TypeId} (hh : Has w b cs t) (ht : top ≤ b) : Has w' b cs t := by
  have hl := hh.lt
  unfold Has at hh ⊢; rw [h.2 b ht hl]; exact hh
theorem cell_of {w w' : World} {b i : Nat} (h : w'.heap[b]? = w.heap[b]?) : w'.cell? ⟨b, i, none⟩ = w.cell? ⟨b, i, none⟩ := by simp only [World.cell?, h]
theorem frozen_of {w w' : World} {b i : Nat} (h : w'.heap[b]? = w.heap[b]?) : w'.frozen? ⟨b, i, none⟩ = w.frozen? ⟨b, i, none⟩ := by simp only [World.frozen?, h]
theorem RowW.of {w w' : World} {g W : Nat} {r : Nat → Nat} (h : RowW w g W r) (hk : w'.heap[g]? = w.heap[g]?) : RowW w' g W r := fun j hj => by
  rw [cell_of hk, frozen_of hk]; exact h j hj
theorem RowW.congr {w : World} {g W : Nat} {r r' : Nat → Nat} (h : RowW w g W r) (hr : ∀ j, j < W → r' j = r j) : RowW w g W r' := fun j hj => by
  rw [hr j hj]; exact h j hj
/-- one number is written -/
theorem RowW.set {w : World} {g W : Nat} {r r' : Nat → Nat} (h : RowW w g W r) (j x : Nat) (hj : j < W) (hx : x < 256) (hj' : r' j = x) (ho : ∀ k, k < W → k ≠ j → r' k = r k) : RowW (w.setCell ⟨g, j, none⟩ (.int .u8 (x : Int))) g W r' := fun k hk => by
  rw [World.frozen?_setCell]
  by_cases he : k = j
  · subst he
    exact ⟨by rw [World.cell?_setCell_same _ _ _ (h k hk).1, hj'], (h k hk).2.1, by rw [hj']; exact hx⟩
  · rw [World.cell?_setCell_other _ _ _ _ (by simp <;> omega), ho k hk he]; exact h k hk
theorem setCell_other {w : World} {g b : Nat} {i : Nat} {v : Value} (h : b ≠ g) : (w.setCell ⟨g, i, none⟩ v).heap[b]? = w.heap[b]? := Below.heap_setCell _ _ _ _ h
theorem rowW_lt {w : World} {g W : Nat} {r : Nat → Nat} (h : RowW w g W r) (hp : 0 < W) : g < w.heap.size := World.block_lt_of_cell? (h := (h 0 hp).1)
/-- from T on R rows are told; row i has Wd i numbers, f i j at j; the rows lie apart, from base on, below top -/
def MW (base top T R : Nat) (Wd : Nat → Nat) (f : El.M) (w : World) : Prop :=
  base ≤ T ∧ T < top ∧ top ≤ w.heap.size ∧ ∃ B : Nat → Nat, ∀ i, i < R → w.frozen? ⟨T, i, none⟩ = false ∧ Wd i ≤ 1000000 ∧ ∃ a cap, w.cell? ⟨T, i, none⟩ = some (.slice a (Wd i) cap) ∧ (Wd i ≤ cap ∧ cap ≤ 9223372036854775807) ∧
    (0 < Wd i → a = some ⟨B i, 0, none⟩ ∧ base ≤ B i ∧ B i < top ∧ B i ≠ T ∧ (∀ k, k < R → k ≠ i → 0 < Wd k → B k ≠ B i) ∧ RowW w (B i) (Wd i) (f i))
theorem MW.same {base top T R : Nat} {Wd : Nat → Nat} {f : El.M} {w w' : World} (h : MW base top T R Wd f w) (hs : w.heap.size ≤ w'.heap.size) (hk : ∀ b, base ≤ b → b < top → w'.heap[b]? = w.heap[b]?) : MW base top T R Wd f w' := by
  obtain ⟨h1, h2, h3, B, h4⟩ := h
  refine ⟨h1, h2, by omega, B, fun i hi => ?_⟩
  obtain ⟨k1, k2, a, cap, k3, kc, k4⟩ := h4 i hi
  refine ⟨by rw [frozen_of (hk T h1 h2)]; exact k1, k2, a, cap, by rw [cell_of (hk T h1 h2)]; exact k3, kc, fun hp => ?_⟩
  obtain ⟨r1, r2, r3, r4, r5, r6⟩ := k4 hp
  exact ⟨r1, r2, r3, r4, r5, r6.of (hk _ r2 r3)⟩
theorem MW.below {base top T R : Nat} {Wd : Nat → Nat} {f : El.M} {w w' : World} (h : MW base top T R Wd f w) (hb : Below w.heap.size w w') : MW base top T R Wd f w' :=
  h.same hb.size fun b _ h2 => hb.block b (Nat.lt_of_lt_of_le h2 h.2.2.1)
theorem MW.mono {base top top' T R : Nat} {Wd : Nat → Nat} {f : El.M} {w : World} (h : MW base top T R Wd f w) (ht : top ≤ top') (hs : top' ≤ w.heap.size) : MW base top' T R Wd f w := by
  obtain ⟨h1, h2, h3, B, h4⟩ := h
  refine ⟨h1, by omega, hs, B, fun i hi => ?_⟩
  obtain ⟨k1, k2, a, cap, k3, kc, k4⟩ := h4 i hi
  refine ⟨k1, k2, a, cap, k3, kc, fun hp => ?_⟩
  obtain ⟨r1, r2, r3, r4, r5, r6⟩ := k4 hp
  exact ⟨r1, r2, by omega, r4, r5, r6⟩
theorem MW.congr {base top T R : Nat} {Wd Wd' : Nat → Nat} {f f' : El.M} {w : World} (h : MW base top T R Wd f w) (hW : ∀ i, i < R → Wd' i = Wd i) (hf : ∀ i, i < R → ∀ j, j < Wd i → f' i j = f i j) : MW base top T R Wd' f' w := by
  obtain ⟨h1, h2, h3, B, h4⟩ := h
  refine ⟨h1, h2, h3, B, fun i hi => ?_⟩
  obtain ⟨k1, k2, a, cap, k3, kc, k4⟩ := h4 i hi
  rw [hW i hi]
  refine ⟨k1, k2, a, cap, k3, kc, fun hp => ?_⟩
  obtain ⟨r1, r2, r3, r4, r5, r6⟩ := k4 hp
  exact ⟨r1, r2, r3, r4, fun k hk hki hp => r5 k hk hki (by rw [← hW k hk]; exact hp), r6.congr (hf i hi)⟩
theorem MW.less {base top T R R' : Nat} {Wd : Nat → Nat} {f : El.M} {w : World} (h : MW base top T R Wd f w) (hR : R' ≤ R) : MW base top T R' Wd f w := by
  obtain ⟨h1, h2, h3, B, h4⟩ := h
  refine ⟨h1, h2, h3, B, fun i hi => ?_⟩
  obtain ⟨k1, k2, a, cap, k3, kc, k4⟩ := h4 i (by omega)
  refine ⟨k1, k2, a, cap, k3, kc, fun hp => ?_⟩
  obtain ⟨r1, r2, r3, r4, r5, r6⟩ := k4 hp
  exact ⟨r1, r2, r3, r4, fun k hk => r5 k (by omega), r6⟩
/-- a row of it, and what becomes of it when that row is written -/
theorem MW.row {base top T R : Nat} {Wd : Nat → Nat} {f : El.M} {w : World} (h : MW base top T R Wd f w) (i : Nat) (hi : i < R) (hp : 0 < Wd i) :
    ∃ g cap, w.cell? ⟨T, i, none⟩ = some (.slice (some ⟨g, 0, none⟩) (Wd i) cap) ∧ base ≤ g ∧ g < top ∧ g ≠ T ∧ RowW w g (Wd i) (f i) ∧ Wd i ≤ 1000000 ∧
      ∀ (W' : World) (f' : El.M), RowW W' g (Wd i) (f' i) → Keeps g (g + 1) w W' → (∀ k, k < R → k ≠ i → ∀ j, j < Wd k → f' k j = f k j) → MW base top T R Wd f' W' := by
  obtain ⟨h1, h2, h3, B, h4⟩ := h
  obtain ⟨k1, k2, a, cap, k3, kc, k4⟩ := h4 i hi
  obtain ⟨rfl, r2, r3, r4, r5, r6⟩ := k4 hp
  refine ⟨B i, cap, k3, r2, r3, r4, r6, k2, fun W' f' hW hk hf => ?_⟩
  have hsame : ∀ b, b ≠ B i → b < w.heap.size → W'.heap[b]? = w.heap[b]? := fun b hb hl => by
    by_cases hlt : b < B i
    · exact hk.1.block b hlt
    · exact hk.2 b (by omega) hl
  have hT := hsame T (Ne.symm r4) (by omega)
  refine ⟨h1, h2, Nat.le_trans h3 hk.1.size, B, fun k hkR => ?_⟩
  obtain ⟨q1, q2, a', cap', q3, qc, q4⟩ := h4 k hkR
  refine ⟨by rw [frozen_of hT]; exact q1, q2, a', cap', by rw [cell_of hT]; exact q3, qc, fun hpk => ?_⟩
  obtain ⟨s1, s2, s3, s4, s5, s6⟩ := q4 hpk
  refine ⟨s1, s2, s3, s4, s5, ?_⟩
  by_cases he : k = i
  · subst he; exact hW
  · exact (s6.of (hsame _ (r5 k hkR he hpk) (by omega))).congr (hf k hkR he)
theorem MW.cap {base top T R : Nat} {Wd : Nat → Nat} {f : El.M} {w : World} (h : MW base top T R Wd f w) (i : Nat) (hi : i < R) {a : Option Addr} {cap : Nat} (e : w.cell? ⟨T, i, none⟩ = some (.slice a (Wd i) cap)) : Wd i ≤ cap ∧ cap ≤ 9223372036854775807 := by
  obtain ⟨h1, h2, h3, B, h4⟩ := h
  obtain ⟨_, _, a', c', k3, kc, _⟩ := h4 i hi
  rw [k3] at e
  simp only [Option.some.injEq, Value.slice.injEq] at e
  rw [← e.2.2]; exact kc
/-- two rows lie apart -/
theorem MW.two {base top T R : Nat} {Wd : Nat → Nat} {f : El.M} {w : World} (h : MW base top T R Wd f w) (i k : Nat) (hi : i < R) (hk : k < R) (hik : i ≠ k) (hp : 0 < Wd i) (hq : 0 < Wd k) {g g' cap cap' : Nat}
    (e : w.cell? ⟨T, i, none⟩ = some (.slice (some ⟨g, 0, none⟩) (Wd i) cap)) (e' : w.cell? ⟨T, k, none⟩ = some (.slice (some ⟨g', 0, none⟩) (Wd k) cap')) : g ≠ g' := by
  obtain ⟨h1, h2, h3, B, h4⟩ := h
  obtain ⟨_, _, a, c, k3, _, k4⟩ := h4 i hi
  obtain ⟨_, _, a', c', q3, _, q4⟩ := h4 k hk
  obtain ⟨rfl, _, _, _, r5, _⟩ := k4 hp
  obtain ⟨rfl, _⟩ := q4 hq
  rw [k3] at e; rw [q3] at e'
  simp only [Option.some.injEq, Value.slice.injEq, Addr.mk.injEq] at e e'
  have := r5 k hk (Ne.symm hik) hq
  omega
/-- a row is laid anew, by what was made meanwhile -/
theorem MW.put {base top T R : Nat} {Wd Wd' : Nat → Nat} {f f' : El.M} {w0 w1 : World} (h : MW base top T R Wd f w0) (hb : Below w0.heap.size w0 w1) (i : Nat) (_hi : i < R) {r : Value} {l : List Nat}
    (hr : Owns 5 w0.heap.size r (U8s l).toList w1) (hx : ∀ x ∈ l, x < 256) (hl : l.length ≤ 1000000) (hW : Wd' i = l.length) (hf : ∀ j, j < l.length → f' i j = l.getD j 0) (ho : ∀ k, k < R → k ≠ i → Wd' k = Wd k ∧ ∀ j, j < Wd k → f' k j = f k j) :
    MW base w1.heap.size T R Wd' f' (w1.setCell ⟨T, i, none⟩ r) := by
  have h' := h.below hb
  obtain ⟨h1, h2, h3, B, h4⟩ := h'
  have h30 := h.2.2.1
  have hs := hb.size
  obtain ⟨a, cap, rfl, hcp, ha⟩ := hr.form hx
  obtain ⟨g, hg⟩ : ∃ g, 0 < l.length → a = some ⟨g, 0, none⟩ ∧ w0.heap.size ≤ g ∧ g < w1.heap.size ∧ RowW w1 g l.length (fun j => l.getD j 0) := by
    by_cases hp : 0 < l.length
    · obtain ⟨g, e1, e2, e3, _, e4⟩ := ha hp; exact ⟨g, fun _ => ⟨e1, e2, e3, e4⟩⟩
    · exact ⟨0, fun hp' => absurd hp' hp⟩
  have hBl : ∀ k, k < R → 0 < Wd k → B k < w0.heap.size := fun k hk hp => by
    obtain ⟨_, _, a', cap', _, _, q4⟩ := h4 k hk
    have := (q4 hp).2.2.1; omega
  refine ⟨h1, by omega, by simp [World.setCell], fun k => if k = i then g else B k, fun k hk => ?_⟩
  obtain ⟨q1, q2, a', cap', q3, qc, q4⟩ := h4 k hk
  rw [World.frozen?_setCell]
  by_cases he : k = i
  · subst he
    refine ⟨q1, by rw [hW]; exact hl, a, cap, by rw [World.cell?_setCell_same _ _ _ q3, hW], by rw [hW]; exact hcp, fun hp => ?_⟩
    rw [hW] at hp ⊢
    obtain ⟨e1, e2, e3, e4⟩ := hg hp
    simp only [if_pos]
    refine ⟨e1, by omega, e3, by omega, fun m hm hmk hpm => ?_, ?_⟩
    · rw [if_neg hmk]
      have := hBl m hm (by rw [← (ho m hm hmk).1]; exact hpm); omega
    · exact (e4.of (setCell_other (by omega))).congr hf
  · obtain ⟨o1, o2⟩ := ho k hk he
    refine ⟨q1, by rw [o1]; exact q2, a', cap', by rw [World.cell?_setCell_other _ _ _ _ (by simp <;> omega), q3, o1], by rw [o1]; exact qc, fun hp => ?_⟩
    rw [o1] at hp ⊢
    obtain ⟨s1, s2, s3, s4, s5, s6⟩ := q4 hp
    simp only [if_neg he]
    refine ⟨s1, s2, by omega, s4, fun m hm hmk hpm => ?_, (s6.of (setCell_other s4)).congr o2⟩
    by_cases hmi : m = i
    · rw [if_pos hmi]
      subst hmi
      rw [hW] at hpm
      have := (hg hpm).2.1
      have := hBl k hk hp; omega
    · rw [if_neg hmi]; exact s5 m hm hmk (by rw [← (ho m hm hmi).1]; exact hpm)
theorem MW.top {base top T R : Nat} {Wd : Nat → Nat} {f : El.M} {w : World} (h : MW base top T R Wd f w) (k : Nat) (hk : k < R) : T < w.heap.size ∧ (∃ v, w.cell? ⟨T, k, none⟩ = some v) ∧ w.frozen? ⟨T, k, none⟩ = false := by
  obtain ⟨h1, h2, h3, B, h4⟩ := h
  obtain ⟨q1, q2, a', cap', q3, qc, q4⟩ := h4 k hk
  exact ⟨by omega, ⟨_, q3⟩, q1⟩
/-- rows move down -/
theorem MW.raise {base top T R W d p : Nat} {f : El.M} {w w' : World} (h : MW base top T R (fun _ => W) f w) (hdp : d ≤ p) (hp : p < R) (hs : w.heap.size ≤ w'.heap.size) (hc : ∀ i, i < R → w'.cell? ⟨T, i, none⟩ = w.cell? ⟨T, El.was d p i, none⟩) (hf : ∀ i, i < R → w'.frozen? ⟨T, i, none⟩ = false) (hk : ∀ b, b ≠ T → b < w.heap.size → w'.heap[b]? = w.heap[b]?) : MW base top T R (fun _ => W) (El.raiseF d p f) w' := by
  obtain ⟨h1, h2, h3, B, h4⟩ := h
  refine ⟨h1, h2, by omega, fun i => B (El.was d p i), fun i hi => ?_⟩
  obtain ⟨k1, k2, a, cap, k3, kc, k4⟩ := h4 _ (El.was_lt (d := d) hp hi)
  refine ⟨hf i hi, k2, a, cap, by rw [hc i hi]; exact k3, kc, fun hp' => ?_⟩
  obtain ⟨r1, r2, r3, r4, r5, r6⟩ := k4 hp'
  refine ⟨r1, r2, r3, r4, fun k hkR hki hpk => r5 _ (El.was_lt hp hkR) (fun e => hki (El.was_inj hdp e)) hpk, ?_⟩
  rw [El.raise_was]
  exact r6.of (hk _ r4 (by omega))
/-- the rows as lists -/
def rowsOf (R : Nat) (Wd : Nat → Nat) (f : El.M) : List (List Nat) := (List.range R).map fun i => (List.range (Wd i)).map (f i)
theorem rowsOf_length (R : Nat) (Wd : Nat → Nat) (f : El.M) : (rowsOf R Wd f).length = R := by simp [rowsOf]
theorem rowsOf_row (R : Nat) (Wd : Nat → Nat) (f : El.M) (i : Nat) (hi : i < R) : (rowsOf R Wd f).getD i [] = (List.range (Wd i)).map (f i) := by
  simp [rowsOf, List.getD_eq_getElem?_getD, hi]
theorem range_getD (n : Nat) (r : Nat → Nat) (j : Nat) (hj : j < n) : ((List.range n).map r).getD j 0 = r j := by
  simp [List.getD_eq_getElem?_getD, hj]
theorem rowsOf_congr {R : Nat} {Wd Wd' : Nat → Nat} {f f' : El.M} (hW : ∀ i, i < R → Wd i = Wd' i) (hf : ∀ i, i < R → ∀ j, j < Wd i → f i j = f' i j) : rowsOf R Wd f = rowsOf R Wd' f' := by
  unfold rowsOf
  apply List.map_congr_left
  intro i hi
  rw [List.mem_range] at hi
  rw [← hW i hi]
  apply List.map_congr_left
  intro j hj
  exact hf i hi j (List.mem_range.1 hj)
/-- the numbers of a list of rows -/
def at2 (m : List (List Nat)) : El.M := fun i j => (m.getD i []).getD j 0
def wd (m : List (List Nat)) : Nat → Nat := fun i => (m.getD i []).length
theorem rowsOf_self (m : List (List Nat)) : rowsOf m.length (wd m) (at2 m) = m := by
  apply ext_getD []
  · exact rowsOf_length _ _ _
  · intro i hi
    rw [rowsOf_length] at hi
    rw [rowsOf_row _ _ _ _ hi]
    apply ext_getD 0
    · simp [wd]
    · intro j hj
      simp only [List.length_map, List.length_range] at hj
      rw [range_getD _ _ _ hj]; rfl
theorem MW.mat {base top T R cap : Nat} {Wd : Nat → Nat} {f : El.M} {w : World} (h : MW base top T R Wd f w) (hR : R ≤ 1000000) : Mat w (.slice (some ⟨T, 0, none⟩) R cap) (rowsOf R Wd f) := by
  obtain ⟨h1, h2, h3, B, h4⟩ := h
  refine ⟨_, cap, by rw [rowsOf_length], by rw [rowsOf_length]; omega, fun _ => ⟨T, 0, rfl, by omega, fun j hj => ?_⟩⟩
  rw [rowsOf_length] at hj
  obtain ⟨k1, k2, a, c, k3, _, k4⟩ := h4 j hj
  rw [rowsOf_row _ _ _ _ hj]
  refine ⟨_, by rw [Nat.zero_add]; exact k3, a, c, by simp, by simp; omega, fun x hx => ?_, fun hp => ?_⟩
  · simp only [List.mem_map, List.mem_range] at hx
    obtain ⟨i, hi, rfl⟩ := hx
    exact ((k4 (by omega)).2.2.2.2.2 i hi).2.2
  · simp only [List.length_map, List.length_range] at hp ⊢
    obtain ⟨r1, r2, r3, r4, r5, r6⟩ := k4 hp
    exact ⟨B j, 0, r1, by omega, fun i hi => by rw [Nat.zero_add, (r6 i hi).1, range_getD _ _ _ hi]⟩
/-- the n rows that are told from T on lie from block base on, below top, apart from the list of them, and may be written -/
def WrAt (base top T n : Nat) (w : World) : Prop := ∀ j, j < n → ∃ b k c, w.cell? ⟨T, j, none⟩ = some (.slice b k c) ∧ k ≤ 1000000 ∧ (0 < k → ∃ g, b = some ⟨g, 0, none⟩ ∧ base ≤ g ∧ g < top ∧ g ≠ T ∧ ∀ i, i < k → (∃ x : Nat, x < 256 ∧ w.cell? ⟨g, i, none⟩ = some (.int .u8 (x : Int))) ∧ w.frozen? ⟨g, i, none⟩ = false)
theorem MW.wr {base top T R : Nat} {Wd : Nat → Nat} {f : El.M} {w : World} (h : MW base top T R Wd f w) : WrAt base top T R w := by
  obtain ⟨h1, h2, h3, B, h4⟩ := h
  intro j hj
  obtain ⟨k1, k2, a, c, k3, _, k4⟩ := h4 j hj
  refine ⟨a, _, c, k3, k2, fun hp => ?_⟩
  obtain ⟨r1, r2, r3, r4, r5, r6⟩ := k4 hp
  exact ⟨B j, r1, r2, r3, r4, fun i hi => ⟨⟨f j i, (r6 i hi).2.2, (r6 i hi).1⟩, (r6 i hi).2.1⟩⟩
/-- a list of rows that a call hands out -/
def NewM (base top : Nat) (w : World) (v : Value) (m : List (List Nat)) : Prop := m.length ≤ 1000000 ∧ ((v = .slice none 0 0 ∧ m = []) ∨ ∃ T cap Wd f, v = .slice (some ⟨T, 0, none⟩) m.length cap ∧ m = rowsOf m.length Wd f ∧ MW base top T m.length Wd f w)
theorem NewM.nil (base top : Nat) (w : World) : NewM base top w (.slice none 0 0) [] := ⟨by simp, .inl ⟨rfl, rfl⟩⟩
theorem NewM.mat {base top : Nat} {w : World} {v : Value} {m : List (List Nat)} (h : NewM base top w v m) : Mat w v m := by
  obtain ⟨h1, h2⟩ := h
  rcases h2 with ⟨rfl, rfl⟩ | ⟨T, cap, Wd, f, rfl, e, h3⟩
  · exact Mat.nil w
  · have := h3.mat (cap := cap) h1
    rwa [← e] at this
theorem NewM.same {base top : Nat} {w w' : World} {v : Value} {m : List (List Nat)} (h : NewM base top w v m) (hs : w.heap.size ≤ w'.heap.size) (hk : ∀ b, base ≤ b → b < top → w'.heap[b]? = w.heap[b]?) : NewM base top w' v m := by
  obtain ⟨h1, h2⟩ := h
  refine ⟨h1, h2.imp id ?_⟩
  rintro ⟨T, cap, Wd, f, e1, e2, h3⟩
  exact ⟨T, cap, Wd, f, e1, e2, h3.same hs hk⟩
theorem NewM.top {base top : Nat} {w : World} {v : Value} {m : List (List Nat)} (h : NewM base top w v m) (ht : top ≤ w.heap.size) : NewM base w.heap.size w v m := by
  obtain ⟨h1, h2⟩ := h
  refine ⟨h1, h2.imp id ?_⟩
  rintro ⟨T, cap, Wd, f, e1, e2, h3⟩
  exact ⟨T, cap, Wd, f, e1, e2, h3.mono ht (Nat.le_refl _)⟩
end Go.Proofs.Ytfbjpgcgdhhfnaa
