/- The contract of the program's May. -/
import Derived.Test.YtknddbmnciodaaaGreatApart
import Derived.Test.YtknddbmnciodaaaGreatRet
namespace Go.Proofs.YtknddbmnciodaaaGreat
open Go.RowKit Go.Lib Go.Sort
open Ix
set_option linter.unusedVariables false
theorem contS_any (C : List ByteArray) (A : Option Addr) (c : Nat) (hn : C.length ≤ 100000) (w : World) (hC : Tx w A C) :
    Calls Tryz.prog 27 #[.slice A C.length c, .func (.func 28) #[] #[]] w fun e w' => e = .returned (.bool (C.any fun s => decide (s.size ≠ 32))) ∧ RowKit.Below w.heap.size w w' := by
  by_cases hnil : C = []
  · subst hnil
    refine (AnyE.slices_ContainsFunc_empty Tryz.contS A c (.func (.func 28) #[] #[]) w).mono ?_
    rintro e w' ⟨rfl, rfl⟩
    exact ⟨rfl, RowKit.Below.refl _ _⟩
  · obtain ⟨g, o, rfl, hg, _⟩ := hC 0 (List.length_pos_iff.2 hnil)
    have eg : ∀ args w, (callFunc 28 args).run Tryz.prog w = .ok (.enter 28 args) w := enters_of Tryz.func28 (by kernel_rfl) rfl
    have hp : PredAt Tryz.prog 28 #[] Value.string (fun s : ByteArray => decide (s.size ≠ 32)) w := fun W x _ => (noDigest_any x W).mono fun e w' ⟨h1, h2⟩ => ⟨h1, 0, h2⟩
    have hc : ∀ j, j < C.length → w.cell? ⟨g, o + j, none⟩ = some (.string C[j]!) := fun j hj => by
      obtain ⟨g', o', e, _, h⟩ := hC j hj
      obtain ⟨rfl, rfl⟩ : g' = g ∧ o' = o := by simp at e; exact ⟨e.1.symm, e.2.symm⟩
      rw [h, List.getD_eq_getElem?_getD, List.getElem?_eq_getElem hj, getElem!_pos C j hj]; rfl
    have hcon := AnyE.slices_ContainsFunc Tryz.contS Value.string (fun s : ByteArray => decide (s.size ≠ 32)) 28 #[] eg g o C.length c C w hp (Nat.le_refl _) (by omega) hc
    rw [List.take_of_length_le (Nat.le_refl _)] at hcon
    refine hcon.mono ?_
    rintro e w' ⟨rfl, q, rfl⟩
    exact ⟨rfl, below_draws' (RowKit.Below.refl _ _) q⟩
theorem idxZ_any (A : Option Addr) (c : Nat) (fv : Value) (w : World) : Calls Tryz.prog 53 #[.slice A 0 c, fv] w fun e w' => e = .returned (.int .i64 (-1)) ∧ w' = w := by
  go_enter Tryz.func53, Tryz.ntmps53
  go_wp2
  refine wp_loop_rounds 1 ?_
  rw [rounds_succ]
  go_wp2
  go_ret
  exact ⟨rfl, rfl⟩
theorem contZ_any (A : Option Addr) (c : Nat) (fv : Value) (w : World) : Calls Tryz.prog 30 #[.slice A 0 c, fv] w fun e w' => e = .returned (.bool false) ∧ w' = w := by
  have C1 := fun W => idxZ_any A c fv W
  go_enter Tryz.func30, Tryz.ntmps30
  go_wp2_with (go_at_call 53; refine (C1 _).mono ?_; rintro e w' ⟨rfl, rfl⟩)
  go_ret
  exact ⟨rfl, rfl⟩
theorem contP_any (P : List Pl) (A : Option Addr) (c : Nat) (hn : P.length ≤ 100000) (w : World) (hP : Ps w A P) :
    Calls Tryz.prog 30 #[.slice A P.length c, .func (.func 31) #[] #[]] w fun e w' => e = .returned (.bool (P.any fun p => !decide (mayP p))) ∧ RowKit.Below w.heap.size w w' := by
  by_cases hnil : P = []
  · subst hnil
    refine (contZ_any A c (.func (.func 31) #[] #[]) w).mono ?_
    rintro e w' ⟨rfl, rfl⟩
    exact ⟨rfl, RowKit.Below.refl _ _⟩
  · obtain ⟨g, o, rfl, hg, _⟩ := hP 0 (List.length_pos_iff.2 hnil)
    have eg : ∀ args w, (callFunc 31 args).run Tryz.prog w = .ok (.enter 31 args) w := enters_of Tryz.func31 (by kernel_rfl) rfl
    have hp : PredBelow Tryz.prog 31 #[] (fun x => .agg (pl3 x).toArray) (fun p : Pl => !decide (mayP p)) w := fun W x hb => (noPlace_any x W).mono fun e w' ⟨h1, h2⟩ => ⟨h1, hb.trans (h2.mono hb.size)⟩
    have hc : ∀ j, j < P.length → ∀ i v, (pl3 P[j]!)[i]? = some v → w.cell? ⟨g, o + j * 3 + i, none⟩ = some v := fun j hj i v hv => by
      have h1 := ps_news hP (j * 3 + i) v (flat_get pl3 3 (fun _ => rfl) P j P[j]! (by rw [getElem!_pos P j hj]; exact List.getElem?_eq_getElem hj) i v hv)
      rwa [← Nat.add_assoc] at h1
    have hcon := AnyQ.slices_ContainsFunc Tryz.contP 3 Tryz.isAgg24 Tryz.sizeOf24 pl3 (fun _ => rfl) (fun p : Pl => !decide (mayP p)) 31 #[] eg g o P.length c P w hp (Nat.le_refl _) (by omega) hg hc
    rw [List.take_of_length_le (Nat.le_refl _)] at hcon
    exact hcon
/-- what may be, as the program asks it -/
theorem may_parts (C : List ByteArray) (P : List Pl) : mayS C P = (decide (C.length = P.length) && (decide (C.length ≤ 400) && (!(C.any fun s => decide (s.size ≠ 32)) && (riseN C C.length && (!(P.any fun p => !decide (mayP p)) && !comN P P.length))))) := by
  unfold mayS
  rw [Bool.and_assoc, Bool.and_assoc]
  by_cases hl : C.length = P.length
  · rw [decide_eq_true hl, Bool.true_and, Bool.true_and]
    congr 1
    rw [← Bool.and_assoc, ← Bool.and_assoc]
    congr 1
    rw [Bool.eq_iff_iff, okN_iff]
    have hr : riseN C C.length = true ↔ ∀ i, i < C.length → i = 0 ∨ lt (C.getD (i - 1) ⟨#[]⟩) (C.getD i ⟨#[]⟩) = true := by
      have key : ∀ n, riseN C n = true ↔ ∀ i, i < n → i = 0 ∨ lt (C.getD (i - 1) ⟨#[]⟩) (C.getD i ⟨#[]⟩) = true := by
        intro n
        induction n with
        | zero => simp [riseN]
        | succ n ih =>
          rw [riseN, Bool.and_eq_true, ih, Bool.or_eq_true, decide_eq_true_eq]
          constructor
          · rintro ⟨h1, h2⟩ i hi
            by_cases e : i = n
            · subst e; exact h2
            · exact h1 i (by omega)
          · intro h
            exact ⟨fun i hi => h i (by omega), h n (by omega)⟩
      exact key _
    have hs : (!(C.any fun s => decide (s.size ≠ 32))) = true ↔ ∀ i, i < C.length → (C.getD i ⟨#[]⟩).size = 32 := by
      rw [Bool.not_eq_true', List.any_eq_false]
      constructor
      · intro h i hi
        have := h _ (getD_mem hi)
        simpa using this
      · intro h s hs
        obtain ⟨i, hi, rfl⟩ := List.mem_iff_getElem.1 hs
        have := h i hi
        rw [List.getD_eq_getElem?_getD, List.getElem?_eq_getElem hi] at this
        simpa using this
    have hp : (!(P.any fun p => !decide (mayP p))) = true ↔ ∀ i, i < C.length → mayP (P.getD i default) := by
      rw [Bool.not_eq_true', List.any_eq_false]
      constructor
      · intro h i hi
        have := h _ (getP_mem (by omega : i < P.length))
        simpa using this
      · intro h s hs
        obtain ⟨i, hi, rfl⟩ := List.mem_iff_getElem.1 hs
        have := h i (by omega)
        rw [List.getD_eq_getElem?_getD, List.getElem?_eq_getElem hi] at this
        simpa using this
    rw [Bool.and_eq_true, Bool.and_eq_true, hr, hs, hp]
    unfold ok1
    simp only [Bool.and_eq_true, Bool.or_eq_true, decide_eq_true_eq]
    constructor
    · intro h
      exact ⟨⟨fun i hi => (h i hi).1.1, fun i hi => (h i hi).1.2⟩, fun i hi => (h i hi).2⟩
    · rintro ⟨⟨h1, h2⟩, h3⟩ i hi
      exact ⟨⟨h1 i hi, h2 i hi⟩, h3 i hi⟩
  · rw [decide_eq_false hl, Bool.false_and, Bool.false_and]
/-- a state that was handed in, in its box -/
theorem box_state {w : World} (s : St) (a0 a1 a2 : Option Addr) (c0 c1 c2 : Nat) : ∃ w1, w1 = w.alloc (.cells (stV s a0 a1 a2 c0 c1 c2) 35) ∧ RowKit.Below w.heap.size w w1 ∧ Has w1 w.heap.size (stV s a0 a1 a2 c0 c1 c2) 35 :=
  ⟨_, rfl, (RowKit.Below.refl _ w).alloc (Nat.le_refl _) _, Has.new w _ _ _ rfl⟩
theorem any_false {P : List Pl} (h : (P.any fun p => !decide (mayP p)) = false) : ∀ p ∈ P, mayP p := fun p hp => by
  have := List.any_eq_false.1 h p hp
  simpa using this
set_option maxHeartbeats 8000000 in
theorem may_any (s : St) (a0 a1 a2 : Option Addr) (c0 c1 c2 : Nat) (hn : s.C.length ≤ 100000) (hn2 : s.P.length ≤ 100000) (w : World) (hC : Tx w a1 s.C) (hP : Ps w a2 s.P) :
    Calls Tryz.prog 9 #[.agg (stV s a0 a1 a2 c0 c1 c2)] w fun e w' => e = .returned (.bool (mayS s.C s.P)) ∧ RowKit.Below w.heap.size w w' := by
  obtain ⟨w1, hw1, hB, n1⟩ := box_state (w := w) s a0 a1 a2 c0 c1 c2
  rw [may_parts]
  have HK := hid (fun W (hb : RowKit.Below w1.heap.size w1 W) => (show W.cell? ⟨w.heap.size, 4, none⟩ = some (.slice a1 s.C.length c1) ∧ W.cell? ⟨w.heap.size, 5, none⟩ = some (.slice a2 s.P.length c2) from ⟨by rw [(n1.below hb n1.lt).cell]; rfl, by rw [(n1.below hb n1.lt).cell]; rfl⟩))
  have HC1 := hid (fun W (hb : RowKit.Below w1.heap.size w1 W) => contS_any s.C a1 c1 hn W ((hC.below hB).below hb))
  have HC2 := hid (fun W (hb : RowKit.Below w1.heap.size w1 W) => rise_any s.C a1 c1 hn W ((hC.below hB).below hb))
  have HC3 := hid (fun W (hb : RowKit.Below w1.heap.size w1 W) => contP_any s.P a2 c2 hn2 W ((hP.below hB).below hb))
  have HC4 := hid (fun (hm : (s.P.any fun p => !decide (mayP p)) = false) W (hb : RowKit.Below w1.heap.size w1 W) => apart_any s.P a2 c2 hn2 (any_false hm) W ((hP.below hB).below hb))
  have HB := hid hB
  obtain ⟨k0, k1⟩ := HK.out w1 (RowKit.Below.refl _ _)
  clear hB n1 hC hP
  show Calls Tryz.prog 9 #[.agg #[.int .i64 s.k, .int .i64 s.n, .int .i64 s.nx, .slice a0 s.sn.length c0, .slice a1 s.C.length c1, .slice a2 s.P.length c2]] w _
  change w1 = w.alloc (.cells #[.int .i64 s.k, .int .i64 s.n, .int .i64 s.nx, .slice a0 s.sn.length c0, .slice a1 s.C.length c1, .slice a2 s.P.length c2] 35) at hw1
  generalize (s.C.any fun s => decide (s.size ≠ 32)) = x1 at *
  generalize riseN s.C s.C.length = x2 at *
  generalize (s.P.any fun p => !decide (mayP p)) = x3 at *
  generalize comN s.P s.P.length = x4 at *
  generalize s.C.length = n at *
  generalize s.P.length = m at *
  generalize s.sn.length = r at *
  generalize s.k = k at *
  generalize s.n = kn at *
  generalize s.nx = kx at *
  go_enter Tryz.func9, Tryz.ntmps9
  have q1 : ((n : Int) == (m : Int)) = decide (n = m) := by rw [Bool.eq_iff_iff, beq_iff_eq, decide_eq_true_eq]; omega
  by_cases h1 : n = m
  · subst h1
    rw [decide_eq_true rfl] at q1 ⊢
    by_cases h2 : n ≤ 400
    · rw [decide_eq_true h2]
      have i2 : (n : Int) ≤ 400 := by omega
      clear h2
      go_wp2_with fail
      rw [← hw1]
      clear hw1
      refine (HC1.out _ (RowKit.Below.refl _ _)).mono ?_
      rintro e w2 ⟨rfl, b2⟩
      have B2 := hid b2
      obtain ⟨k2, k3⟩ := HK.out w2 B2.out
      clear k0 k1 b2 HC1
      cases x1 with
      | true =>
        go_wp2_with fail
        go_ret
        exact ⟨rfl, HB.out.trans (B2.out.mono HB.out.size)⟩
      | false =>
        go_wp2_with fail
        refine (HC2.out _ B2.out).mono ?_
        rintro e w3 ⟨rfl, b3⟩
        have B3 := hid (B2.out.trans (b3.mono B2.out.size))
        obtain ⟨k4, k5⟩ := HK.out w3 B3.out
        clear k2 k3 b3 HC2 B2
        cases x2 with
        | false =>
          go_wp2_with fail
          go_ret
          exact ⟨rfl, HB.out.trans (B3.out.mono HB.out.size)⟩
        | true =>
          go_wp2_with fail
          refine (HC3.out _ B3.out).mono ?_
          rintro e w4 ⟨rfl, b4⟩
          have B4 := hid (B3.out.trans (b4.mono B3.out.size))
          obtain ⟨k6, k7⟩ := HK.out w4 B4.out
          clear k4 k5 b4 HC3 B3
          cases x3 with
          | true =>
            go_wp2_with fail
            go_ret
            exact ⟨rfl, HB.out.trans (B4.out.mono HB.out.size)⟩
          | false =>
            go_wp2_with fail
            refine (HC4.out trivial _ B4.out).mono ?_
            rintro e w5 ⟨rfl, b5⟩
            have B5 := hid (B4.out.trans (b5.mono B4.out.size))
            clear k6 k7 b5 HC4 B4
            go_wp2_with fail
            go_ret
            exact ⟨rfl, HB.out.trans (B5.out.mono HB.out.size)⟩
    · rw [decide_eq_false h2]
      have i2 : ¬ (n : Int) ≤ 400 := by omega
      have i3 : decide (n ≤ 400) = false := decide_eq_false h2
      clear h2
      go_wp2_with fail
      rw [← hw1]
      go_ret
      exact ⟨rfl, HB.out⟩
  · rw [decide_eq_false h1] at q1 ⊢
    clear h1
    go_wp2_with fail
    rw [← hw1]
    go_ret
    exact ⟨rfl, HB.out⟩
end Go.Proofs.YtknddbmnciodaaaGreat

