/- The contracts of May and of the document's Steps and May. -/
import Derived.Test.YtnhekngmgjnodaaDoorSteps
import Derived.Test.YtnhekngmgjnodaaDoorStep
namespace Go.Proofs.YtnhekngmgjnodaaDoor
open Go.RowKit
open Pa
set_option linter.unusedVariables false
theorem spl_bytes (p : List Nat) (h : ∀ x ∈ p, x < 256) : ∀ t ∈ spl p, ∀ x ∈ t, x < 256 := by
  induction p with
  | nil => intro t ht; simp [spl] at ht; subst ht; simp
  | cons y r ih =>
    have ihr := ih (fun x hx => h x (by simp [hx]))
    intro t ht
    by_cases hy : y = 47
    · subst hy
      rw [spl_slash] at ht
      rcases List.mem_cons.1 ht with rfl | ht
      · simp
      · exact ihr t ht
    · cases e : spl r with
      | nil => exact absurd e (spl_ne r)
      | cons a b =>
        rw [spl_byte hy e] at ht
        rcases List.mem_cons.1 ht with rfl | ht
        · intro x hx
          rcases List.mem_cons.1 hx with rfl | hx
          · exact h _ (by simp)
          · exact ihr a (by rw [e]; simp) x hx
        · exact ihr t (by rw [e]; simp [ht])
/-- are all of them steps? -/
def allOk (l : List ByteArray) : Bool := l.all fun x => okS (bs x)
theorem allOk_spl (s : ByteArray) : allOk (splB s) = (spl (bs s)).all okS := by
  unfold allOk splB
  rw [List.all_map]
  rw [Bool.eq_iff_iff, List.all_eq_true, List.all_eq_true]
  have h := spl_bytes (bs s) (bs_lt s)
  constructor
  · intro hh x hx
    have := hh x hx
    simp only [Function.comp] at this
    rwa [bs_ofBs x (h x hx)] at this
  · intro hh x hx
    simp only [Function.comp]
    rw [bs_ofBs x (h x hx)]
    exact hh x hx
def mayB (s : ByteArray) : Bool := may (bs s)
theorem mayB_long {s : ByteArray} (h : 96 < s.size) : mayB s = false := by
  unfold mayB may
  rw [bs_length, decide_eq_false (by omega)]; rfl
theorem mayB_is {s : ByteArray} (h : s.size ≤ 96) : mayB s = allOk (splB s) := by
  unfold mayB may
  rw [bs_length, allOk_spl]
  by_cases h0 : bs s = []
  · rw [h0]; rfl
  · rw [decide_eq_true ⟨h0, h⟩, Bool.true_and]
theorem results_cell4 {fn : Func} {p : Tmp} (h : fn.results = #[.cell p 4]) (tmps : Array Value) (w : World) (g : Nat) (b : Bool) (hp : tmps.getD p undef = .pointer (some ⟨g, 0, none⟩)) (hc : w.cell? ⟨g, 0, none⟩ = some (.bool b)) : (results fn tmps).run Tryd.prog w = .ok (.bool b) w := by
  have hp' : tmps[p]?.getD undef = .pointer (some ⟨g, 0, none⟩) := by simpa using hp
  have u4 := Tryd.underlying4
  simp [results, h, hp', asAddr, go_sem, loadVar, hc]
set_option maxRecDepth 100000 in
set_option maxHeartbeats 8000000 in
theorem may_any (s : ByteArray) (w : World) (hs : s.size ≤ 4611686018427387903) :
    Calls Tryd.prog 14 #[.string s] w fun e w' => e = .returned (.bool (mayB s)) ∧ Below w.heap.size w w' := by
  have hsa := @Oper.semAt_some
  obtain ⟨q, hq⟩ : ∃ q, q = w.heap.size := ⟨_, rfl⟩
  obtain ⟨w2, hw2⟩ : ∃ w2, w2 = w.alloc (.cells #[.bool false] 4) := ⟨_, rfl⟩
  have m0 : Has w2 q #[.bool false] 4 := by rw [hw2]; exact Has.new w q _ _ hq
  have hb2 : Below q w w2 := by rw [hw2, hq]; exact (Below.refl _ _).alloc (Nat.le_refl _) _
  by_cases h0 : 96 < s.size
  · rw [mayB_long h0]
    have i0 : (96 : Int) < (s.size : Int) := by omega
    go_enter Tryd.func14, Tryd.ntmps14
    go_wp2_with fail
    exact bodyPost_ret (results_cell4 rfl _ _ w.heap.size false rfl (by rw [← hw2, ← hq]; exact m0.cell 0)) rfl ⟨rfl, by rw [← hw2, ← hq]; exact hb2⟩
  have i0 : ¬ (96 : Int) < (s.size : Int) := by omega
  rw [mayB_is (by omega)]
  refine (callsIn_wide (n := 6)).1 ?_
  refine callsIn_of_wp_marks Tryd.func14 rfl trivial ?_ rfl
  simp only [Tryd.ntmps14, List.size_toArray, List.length_cons, List.length_nil, Nat.reduceAdd, Nat.reduceSub, Array.replicate_succ, Array.replicate_zero, List.push_toArray, List.append_toArray, List.nil_append, List.cons_append]
  refine wpIn_wide.2 ?_
  go_wp2_with fail
  refine (split_any s _).mono ?_
  rintro e w1 ⟨rfl, rfl⟩
  go_wp2_with fail
  have hz2' : w2.heap.size = q + 1 := by rw [hw2, hq]; simp
  obtain ⟨k1, k2, k3, hs3, hb3⟩ := boxed3_has s w2 (q + 1) hz2'.symm
  rw [← hw2]
  obtain ⟨W3, hW3⟩ : ∃ W3, W3 = boxed3 s w2 := ⟨_, rfl⟩
  rw [← hW3] at k1 k2 k3 hs3 hb3 ⊢
  have k0 : Has W3 q #[.bool false] 4 := m0.below hb3 m0.lt
  have hB3 : Below q w W3 := hb2.trans (hb3.mono (by omega))
  simp only [← hq]
  have HQ := hid hq
  clear hW3 hq hw2 hb2 hb3 m0 hz2'
  refine wpIn_wide (n := 6).1 ?_
  refine rangeSplit (n := 6) (c1 := q + 2) (c2 := q + 1) (c3 := q + 3) (s := s) (by omega) (by omega) rfl rfl k2 k1 k3 (by omega) (by omega)
    (fun pre W => Has W q #[.bool false] 4 ∧ Below q w W ∧ allOk pre = true) (fun _ W => Has W q #[.bool false] 4 ∧ Below q w W ∧ allOk (splB s) = false)
    (fun o1 o2 => ⟨(k0.alloc _).alloc _, (hB3.alloc (by omega) _).alloc (by simp; omega) _, rfl⟩)
    (fun pre W k o o' hk ho hc h => ?_) (fun pre W k o o' hk ho hc h => ?_)
    (fun pre W r h => ?_)
    (fun x => { tmps := #[.string s, undef, .pointer (some ⟨q, 0, none⟩), .string x, .string s, .int .i64 (s.size : Int), .bool false, .string s, .func (.func 37) #[] #[.pointer (some ⟨q + 2, 0, none⟩), .pointer (some ⟨q + 1, 0, none⟩), .pointer (some ⟨q + 3, 0, none⟩)], .string x, undef, undef, undef], defers := [] }) ?assign ?body ?done ?stop
  · exact ⟨(show Has (W.putObj k o) q #[.bool false] 4 from (World.putObj_heap_other (by omega)).trans h.1), h.2.1.grown (grownBy_putObj' W k o) (by have := h.1.lt; omega) (fun j hj => by cases hj; omega), h.2.2⟩
  · exact ⟨(show Has (W.putObj k o) q #[.bool false] 4 from (World.putObj_heap_other (by omega)).trans h.1), h.2.1.grown (grownBy_putObj' W k o) (by have := h.1.lt; omega) (fun j hj => by cases hj; omega), h.2.2⟩
  · exact ⟨h.1.other _ _ (show q ≠ q + 1 by omega), h.2.1.setCell (p := ⟨q + 1, 0, none⟩) (show q ≤ q + 1 by omega) _, h.2.2⟩
  case assign =>
    intro l x W K hK
    gi_wp2
    exact hK
  case body =>
    rintro l pre x W ⟨hC, hB, hA⟩ hwz hpre
    have hxm := (prefix_len hpre).2
    have hxs := spl_each s x hxm
    have c0 : W.cell? ⟨q, 0, none⟩ = some (.bool false) := hC.cell 0
    have f0 := hC.frozen 0
    have l0 := hC.lt
    have C1 := mayStep_any x (by omega) W
    have HC := hid hC
    have HB := hid hB
    cases ho : okS (bs x) with
    | true =>
      have HA : Hid (allOk (pre ++ [x]) = true) := hid (by unfold allOk at hA ⊢; rw [List.all_append, hA]; simp [ho])
      rw [ho] at C1
      clear hC hpre ho hA hB hxm
      gi_wp2_with fail
      refine ⟨trivial, (CallsIn.inRound l (callsIn_wide.2 C1)).mono ?_⟩
      rintro e w1 ⟨rfl, hb⟩
      gi_wp2_with fail
      exact ⟨fun k hk => hb.block k (by omega), HC.out.below hb HC.out.lt, HB.out.trans (hb.mono (by omega)), HA.out⟩
    | false =>
      have HA : Hid (allOk (splB s) = false) := hid (by
        unfold allOk
        rw [List.all_eq_false]
        exact ⟨x, hxm, by rw [ho]; simp⟩)
      rw [ho] at C1
      clear hC hpre ho hA hB hxm
      gi_wp2_with fail
      refine ⟨trivial, (CallsIn.inRound l (callsIn_wide.2 C1)).mono ?_⟩
      rintro e w1 ⟨rfl, hb⟩
      have N0 := HC.out.below hb HC.out.lt
      have n0 := N0.cell 0
      have n1 := N0.frozen 0
      simp only [List.getElem?_toArray, List.getElem?_cons_zero] at n0
      gi_wp2_with fail
      refine ⟨fun k hk => ?_, N0.set 0 _, (HB.out.trans (hb.mono (by omega))).setCell (p := ⟨q, 0, none⟩) (Nat.le_refl _) _, HA.out⟩
      rw [Below.heap_setCell _ _ _ _ (show k ≠ q by omega)]
      exact hb.block k (by omega)
  case done =>
    rintro W ⟨hC, hB, hA⟩ hK
    have c1 : W.cell? ⟨q, 0, none⟩ = some (.bool false) := hC.cell 0
    have f1 := hC.frozen 0
    have HC := hid hC
    have HK := hid hK
    have HB := hid hB
    clear hC hK
    go_wp2_with fail
    have N1 : Has (W.setCell ⟨q, 0, none⟩ (.bool true)) q #[.bool true] 4 := HC.out.set 0 _
    refine ⟨by simp, .inl ⟨_, _, rfl, run_takeDeferred ((Below.heap_setCell _ _ _ _ (show W3.heap.size ≠ q by omega)).trans HK.out), ?_⟩⟩
    refine ⟨_, results_cell4 rfl _ _ q true rfl ?_, by rw [hA], ?_⟩
    · exact (show Has _ q #[.bool true] 4 from (World.putObj_heap_other (by omega)).trans N1).cell 0
    · rw [← HQ.out]
      exact (HB.out.setCell (p := ⟨q, 0, none⟩) (Nat.le_refl _) _).grown (grownBy_putObj' _ _ _) (by have := N1.lt; omega) (fun j hj => by cases hj; omega)
  case stop =>
    rintro pre W ⟨hC, hB, hA⟩ hK
    have HC := hid hC
    have HK := hid hK
    have HB := hid hB
    clear hC hK
    gi_wp2
    refine ⟨by simp, .inl ⟨_, _, rfl, run_takeDeferred HK.out, ?_⟩⟩
    refine ⟨_, results_cell4 rfl _ _ q false rfl ?_, by rw [hA], ?_⟩
    · exact (show Has _ q #[.bool false] 4 from (World.putObj_heap_other (by omega)).trans HC.out).cell 0
    · rw [← HQ.out]
      exact HB.out.grown (grownBy_putObj' _ _ _) (by have := HC.out.lt; omega) (fun j hj => by cases hj; omega)
end Go.Proofs.YtnhekngmgjnodaaDoor
