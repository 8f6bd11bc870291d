/- Vec and Mul of the program: what they tell, and how they are refused. -/
import Derived.Test.YtnihohcdamhidaaTurned
namespace Go.Proofs.Ytnihohcdamhidaa
open Go.RowKit
theorem vec_any (v vl : Value) (m : List (List Nat)) (l : List Nat) (w : World) (h1 : Mat w v m) (h2 : Row8 w vl l) :
    Calls Try.prog 12 #[v, vl] w fun e w' => ∃ r, e = .returned (.tuple #[r, .int .i64 (errV m l)]) ∧ NewRow w.heap.size w' r (ansV m l) ∧ Below w.heap.size w w' := by
  cases hmm : mayM m
  · have hE : errV m l = 4 := by simp [errV, okV, hmm]
    have hA : ansV m l = [] := by simp [ansV, okV, hmm]
    rw [hE, hA]
    go_enter Try.func12, Try.ntmps12
    go_wp2_with fail
    refine (may_any _ m w h1).mono ?_
    rintro e w1 ⟨rfl, rfl⟩
    rw [hmm]
    go_wp2_with fail
    go_ret2
    exact ⟨.slice none 0 0, rfl, NewRow.nil _ _, Below.refl _ _⟩
  · have hM := h1
    obtain ⟨f1, f2, f3, f4, f5⟩ := mayM_facts hmm
    obtain ⟨g, o, cap, rfl, hg, hrows⟩ := h1.may hmm
    obtain ⟨g0, o0, c0, hg0, k0, _⟩ := hrows 0 (by omega)
    simp only [Nat.add_zero] at k0
    have hL := h2
    obtain ⟨al, cl, rfl, _⟩ := h2
    by_cases hne : (m.getD 0 []).length = l.length
    · have hE : errV m l = 0 := by simp only [errV, okV, hmm, hne]; simp
      have hA : ansV m l = mulV m l := by simp only [ansV, okV, hmm, hne]; simp
      rw [hE, hA]
      rw [hne] at k0 f5
      generalize hn : m.length = n at *
      have bn : (0 : Int) < (n : Int) := by omega
      have ecc : ((l.length : Int) != (l.length : Int)) = false := by simp
      go_enter Try.func12, Try.ntmps12
      go_wp2_with fail
      refine (may_any _ m w hM).mono ?_
      rintro e w1 ⟨rfl, rfl⟩
      rw [hmm]
      go_wp2_with fail
      refine (sumOf_any w1).mono ?_
      rintro e w2 ⟨vf, rfl, hs, b2⟩
      go_wp2_with fail
      refine (sums_any _ _ vf m l w2 (hM.below b2) (hL.below b2) hs (by omega) (fun j hj => by rw [f5 j (by omega)]; exact Nat.le_refl _)).mono ?_
      rintro e w3 ⟨rfl, hh, b3⟩
      go_wp2_with fail
      go_ret2
      refine ⟨_, rfl, ⟨mulV_lt m l, by simp [mulV]; omega, .inr ⟨w2.heap.size, by simp [mulV, hn], b2.size, hh⟩⟩, belowCall b2 b3⟩
    · have hE : errV m l = 4 := by simp only [errV, okV, hmm, hne]; simp
      have hA : ansV m l = [] := by simp only [ansV, okV, hmm, hne]; simp
      rw [hE, hA]
      generalize (m.getD 0 []).length = c at *
      generalize hn : m.length = n at *
      have bn : (0 : Int) < (n : Int) := by omega
      have ecc : ((c : Int) != (l.length : Int)) = true := by simp; omega
      go_enter Try.func12, Try.ntmps12
      go_wp2_with fail
      refine (may_any _ m w hM).mono ?_
      rintro e w1 ⟨rfl, rfl⟩
      rw [hmm]
      go_wp2_with fail
      go_ret2
      exact ⟨.slice none 0 0, rfl, NewRow.nil _ _, Below.refl _ _⟩
def mulM (a b : List (List Nat)) : List (List Nat) := a.map fun r => (List.range (b.getD 0 []).length).map fun j => dot r (col b j)
def okM (a b : List (List Nat)) : Bool := mayM a && mayM b && decide ((a.getD 0 []).length = b.length)
def ansM (a b : List (List Nat)) : List (List Nat) := if okM a b then mulM a b else []
def errM (a b : List (List Nat)) : Int := if okM a b then 0 else 4
theorem dotTo_comm (a b : List Nat) (k : Nat) : dotTo a b k = dotTo b a k := by
  induction k with
  | zero => rfl
  | succ k ih => simp only [dotTo]; rw [ih, Fld.mul_comm]
theorem dot_comm (a b : List Nat) (h : a.length = b.length) : dot a b = dot b a := by unfold dot; rw [dotTo_comm, h]
theorem col_length (b : List (List Nat)) (j : Nat) : (col b j).length = b.length := by simp [col]
theorem mulM_row (a b : List (List Nat)) (k : Nat) (hk : k < a.length) (hl : (a.getD k []).length = b.length) : (transp b).map (fun r => dot r (a.getD k [])) = (mulM a b).getD k [] := by
  have e : (mulM a b).getD k [] = (List.range (b.getD 0 []).length).map fun j => dot (a.getD k []) (col b j) := by
    simp [mulM, List.getD_eq_getElem?_getD, hk]
  rw [e]
  unfold transp
  rw [List.map_map]
  apply List.map_congr_left
  intro j _
  exact dot_comm _ _ (by rw [col_length, hl])
theorem mulM_length (a b : List (List Nat)) : (mulM a b).length = a.length := by simp [mulM]
theorem mulM_row_length (a b : List (List Nat)) (k : Nat) (hk : k < a.length) : ((mulM a b).getD k []).length = (b.getD 0 []).length := by
  simp [mulM, List.getD_eq_getElem?_getD, hk]
theorem mulM_lt (a b : List (List Nat)) (k : Nat) : ∀ x ∈ (mulM a b).getD k [], x < 256 := by
  intro x hx
  rw [List.getD_eq_getElem?_getD] at hx
  cases hk : (mulM a b)[k]? with
  | none => rw [hk] at hx; simp at hx
  | some r =>
    rw [hk] at hx
    have hr := List.mem_of_getElem? hk
    simp only [mulM, List.mem_map] at hr
    obtain ⟨r', _, rfl⟩ := hr
    simp only [Option.getD_some, List.mem_map] at hx
    obtain ⟨j, _, rfl⟩ := hx
    exact dotTo_lt _ _ _
theorem take_getD {α : Type} (l : List α) (d : α) (k : Nat) (hk : k < l.length) : l.take k ++ [l.getD k d] = l.take (k + 1) := by
  rw [List.take_succ_eq_append_getElem hk, List.getD_eq_getElem?_getD, List.getElem?_eq_getElem hk]; rfl
set_option maxRecDepth 20000 in
theorem mul_t (va vb : Value) (a b : List (List Nat)) (w : World) (h1 : Mat w va a) (h2 : Mat w vb b) (ha : mayM a = true) (hb : mayM b = true) (hc : (a.getD 0 []).length = b.length) :
    Calls Try.prog 13 #[va, vb] w fun e w' => ∃ r, e = .returned (.tuple #[r, .int .i64 0]) ∧ NewMat w.heap.size w' r (mulM a b) ∧ Below w.heap.size w w' := by
  have hMa := h1
  have hMb := h2
  obtain ⟨f1, f2, f3, f4, f5⟩ := mayM_facts ha
  obtain ⟨g1, g2, g3, g4, g5⟩ := mayM_facts hb
  obtain ⟨g, o, cap, rfl, hg, hrows⟩ := h1.may ha
  obtain ⟨g0, o0, c0, hg0, k0, _⟩ := hrows 0 (by omega)
  obtain ⟨gb, ob, capb, rfl, hgb, _⟩ := h2.may hb
  simp only [Nat.add_zero] at k0
  have HR : Hid (∀ k, k < a.length → (transp b).map (fun r => dot r (a.getD k [])) = (mulM a b).getD k []) := fun k hk => mulM_row a b k hk (by rw [f5 k hk, hc])
  have HL : Hid ((mulM a b).length = a.length) := mulM_length a b
  have HT : (transp b).length = (b.getD 0 []).length := by simp [transp]
  have HTL : Hid (∀ j, j < (transp b).length → ((transp b).getD j []).length = b.length) := fun j hj => by rw [transp_grid]; rw [HT] at hj; exact grid_row_length _ _ _ _ hj
  have Hrow : Hid (∀ k, k < a.length → ((mulM a b).getD k []).length = (b.getD 0 []).length) := fun k hk => mulM_row_length a b k hk
  have HA : Hid (∀ W, Below w.heap.size w W → ∀ j, j < a.length → ∃ r, W.cell? ⟨g, o + j, none⟩ = some r ∧ Row8 W r (a.getD j []) ∧ (a.getD j []).length = b.length) := fun W hW j hj => by
    obtain ⟨_, _, _, e, _, _, k⟩ := hMa.some (by omega)
    simp only [Value.slice.injEq, Option.some.injEq, Addr.mk.injEq] at e
    obtain ⟨⟨rfl, rfl, _⟩, _, _⟩ := e
    obtain ⟨r, k1, k2⟩ := k j hj
    exact ⟨r, cell_below hW hg k1, k2.below hW, by rw [f5 j hj, hc]⟩
  rw [hc] at k0
  have bn : (0 : Int) < (a.length : Int) := by omega
  have ecc : ((b.length : Int) != (b.length : Int)) = false := by simp
  have hmk := makes_rows a.length (by omega)
  go_enter Try.func13, Try.ntmps13
  go_wp2_with fail
  refine (may_any _ a w hMa).mono ?_
  rintro e w1 ⟨rfl, rfl⟩
  rw [ha]
  go_wp2_with fail
  refine (may_any _ b w1 hMb).mono ?_
  rintro e w1 ⟨rfl, rfl⟩
  rw [hb]
  go_wp2_with fail
  refine (sumOf_any w1).mono ?_
  rintro e w2 ⟨vf, rfl, hs, b2⟩
  go_wp2_with fail
  refine (turned_any _ b w2 (hMb.below b2) hb).mono ?_
  rintro e w3 ⟨rfl, hR, b3⟩
  have B3 := belowCall b2 b3
  have hs3 := hs.below b3
  rw [← HT] at hR
  have HC : Hid (Mat w3 (.slice (some ⟨w2.heap.size, 0, none⟩) (transp b).length (transp b).length) (transp b) ∧ IsSum w3 vf) := ⟨hR.mat (by omega) (fun i hi => by rw [HTL.out i hi]; omega), hs3⟩
  rw [HT] at HC
  clear hR hs hs3 hMa hMb h1 h2
  generalize hna : a.length = n at *
  generalize hcb : (b.getD 0 []).length = cb at *
  go_wp2_with fail
  generalize hTB : w3.heap.size = T at *
  have b3T : w1.heap.size ≤ T := by rw [← hTB]; exact B3.size
  go_loopw [36] (fun vi wr => ∃ k : Nat, k ≤ n ∧ vi = .int .i64 (k : Int) ∧ Hid (RowsAt w1.heap.size T n wr ((mulM a b).take k)) ∧ Below T w3 wr) (fun vi _ => n - (intOf vi).toNat)
  case atStart => exact ⟨0, by omega, rfl, by
      have := RowsAt.start (w := w3) (n := n) (base := w1.heap.size) hTB.symm b3T
      simpa [Hid] using this, by rw [← hTB]; exact (Below.refl _ _).alloc (Nat.le_refl _) _⟩
  case round =>
    obtain ⟨k, hk, rfl, hr, hb⟩ := hrel
    clear hmk
    have hbw : Below w1.heap.size w1 wr := B3.trans (hb.mono b3T)
    by_cases hlt : k < n
    · obtain ⟨r, kr, hrw, hrl⟩ := HA.out wr hbw k hlt
      have HRW : Hid (Row8 wr r (a.getD k [])) := hrw
      have d0 : (k : Int) < (n : Int) := by omega
      clear hrw
      go_wp2_with fail
      refine (sums_any _ r vf (transp b) (a.getD k []) wr (HC.out.1.below (by rw [hTB]; exact hb)) HRW.out (HC.out.2.below (by rw [hTB]; exact hb)) (by omega) (fun j hj => by rw [HTL.out j hj, hrl]; exact Nat.le_refl _)).mono ?_
      rintro e w4 ⟨rfl, hh, b4⟩
      rw [HT]
      rw [HR.out k hlt] at hh
      have hbk : Hid (RowsAt w1.heap.size T n (w4.setCell ⟨T, k, none⟩ (.slice (some ⟨wr.heap.size, 0, none⟩) cb cb)) ((mulM a b).take (k + 1))) := by
        have hlk : ((mulM a b).take k).length = k := by rw [List.length_take, HL.out]; omega
        have := hr.out.push b4 (Nat.le_refl _) hbw.size hh (mulM_lt a b k) (by omega)
        rw [hlk, Hrow.out k hlt, take_getD _ _ _ (by rw [HL.out]; exact hlt)] at this
        exact this
      obtain ⟨q1, ⟨x, q2⟩, q3⟩ := (hr.out.below b4).top k hlt
      have hfin : Below T w3 (w4.setCell ⟨T, k, none⟩ (.slice (some ⟨wr.heap.size, 0, none⟩) cb cb)) := (hb.trans (b4.mono (Nat.le_trans (by omega) hb.size))).setCell (Nat.le_refl _) _
      go_wp2_with fail
      exact ⟨⟨k + 1, by omega, rfl, hbk, hfin⟩, by simp [intOf]; omega⟩
    · obtain rfl : k = n := by omega
      go_wp2_with fail
      go_ret2
      have hz : (mulM a b).take k = mulM a b := List.take_of_length_le (by rw [HL.out]; exact Nat.le_refl _)
      refine ⟨_, rfl, ⟨by rw [HL.out]; omega, fun i hi => by rw [HL.out] at hi; rw [Hrow.out i hi]; omega, .inr ⟨T, by rw [HL.out]; rfl, ?_⟩⟩, hbw⟩
      rw [HL.out]
      have := hr.out
      rw [hz] at this; exact this
theorem mul_f (va vb : Value) (a b : List (List Nat)) (w : World) (h1 : Mat w va a) (h2 : Mat w vb b) (h : okM a b = false) :
    Calls Try.prog 13 #[va, vb] w fun e w' => e = .returned (.tuple #[.slice none 0 0, .int .i64 4]) ∧ Below w.heap.size w w' := by
  cases ha : mayM a
  · go_enter Try.func13, Try.ntmps13
    go_wp2_with fail
    refine (may_any _ a w h1).mono ?_
    rintro e w1 ⟨rfl, rfl⟩
    rw [ha]
    go_wp2_with fail
    go_ret2
    exact ⟨rfl, Below.refl _ _⟩
  cases hb : mayM b
  · go_enter Try.func13, Try.ntmps13
    go_wp2_with fail
    refine (may_any _ a w h1).mono ?_
    rintro e w1 ⟨rfl, rfl⟩
    rw [ha]
    go_wp2_with fail
    refine (may_any _ b w1 h2).mono ?_
    rintro e w1 ⟨rfl, rfl⟩
    rw [hb]
    go_wp2_with fail
    go_ret2
    exact ⟨rfl, Below.refl _ _⟩
  have hne : (a.getD 0 []).length ≠ b.length := by
    unfold okM at h; rw [ha, hb] at h; simpa using h
  have hMa := h1
  have hMb := h2
  obtain ⟨f1, f2, f3, f4, f5⟩ := mayM_facts ha
  obtain ⟨g, o, cap, rfl, hg, hrows⟩ := h1.may ha
  obtain ⟨g0, o0, c0, hg0, k0, _⟩ := hrows 0 (by omega)
  obtain ⟨gb, ob, capb, rfl, hgb, _⟩ := h2.may hb
  simp only [Nat.add_zero] at k0
  generalize (a.getD 0 []).length = c at *
  have bn : (0 : Int) < (a.length : Int) := by omega
  have ecc : ((c : Int) != (b.length : Int)) = true := by simp; omega
  go_enter Try.func13, Try.ntmps13
  go_wp2_with fail
  refine (may_any _ a w hMa).mono ?_
  rintro e w1 ⟨rfl, rfl⟩
  rw [ha]
  go_wp2_with fail
  refine (may_any _ b w1 hMb).mono ?_
  rintro e w1 ⟨rfl, rfl⟩
  rw [hb]
  go_wp2_with fail
  go_ret2
  exact ⟨rfl, Below.refl _ _⟩
theorem mul_any' (va vb : Value) (a b : List (List Nat)) (w : World) (h1 : Mat w va a) (h2 : Mat w vb b) :
    Calls Try.prog 13 #[va, vb] w fun e w' => ∃ r, e = .returned (.tuple #[r, .int .i64 (errM a b)]) ∧ NewMat w.heap.size w' r (ansM a b) ∧ Below w.heap.size w w' := by
  cases h : okM a b
  · refine (mul_f va vb a b w h1 h2 h).mono ?_
    rintro e w1 ⟨rfl, b1⟩
    exact ⟨.slice none 0 0, by simp [errM, h], by simpa [ansM, h] using NewMat.nil _ w1, b1⟩
  · have h' := h
    unfold okM at h'
    simp only [Bool.and_eq_true, decide_eq_true_eq] at h'
    refine (mul_t va vb a b w h1 h2 h'.1.1 h'.1.2 h'.2).mono ?_
    rintro e w1 ⟨r, rfl, hr, b1⟩
    exact ⟨r, by simp [errM, h], by simpa [ansM, h] using hr, b1⟩
end Go.Proofs.Ytnihohcdamhidaa
