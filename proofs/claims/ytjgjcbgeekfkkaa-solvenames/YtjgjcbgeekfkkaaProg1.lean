/- The program's Down and Rank. -/
import Derived.Test.YtjgjcbgeekfkkaaStep
namespace Go.Proofs.Ytjgjcbgeekfkkaa
open Go.RowKit
theorem hid {p : Prop} (h : p) : Hid p := h
theorem mayM_facts {m : List (List Nat)} (h : mayM m = true) : 1 ≤ m.length ∧ m.length ≤ 255 ∧ 1 ≤ (m.getD 0 []).length ∧ (m.getD 0 []).length ≤ 255 ∧ ∀ j, j < m.length → (m.getD j []).length = (m.getD 0 []).length := of_decide_eq_true h
theorem Mat.rows {w : World} {v : Value} {m : List (List Nat)} (h : Mat w v m) : ∀ i x, x ∈ m.getD i [] → x < 256 := fun i x hx => by
  by_cases hi : i < m.length
  · obtain ⟨_, _, _, _, _, _, k⟩ := h.some (by omega)
    obtain ⟨r, _, hr⟩ := k i hi
    exact hr.choose_spec.choose_spec.2.2.1 x hx
  · rw [List.getD_eq_getElem?_getD, List.getElem?_eq_none (by omega)] at hx
    simp at hx
theorem Mat.byt {w : World} {v : Value} {m : List (List Nat)} (h : Mat w v m) : El.Byt (at2 m) := fun i j => by
  unfold at2
  exact getD_lt (h.rows i) j
def sqM (m : List (List Nat)) : Bool := mayM m && decide (m.length = (m.getD 0 []).length)
/-- a matrix that may be: where it lies -/
theorem Mat.first {w : World} {v : Value} {m : List (List Nat)} (h : Mat w v m) (hm : mayM m = true) : ∃ g o cap, v = .slice (.some ⟨g, o, none⟩) m.length cap ∧ g < w.heap.size ∧ (∃ a0 c0, w.cell? ⟨g, o, none⟩ = .some (.slice a0 (m.getD 0 []).length c0)) ∧
    ∀ j, j < m.length → ∃ r, w.cell? ⟨g, o + j, none⟩ = .some r ∧ Row8 w r (m.getD j []) := by
  obtain ⟨f1, f2, f3, f4, f5⟩ := mayM_facts hm
  obtain ⟨g, o, cap, h1, h2, h3, h4⟩ := h.some (by omega)
  obtain ⟨r, h5, h6⟩ := h4 0 (by omega)
  obtain ⟨a0, c0, rfl, _⟩ := h6
  exact ⟨g, o, cap, h1, h3, ⟨a0, c0, h5⟩, h4⟩
theorem maySquare_any (v : Value) (m : List (List Nat)) (w : World) (h : Mat w v m) :
    Calls Try.prog 22 #[v] w fun e w' => e = .returned (.bool (sqM m)) ∧ w' = w := by
  have hM := h
  cases hm : mayM m with
  | false =>
    have hr : sqM m = false := by unfold sqM; rw [hm]; rfl
    rw [hr]
    go_enter Try.func22, Try.ntmps22
    go_wp2_with fail
    refine (may_any v m w hM).mono ?_
    rintro e w1 ⟨rfl, rfl⟩
    rw [hm]
    go_wp2_with fail
    go_ret
    exact ⟨rfl, rfl⟩
  | true =>
    obtain ⟨f1, f2, f3, f4, f5⟩ := mayM_facts hm
    obtain ⟨g, o, cap, rfl, hg, ⟨a0, c0, k0⟩, _⟩ := h.first hm
    have hr : sqM m = decide (m.length = (m.getD 0 []).length) := by unfold sqM; rw [hm]; rfl
    rw [hr]
    clear hr f5
    generalize (m.getD 0 []).length = n0 at *
    generalize hn : m.length = n at *
    have b0 : (0 : Int) < (n : Int) := by omega
    have e0 : Hid (((n : Int) == (n0 : Int)) = decide (n = n0)) := beq_nat n n0
    go_enter Try.func22, Try.ntmps22
    go_wp2_with fail
    refine (may_any _ m w hM).mono ?_
    rintro e w1 ⟨rfl, rfl⟩
    rw [hm]
    go_wp2_with fail
    go_ret
    exact ⟨by rw [← e0.out]; rfl, rfl⟩
theorem getD_left (l l' : List Nat) (d j : Nat) (h : j < l.length) : (l ++ l').getD j d = l.getD j d := by
  rw [List.getD_eq_getElem?_getD, List.getElem?_append_left h, ← List.getD_eq_getElem?_getD]
theorem getD_right (l l' : List Nat) (d j : Nat) (h : l.length ≤ j) : (l ++ l').getD j d = l'.getD (j - l.length) d := by
  rw [List.getD_eq_getElem?_getD, List.getElem?_append_right h, ← List.getD_eq_getElem?_getD]
def upTo (k W : Nat) : Nat → Nat := fun i => if i < k then W else 0
set_option maxRecDepth 20000 in
theorem copied_any (v : Value) (m : List (List Nat)) (w : World) (h : Mat w v m) (hm : mayM m = true) :
    Calls Try.prog 27 #[v] w fun e w' => e = .returned (.slice (some ⟨w.heap.size, 0, none⟩) m.length m.length) ∧ MW w.heap.size w'.heap.size w.heap.size m.length (fun _ => (m.getD 0 []).length) (at2 m) w' ∧ Below w.heap.size w w' := by
  obtain ⟨f1, f2, f3, f4, f5⟩ := mayM_facts hm
  obtain ⟨g, o, cap, rfl, hg, _, hrows⟩ := h.first hm
  have HX : Hid (∀ i x, x ∈ m.getD i [] → x < 256) := h.rows
  have F5 : Hid (∀ j, j < m.length → (m.getD j []).length = (m.getD 0 []).length) := f5
  have RW : Hid (∀ j, j < m.length → ∃ r, w.cell? ⟨g, o + j, none⟩ = some r ∧ Row8 w r (m.getD j [])) := hrows
  have HF : Hid (∀ i, at2 m i = fun j => (m.getD i []).getD j 0) := fun i => rfl
  clear f5 hrows h
  generalize hn0 : (m.getD 0 []).length = n0 at *
  generalize hn : m.length = n at *
  have hmk := makes_rows n (by omega)
  go_enter Try.func27, Try.ntmps27
  go_wp2_with fail
  go_loopw [11] (fun vi wr => ∃ k : Nat, k ≤ n ∧ vi = .int .i64 (k : Int) ∧ Hid (∃ top, MW w.heap.size top w.heap.size n (upTo k n0) (at2 m) wr) ∧ Below w.heap.size w wr) (fun vi _ => n - (intOf vi).toNat)
  case atStart => exact ⟨0, by omega, rfl, ⟨_, (MW.start (at2 m)).congr (fun i _ => by unfold upTo; rw [if_neg (by omega)]) (fun _ _ _ _ => rfl)⟩, (Below.refl _ _).alloc (Nat.le_refl _) _⟩
  case round =>
    obtain ⟨k, hk, rfl, hM, hb⟩ := hrel
    clear hmk
    by_cases hlt : k < n
    · obtain ⟨r, c, hr⟩ := RW.out k hlt
      have c1 := cell_below hb hg c
      have hr1 : Hid (Row8 wr r (m.getD k [])) := hr.below hb
      have hl := F5.out k hlt
      have d0 : (k : Int) < (n : Int) := by omega
      clear c hr
      go_wp2_with fail
      refine (clone_any r (m.getD k []) wr hr1.out (by omega) (by omega)).mono ?_
      rintro e w1 ⟨r1, rfl, ho, b1⟩
      obtain ⟨top, hM'⟩ := hM.out
      obtain ⟨t1, ⟨x, t2⟩, t3⟩ := (hM'.below b1).top k hlt
      have HP : Hid (∃ top, MW w.heap.size top w.heap.size n (upTo (k + 1) n0) (at2 m) (w1.setCell ⟨w.heap.size, k, none⟩ r1)) := ⟨_, hM'.put b1 k hlt ho (HX.out k) (by omega) (by unfold upTo; rw [if_pos (by omega), hl]) (fun j _ => by rw [HF.out]) (fun i hi hik => by
        refine ⟨?_, fun j _ => rfl⟩
        unfold upTo
        by_cases h1 : i < k
        · rw [if_pos h1, if_pos (by omega)]
        · rw [if_neg h1, if_neg (by omega)])⟩
      have hfin : Below w.heap.size w (w1.setCell ⟨w.heap.size, k, none⟩ r1) := (belowCall hb b1).setCell (Nat.le_refl _) _
      obtain ⟨ax, cx, hrf, _⟩ := ho.form (HX.out k)
      clear hM hM' ho c1
      rw [hl] at hrf
      subst hrf
      go_wp2_with fail
      exact ⟨⟨k + 1, by omega, rfl, HP, hfin⟩, by simp [intOf]; omega⟩
    · obtain rfl : k = n := by omega
      obtain ⟨top, hM'⟩ := hM.out
      have HE : Hid (MW w.heap.size wr.heap.size w.heap.size k (fun _ => n0) (at2 m) wr) := (hM'.mono hM'.2.2.1 (Nat.le_refl _)).congr (fun i hi => by unfold upTo; rw [if_pos hi]) (fun _ _ _ _ => rfl)
      clear hM hM'
      go_wp2_with fail
      go_ret
      exact ⟨rfl, HE.out, hb⟩
/-- what Down tells, and Rank -/
def stepsM (m : List (List Nat)) : El.M × Nat := El.steps m.length (at2 m) (m.getD 0 []).length
def ansD (m : List (List Nat)) : List (List Nat) := if mayM m then rowsOf m.length (fun _ => (m.getD 0 []).length) (stepsM m).1 else []
def ansK (m : List (List Nat)) : Nat := if mayM m then (stepsM m).2 else 0
def errD (m : List (List Nat)) : Int := if mayM m then 0 else 4
theorem down_any (v : Value) (m : List (List Nat)) (w : World) (h : Mat w v m) :
    Calls Try.prog 11 #[v] w fun e w' => ∃ r, e = .returned (.tuple #[r, .int .i64 (errD m)]) ∧ NewM w.heap.size w'.heap.size w' r (ansD m) ∧ Below w.heap.size w w' := by
  have hM := h
  cases hm : mayM m with
  | false =>
    have e1 : Hid (errD m = 4 ∧ ansD m = []) := by unfold Hid errD ansD; rw [hm]; exact ⟨rfl, rfl⟩
    go_enter Try.func11, Try.ntmps11
    go_wp2_with fail
    refine (may_any v m w hM).mono ?_
    rintro e w1 ⟨rfl, rfl⟩
    rw [hm]
    go_wp2_with fail
    go_ret2
    exact ⟨_, by rw [e1.out.1]; rfl, by rw [e1.out.2]; exact NewM.nil _ _ _, Below.refl _ _⟩
  | true =>
    have e1 : Hid (errD m = 0 ∧ ansD m = rowsOf m.length (fun _ => (m.getD 0 []).length) (El.steps m.length (at2 m) (m.getD 0 []).length).1) := by unfold Hid errD ansD; rw [hm]; exact ⟨rfl, rfl⟩
    obtain ⟨f1, f2, f3, f4, f5⟩ := mayM_facts hm
    obtain ⟨g, o, cap, rfl, hg, ⟨a0, c0, k0⟩, _⟩ := h.first hm
    have hby := h.byt
    have hcp := copied_any _ m w hM hm
    clear f5
    generalize hn0 : (m.getD 0 []).length = n0 at *
    generalize hn : m.length = n at *
    have b0 : (0 : Int) < (n : Int) := by omega
    go_enter Try.func11, Try.ntmps11
    go_wp2_with fail
    refine (may_any _ m w hM).mono ?_
    rintro e w1 ⟨rfl, rfl⟩
    rw [hm]
    go_wp2_with fail
    refine hcp.mono ?_
    rintro e w2 ⟨rfl, hW2, b2⟩
    have k0' := cell_below b2 hg k0
    have HW2 := hid hW2
    clear hW2 hcp
    go_wp2_with fail
    refine (stepDown_any _ _ n n0 n0 (at2 m) w2 HW2.out hby (by omega) (by omega) (Nat.le_refl _)).mono ?_
    rintro e w3 ⟨rfl, hW3, b3⟩
    have HW3 := hid hW3
    clear hW3
    go_wp2_with fail
    go_ret2
    have hs := HW3.out.2.2.1
    refine ⟨_, by rw [e1.out.1]; rfl, ?_, b2.trans b3⟩
    rw [e1.out.2]
    have hl : (rowsOf n (fun _ => n0) (El.steps n (at2 m) n0).1).length = n := rowsOf_length _ _ _
    refine ⟨by rw [hl]; omega, .inr ⟨_, _, fun _ => n0, (El.steps n (at2 m) n0).1, by rw [hl]; rfl, by rw [hl], ?_⟩⟩
    rw [hl]
    exact HW3.out.mono hs (Nat.le_refl _)
theorem rank_any (v : Value) (m : List (List Nat)) (w : World) (h : Mat w v m) :
    Calls Try.prog 13 #[v] w fun e w' => e = .returned (.tuple #[.int .i64 ((ansK m : Nat) : Int), .int .i64 (errD m)]) ∧ Below w.heap.size w w' := by
  have hM := h
  cases hm : mayM m with
  | false =>
    have e1 : Hid (errD m = 4 ∧ ansK m = 0) := by unfold Hid errD ansK; rw [hm]; exact ⟨rfl, rfl⟩
    go_enter Try.func13, Try.ntmps13
    go_wp2_with fail
    refine (may_any v m w hM).mono ?_
    rintro e w1 ⟨rfl, rfl⟩
    rw [hm]
    go_wp2_with fail
    go_ret2
    exact ⟨by rw [e1.out.1, e1.out.2]; rfl, Below.refl _ _⟩
  | true =>
    have e1 : Hid (errD m = 0 ∧ ansK m = (El.steps m.length (at2 m) (m.getD 0 []).length).2) := by unfold Hid errD ansK; rw [hm]; exact ⟨rfl, rfl⟩
    obtain ⟨f1, f2, f3, f4, f5⟩ := mayM_facts hm
    obtain ⟨g, o, cap, rfl, hg, ⟨a0, c0, k0⟩, _⟩ := h.first hm
    have hby := h.byt
    have hcp : Hid (∀ W, Below w.heap.size w W → Calls Try.prog 27 #[.slice (some ⟨g, o, none⟩) m.length cap] W fun e w' => e = .returned (.slice (some ⟨W.heap.size, 0, none⟩) m.length m.length) ∧ MW W.heap.size w'.heap.size W.heap.size m.length (fun _ => (m.getD 0 []).length) (at2 m) w' ∧ Below W.heap.size W w') := fun W hb => copied_any _ m W (hM.below hb) hm
    clear f5
    generalize hn0 : (m.getD 0 []).length = n0 at *
    generalize hn : m.length = n at *
    have b0 : (0 : Int) < (n : Int) := by omega
    have BR := Below.refl w.heap.size w
    have HBY := hid hby
    go_enter Try.func13, Try.ntmps13
    go_wp2_with fail
    refine (may_any _ m w hM).mono ?_
    rintro e w1 ⟨rfl, rfl⟩
    rw [hm]
    go_wp2_with fail
    have b1 : (0 : Nat) < n := by omega
    clear hm hM h hn hn0 hby
    go_region_held3 (fun W => Below w1.heap.size w1 W ∧ W.cell? ⟨g, o, none⟩ = some (.slice a0 n0 c0)) (first | exact ⟨BR.drew, cell_below BR.drew hg k0⟩ | exact ⟨hB2, cell_below hB2 hg k0⟩ | exact ⟨hB3, cell_below hB3 hg k0⟩) (first
      | (go_at_call 27; refine (hcp.out _ BR.drew).mono ?_; rintro e w2 ⟨rfl, hW2, b2⟩; have HW2 := hid hW2; clear hW2; have hB2 := belowCall BR.drew b2)
      | (go_at_call 28; refine (stepDown_any _ _ n n0 n0 (at2 m) _ HW2.out HBY.out (by omega) (by omega) (Nat.le_refl _)).mono ?_; rintro e w3 ⟨rfl, hW3, b3⟩; have HW3 := hid hW3; clear hW3; have hB3 := hB2.trans b3))
    all_goals
      go_wp2_with fail
      go_ret2
      exact ⟨by rw [e1.out.1, e1.out.2]; rfl, by assumption⟩
end Go.Proofs.Ytjgjcbgeekfkkaa
