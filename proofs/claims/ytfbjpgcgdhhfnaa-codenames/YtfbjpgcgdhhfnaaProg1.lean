/- The program's Down and Rank. -/
import Derived.Test.YtfbjpgcgdhhfnaaStep
namespace Go.Proofs.Ytfbjpgcgdhhfnaa
open Go.RowKit
theorem hid {p : Prop} (h : p) : Hid p := h
theorem mayM_facts {m : List (List Nat)} (h : mayM m = true) : 1 ≤ m.length ∧ m.length ≤ 255 ∧ 1 ≤ (m.getD 0 []).length ∧ (m.getD 0 []).length ≤ 255 ∧ ∀ j, j < m.length → (m.getD j []).length = (m.getD 0 []).length := of_decide_eq_true h
theorem Mat.rows {w : World} {v : Value} {m : List (List Nat)} (h : Mat w v m) : ∀ i x, x ∈ m.getD i [] → x < 256 := fun i x hx => by
  by_cases hi : i < m.length
  · obtain ⟨_, _, _, _, _, _, k⟩ := h.some (by omega)
    obtain ⟨r, _, hr⟩ := k i hi
    exact hr.choose_spec.choose_spec.2.2.1 x hx
  · rw [List.getD_eq_getElem?_getD, List.getElem?_eq_none (by omega)] at hx
    simp at hx
theorem Mat.byt {w : World} {v : Value} {m : List (List Nat)} (h : Mat w v m) : El.Byt (at2 m) := fun i j => by
  unfold at2
  exact getD_lt (h.rows i) j
def sqM (m : List (List Nat)) : Bool := mayM m && decide (m.length = (m.getD 0 []).length)
/-- a matrix that may be: where it lies -/
theorem Mat.first {w : World} {v : Value} {m : List (List Nat)} (h : Mat w v m) (hm : mayM m = true) : ∃ g o cap, v = .slice (.some ⟨g, o, none⟩) m.length cap ∧ g < w.heap.size ∧ (∃ a0 c0, w.cell? ⟨g, o, none⟩ = .some (.slice a0 (m.getD 0 []).length c0)) ∧
    ∀ j, j < m.length → ∃ r, w.cell? ⟨g, o + j, none⟩ = .some r ∧ Row8 w r (m.getD j []) := by
  obtain ⟨f1, f2, f3, f4, f5⟩ := mayM_facts hm
  obtain ⟨g, o, cap, h1, h2, h3, h4⟩ := h.some (by omega)
  obtain ⟨r, h5, h6⟩ := h4 0 (by omega)
  obtain ⟨a0, c0, rfl, _⟩ := h6
  exact ⟨g, o, cap, h1, h3, ⟨a0, c0, h5⟩, h4⟩
theorem maySquare_any (v : Value) (m : List (List Nat)) (w : World) (h : Mat w v m) :
    Calls Try.prog 52 #[v] w fun e w' => e = .returned (.bool (sqM m)) ∧ w' = w := by
  have hM := h
  cases hm : mayM m with
  | false =>
    have hr : sqM m = false := by unfold sqM; rw [hm]; rfl
    rw [hr]
    go_enter Try.func52, Try.ntmps52
    go_wp2_with fail
    refine (may_any v m w hM).mono ?_
    rintro e w1 ⟨rfl, rfl⟩
    rw [hm]
    go_wp2_with fail
    go_ret
    exact ⟨rfl, rfl⟩
  | true =>
    obtain ⟨f1, f2, f3, f4, f5⟩ := mayM_facts hm
    obtain ⟨g, o, cap, rfl, hg, ⟨a0, c0, k0⟩, _⟩ := h.first hm
    have hr : sqM m = decide (m.length = (m.getD 0 []).length) := by unfold sqM; rw [hm]; rfl
    rw [hr]
    clear hr f5
    generalize (m.getD 0 []).length = n0 at *
    generalize hn : m.length = n at *
    have b0 : (0 : Int) < (n : Int) := by omega
    have e0 : Hid (((n : Int) == (n0 : Int)) = decide (n = n0)) := beq_nat n n0
    go_enter Try.func52, Try.ntmps52
    go_wp2_with fail
    refine (may_any _ m w hM).mono ?_
    rintro e w1 ⟨rfl, rfl⟩
    rw [hm]
    go_wp2_with fail
    go_ret
    exact ⟨by rw [← e0.out]; rfl, rfl⟩
theorem getD_left (l l' : List Nat) (d j : Nat) (h : j < l.length) : (l ++ l').getD j d = l.getD j d := by
  rw [List.getD_eq_getElem?_getD, List.getElem?_append_left h, ← List.getD_eq_getElem?_getD]
theorem getD_right (l l' : List Nat) (d j : Nat) (h : l.length ≤ j) : (l ++ l').getD j d = l'.getD (j - l.length) d := by
  rw [List.getD_eq_getElem?_getD, List.getElem?_append_right h, ← List.getD_eq_getElem?_getD]
def upTo (k W : Nat) : Nat → Nat := fun i => if i < k then W else 0
/-- what Down tells, and Rank -/
def stepsM (m : List (List Nat)) : El.M × Nat := El.steps m.length (at2 m) (m.getD 0 []).length
def ansD (m : List (List Nat)) : List (List Nat) := if mayM m then rowsOf m.length (fun _ => (m.getD 0 []).length) (stepsM m).1 else []
def ansK (m : List (List Nat)) : Nat := if mayM m then (stepsM m).2 else 0
def errD (m : List (List Nat)) : Int := if mayM m then 0 else 4
end Go.Proofs.Ytfbjpgcgdhhfnaa
