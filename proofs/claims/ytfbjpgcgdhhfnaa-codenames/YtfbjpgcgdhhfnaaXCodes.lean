/- One, and the matrix of a code, of the program: what they tell, and how they are refused. -/
import Derived.Test.YtfbjpgcgdhhfnaaXRRows
namespace Go.Proofs.Ytfbjpgcgdhhfnaa.Mx
open Go.RowKit
def mayC (K N : Int) : Bool := decide (1 ≤ K ∧ K ≤ N ∧ N ≤ 12)
theorem mayCode_any (K N : Int) (w : World) :
    Calls Try.prog 18 #[.agg #[.int .i64 K, .int .i64 N]] w fun e w' => e = .returned (.bool (mayC K N)) ∧ Below w.heap.size w w' := by
  have hb : Below w.heap.size w (w.alloc (.cells #[.int .i64 K, .int .i64 N] 24)) := (Below.refl _ _).alloc (Nat.le_refl _) _
  by_cases h1 : 1 ≤ K
  · have d1 : decide (1 ≤ K) = true := by simp; omega
    by_cases h2 : K ≤ N
    · have d2 : decide (K ≤ N) = true := by simp; omega
      have hr : mayC K N = decide (N ≤ 12) := by unfold mayC; rw [decide_eq_decide]; omega
      rw [hr]
      go_enter Try.func18, Try.ntmps18
      go_wp2_with fail
      go_ret
      exact ⟨rfl, hb⟩
    · have d2 : decide (K ≤ N) = false := by simp; omega
      have hr : mayC K N = false := by unfold mayC; rw [decide_eq_false_iff_not]; omega
      rw [hr]
      go_enter Try.func18, Try.ntmps18
      go_wp2_with fail
      go_ret
      exact ⟨rfl, hb⟩
  · have d1 : decide (1 ≤ K) = false := by simp; omega
    have hr : mayC K N = false := by unfold mayC; rw [decide_eq_false_iff_not]; omega
    rw [hr]
    go_enter Try.func18, Try.ntmps18
    go_wp2_with fail
    go_ret
    exact ⟨rfl, hb⟩
theorem refMayCode_any (K N : Int) (w : World) :
    Calls Try.prog 27 #[.agg #[.int .i64 K, .int .i64 N]] w fun e w' => e = .returned (.bool (mayC K N)) ∧ Below w.heap.size w w' := by
  have hb : Below w.heap.size w (w.alloc (.cells #[.int .i64 K, .int .i64 N] 24)) := (Below.refl _ _).alloc (Nat.le_refl _) _
  by_cases h1 : 1 ≤ K
  · have d1 : decide (0 < K) = true := by simp; omega
    by_cases h2 : K ≤ N
    · have d2 : decide (K ≤ N) = true := by simp; omega
      have hr : mayC K N = decide (N < 13) := by unfold mayC; rw [decide_eq_decide]; omega
      rw [hr]
      go_enter Try.func27, Try.ntmps27
      go_wp2_with fail
      go_ret
      exact ⟨rfl, hb⟩
    · have d2 : decide (K ≤ N) = false := by simp; omega
      have hr : mayC K N = false := by unfold mayC; rw [decide_eq_false_iff_not]; omega
      rw [hr]
      go_enter Try.func27, Try.ntmps27
      go_wp2_with fail
      go_ret
      exact ⟨rfl, hb⟩
  · have d1 : decide (0 < K) = false := by simp; omega
    have hr : mayC K N = false := by unfold mayC; rw [decide_eq_false_iff_not]; omega
    rw [hr]
    go_enter Try.func27, Try.ntmps27
    go_wp2_with fail
    go_ret
    exact ⟨rfl, hb⟩
theorem grid_new {base T c n : Nat} {w : World} {f : Nat → Nat → Nat} (h : RowsAt base T c w (grid c n f)) (hc : c ≤ 1000000) (hn : n ≤ 1000000) : NewMat base w (.slice (some ⟨T, 0, none⟩) c c) (grid c n f) :=
  ⟨by rw [grid_length]; exact hc, fun i hi => by rw [grid_length] at hi; rw [grid_row_length _ _ _ _ hi]; exact hn, .inr ⟨T, by rw [grid_length], by rw [grid_length]; exact h⟩⟩
end Go.Proofs.Ytfbjpgcgdhhfnaa.Mx
