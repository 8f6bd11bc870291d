/- The document's May. -/
import Derived.Test.YtfbjpgcgdhhfnaaProg1
namespace Go.Proofs.Ytfbjpgcgdhhfnaa
open Go.RowKit
theorem refMay_any (v : Value) (m : List (List Nat)) (w : World) (h : Mat w v m) :
    Calls Try.prog 40 #[v] w fun e w' => e = .returned (.bool (mayM m)) ∧ Below w.heap.size w w' := by
  by_cases h0 : m.length = 0
  · obtain ⟨a, cap, rfl⟩ := h.zero h0
    have hr : mayM m = false := by unfold mayM; simp; omega
    rw [hr]
    go_enter Try.func40, Try.ntmps40
    go_wp2_with fail
    go_ret
    exact ⟨rfl, Below.refl _ _⟩
  · obtain ⟨g, o, cap, rfl, hml, hg, hrows⟩ := h.some (by omega)
    have b0 : (0 : Int) < (m.length : Int) := by omega
    have d1 : decide ((m.length : Int) < 1) = false := by simp; omega
    obtain ⟨r0, c0, hr0⟩ := hrows 0 (by omega)
    obtain ⟨a0, cap0, rfl, hl0, _, _⟩ := hr0
    simp only [Nat.add_zero] at c0
    by_cases h1' : ¬ m.length ≤ 255
    · have hr : mayM m = false := by unfold mayM; simp; omega
      rw [hr]
      have d2 : decide ((255 : Int) < (m.length : Int)) = true := by simp; omega
      go_enter Try.func40, Try.ntmps40
      go_wp2_with fail
      go_ret
      exact ⟨rfl, Below.refl _ _⟩
    have h1 : m.length ≤ 255 := by omega
    have d2 : decide ((255 : Int) < (m.length : Int)) = false := by simp; omega
    by_cases h2 : (m.getD 0 []).length < 1
    · have hr : mayM m = false := by unfold mayM; simp only [decide_eq_false_iff_not]; omega
      rw [hr]
      have d3 : decide (((m.getD 0 []).length : Int) < 1) = true := by simp only [decide_eq_true_eq]; omega
      generalize (m.getD 0 []).length = n0 at *
      go_enter Try.func40, Try.ntmps40
      go_wp2_with fail
      go_ret
      exact ⟨rfl, Below.refl _ _⟩
    have d3 : decide (((m.getD 0 []).length : Int) < 1) = false := by simp only [decide_eq_false_iff_not]; omega
    by_cases h3 : 255 < (m.getD 0 []).length
    · have hr : mayM m = false := by unfold mayM; simp only [decide_eq_false_iff_not]; omega
      rw [hr]
      have d4 : decide ((255 : Int) < ((m.getD 0 []).length : Int)) = true := by simp only [decide_eq_true_eq]; omega
      generalize (m.getD 0 []).length = n0 at *
      go_enter Try.func40, Try.ntmps40
      go_wp2_with fail
      go_ret
      exact ⟨rfl, Below.refl _ _⟩
    have d4 : decide ((255 : Int) < ((m.getD 0 []).length : Int)) = false := by simp only [decide_eq_false_iff_not]; omega
    have HM : Hid (mayM m = decide (∀ j, j < m.length → (m.getD j []).length = (m.getD 0 []).length)) := by
      unfold Hid mayM
      rw [decide_eq_decide]
      exact ⟨fun hh => hh.2.2.2.2, fun hh => ⟨by omega, h1, by omega, by omega, hh⟩⟩
    generalize hn0 : (m.getD 0 []).length = n0 at *
    generalize hn : m.length = n at *
    go_enter Try.func40, Try.ntmps40
    go_wp2_with fail
    go_loopw [3] (fun vi wr => ∃ k : Nat, k ≤ n ∧ vi = .int .i64 (k : Int) ∧ Hid (∀ j, j < k → (m.getD j []).length = n0) ∧ Below w.heap.size w wr) (fun vi _ => n - (intOf vi).toNat)
    case atStart => exact ⟨0, by omega, rfl, fun j hj => absurd hj (by omega), Below.refl _ _⟩
    case round =>
      obtain ⟨k, hk, rfl, hj, hb⟩ := hrel
      by_cases hlt : k < n
      · obtain ⟨r, c, hr⟩ := hrows k hlt
        obtain ⟨a1, cap1, rfl, hl1, _, _⟩ := hr
        have d0 : (k : Int) < (n : Int) := by omega
        replace c := cell_below hb hg c
        replace c0 := cell_below hb hg c0
        generalize hnk : (m.getD k []).length = nk at *
        by_cases he : nk = n0
        · obtain rfl := he
          have e2 : ((nk : Int) != (nk : Int)) = false := by simp
          go_wp2_with fail
          go_quiet (fail)
          go_wp2_with fail
          exact ⟨⟨k + 1, by omega, rfl, fun j hj' => by
            by_cases hjk : j < k
            · exact hj.out j hjk
            · obtain rfl : j = k := by omega
              exact hnk, below_drewN hb _⟩, by simp [intOf]; omega⟩
        · have e2 : ((nk : Int) != (n0 : Int)) = true := by simp; omega
          have hr : mayM m = false := by rw [HM.out, decide_eq_false_iff_not]; exact fun hh => by have := hh k hlt; omega
          go_wp2_with fail
          go_quiet (fail)
          go_wp2_with fail
          go_ret
          exact ⟨by rw [hr]; rfl, below_drewN hb _⟩
      · obtain rfl : k = n := by omega
        have hr : mayM m = true := by rw [HM.out, decide_eq_true_iff]; exact hj.out
        go_wp2_with fail
        go_ret
        exact ⟨by rw [hr]; rfl, hb⟩
end Go.Proofs.Ytfbjpgcgdhhfnaa
