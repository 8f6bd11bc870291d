/- The document's May and Same; what is too large; what is written over. -/
import Derived.Test.YtnihohcdamhidaaEq
namespace Go.Proofs.Ytnihohcdamhidaa
open Go.RowKit
theorem refMay_any (v : Value) (m : List (List Nat)) (w : World) (h : Mat w v m) :
    Calls Try.prog 24 #[v] w fun e w' => e = .returned (.bool (mayM m)) ∧ Below w.heap.size w w' := by
  by_cases h0 : m.length = 0
  · obtain ⟨a, cap, rfl⟩ := h.zero h0
    have hr : mayM m = false := by unfold mayM; simp; omega
    rw [hr]
    go_enter Try.func24, Try.ntmps24
    go_wp2_with fail
    go_ret
    exact ⟨rfl, Below.refl _ _⟩
  · obtain ⟨g, o, cap, rfl, hml, hg, hrows⟩ := h.some (by omega)
    have b0 : (0 : Int) < (m.length : Int) := by omega
    have d1 : decide ((m.length : Int) < 1) = false := by simp; omega
    by_cases h1' : ¬ m.length ≤ 12
    · have hr : mayM m = false := by unfold mayM; simp; omega
      rw [hr]
      have d2 : decide ((12 : Int) < (m.length : Int)) = true := by simp; omega
      go_enter Try.func24, Try.ntmps24
      go_wp2_with fail
      go_ret
      exact ⟨rfl, Below.refl _ _⟩
    have h1 : m.length ≤ 12 := by omega
    have d2 : decide ((12 : Int) < (m.length : Int)) = false := by simp; omega
    have HM : Hid (mayM m = decide (∀ j, j < m.length → 1 ≤ (m.getD j []).length ∧ (m.getD j []).length ≤ 12 ∧ (m.getD j []).length = (m.getD 0 []).length)) := by
      unfold Hid mayM
      rw [decide_eq_decide]
      constructor
      · intro hh j hj
        have := hh.2.2.2.2 j hj
        exact ⟨by omega, by omega, this⟩
      · intro hh
        have := hh 0 (by omega)
        exact ⟨by omega, h1, this.1, this.2.1, fun j hj => (hh j hj).2.2⟩
    obtain ⟨r0, c0, hr0⟩ := hrows 0 (by omega)
    obtain ⟨a0, cap0, rfl, hl0, _, _⟩ := hr0
    simp only [Nat.add_zero] at c0
    generalize hn0 : (m.getD 0 []).length = n0 at *
    generalize hn : m.length = n at *
    go_enter Try.func24, Try.ntmps24
    go_wp2_with fail
    go_loopw [3] (fun vi wr => ∃ k : Nat, k ≤ n ∧ vi = .int .i64 (k : Int) ∧ Hid (∀ j, j < k → 1 ≤ (m.getD j []).length ∧ (m.getD j []).length ≤ 12 ∧ (m.getD j []).length = n0) ∧ Below w.heap.size w wr) (fun vi _ => n - (intOf vi).toNat)
    case atStart => exact ⟨0, by omega, rfl, fun j hj => absurd hj (by omega), Below.refl _ _⟩
    case round =>
      obtain ⟨k, hk, rfl, hj, hb⟩ := hrel
      by_cases hlt : k < n
      · obtain ⟨r, c, hr⟩ := hrows k hlt
        obtain ⟨a1, cap1, rfl, hl1, _, _⟩ := hr
        have d0 : (k : Int) < (n : Int) := by omega
        replace c := cell_below hb hg c
        replace c0 := cell_below hb hg c0
        generalize hnk : (m.getD k []).length = nk at *
        by_cases ha : nk < 1
        · have e0 : decide ((nk : Int) < 1) = true := by simp; omega
          have hr : mayM m = false := by rw [HM.out, decide_eq_false_iff_not]; exact fun hh => by have := hh k hlt; omega
          go_wp2_with fail
          go_quiet (fail)
          go_wp2_with fail
          go_ret
          exact ⟨by rw [hr]; rfl, below_drewN hb _⟩
        have e0 : decide ((nk : Int) < 1) = false := by simp; omega
        by_cases ha2 : 12 < nk
        · have e1 : decide ((12 : Int) < (nk : Int)) = true := by simp; omega
          have hr : mayM m = false := by rw [HM.out, decide_eq_false_iff_not]; exact fun hh => by have := hh k hlt; omega
          go_wp2_with fail
          go_quiet (fail)
          go_wp2_with fail
          go_ret
          exact ⟨by rw [hr]; rfl, below_drewN hb _⟩
        have e1 : decide ((12 : Int) < (nk : Int)) = false := by simp; omega
        by_cases he : nk = n0
        · obtain rfl := he
          have e2 : ((nk : Int) != (nk : Int)) = false := by simp
          go_wp2_with fail
          go_quiet (fail)
          go_wp2_with fail
          exact ⟨⟨k + 1, by omega, rfl, fun j hj' => by
            by_cases hjk : j < k
            · exact hj.out j hjk
            · obtain rfl : j = k := by omega
              rw [hnk]; omega, below_drewN hb _⟩, by simp [intOf]; omega⟩
        · have e2 : ((nk : Int) != (n0 : Int)) = true := by simp; omega
          have hr : mayM m = false := by rw [HM.out, decide_eq_false_iff_not]; exact fun hh => by have := hh k hlt; omega
          go_wp2_with fail
          go_quiet (fail)
          go_wp2_with fail
          go_ret
          exact ⟨by rw [hr]; rfl, below_drewN hb _⟩
      · obtain rfl : k = n := by omega
        have hr : mayM m = true := by rw [HM.out, decide_eq_true_iff]; exact hj.out
        go_wp2_with fail
        go_ret
        exact ⟨by rw [hr]; rfl, hb⟩
end Go.Proofs.Ytnihohcdamhidaa
