/- Rows of numbers, and lists of rows, as they lie in memory; what may be a matrix. -/
import Derived.Test.YtfbjpgcgdhhfnaaMethods
import Derived.Test.YtfbjpgcgdhhfnaaRefs
import Derived.Test.YtfbjpgcgdhhfnaaNum
import Derived.Deep.RegionHeld3
import Derived.Deep.QuietTactic
import Derived.Deep.Light
namespace Go.Proofs.Ytfbjpgcgdhhfnaa
open Go.RowKit
/-- v reads as the row l -/
def Row8 (w : World) (v : Value) (l : List Nat) : Prop := ∃ a cap, v = .slice a l.length cap ∧ l.length ≤ 9223372036854775807 ∧ (∀ x ∈ l, x < 256) ∧ (0 < l.length → ∃ g o, a = some ⟨g, o, none⟩ ∧ g < w.heap.size ∧ ∀ j, j < l.length → w.cell? ⟨g, o + j, none⟩ = some (.int .u8 ((l.getD j 0 : Nat) : Int)))
/-- v reads as the list of rows m -/
def Mat (w : World) (v : Value) (m : List (List Nat)) : Prop := ∃ a cap, v = .slice a m.length cap ∧ m.length ≤ 9223372036854775807 ∧ (0 < m.length → ∃ g o, a = some ⟨g, o, none⟩ ∧ g < w.heap.size ∧ ∀ j, j < m.length → ∃ r, w.cell? ⟨g, o + j, none⟩ = some r ∧ Row8 w r (m.getD j []))
theorem cell_below {w W : World} {N g i : Nat} {v : Option Value} (hb : Below N w W) (hg : g < N) (h : w.cell? ⟨g, i, none⟩ = v) : W.cell? ⟨g, i, none⟩ = v := by
  rw [← h]; simp only [World.cell?, hb.block g hg]
theorem Row8.below {w w' : World} {v : Value} {l : List Nat} (h : Row8 w v l) (hb : Below w.heap.size w w') : Row8 w' v l := by
  obtain ⟨a, cap, h1, h2, h3, h4⟩ := h
  refine ⟨a, cap, h1, h2, h3, fun hp => ?_⟩
  obtain ⟨g, o, e, hg, hc⟩ := h4 hp
  exact ⟨g, o, e, Nat.lt_of_lt_of_le hg hb.size, fun j hj => cell_below hb hg (hc j hj)⟩
theorem Mat.below {w w' : World} {v : Value} {m : List (List Nat)} (h : Mat w v m) (hb : Below w.heap.size w w') : Mat w' v m := by
  obtain ⟨a, cap, h1, h2, h4⟩ := h
  refine ⟨a, cap, h1, h2, fun hp => ?_⟩
  obtain ⟨g, o, e, hg, hc⟩ := h4 hp
  refine ⟨g, o, e, Nat.lt_of_lt_of_le hg hb.size, fun j hj => ?_⟩
  obtain ⟨r, c, hr⟩ := hc j hj
  exact ⟨r, cell_below hb hg c, hr.below hb⟩
theorem Mat.nil (w : World) : Mat w (.slice none 0 0) [] := ⟨none, 0, rfl, by simp, fun h => absurd h (by simp)⟩
theorem Row8.nil (w : World) : Row8 w (.slice none 0 0) [] := ⟨none, 0, rfl, by simp, by simp, fun h => absurd h (by simp)⟩
theorem Mat.some {w : World} {v : Value} {m : List (List Nat)} (h : Mat w v m) (hp : 0 < m.length) : ∃ g o cap, v = .slice (.some ⟨g, o, none⟩) m.length cap ∧ m.length ≤ 9223372036854775807 ∧ g < w.heap.size ∧ ∀ j, j < m.length → ∃ r, w.cell? ⟨g, o + j, none⟩ = .some r ∧ Row8 w r (m.getD j []) := by
  obtain ⟨a, cap, h1, h2, h4⟩ := h
  obtain ⟨g, o, rfl, hg, hc⟩ := h4 hp
  exact ⟨g, o, cap, h1, h2, hg, hc⟩
theorem Row8.some {w : World} {v : Value} {l : List Nat} (h : Row8 w v l) (hp : 0 < l.length) : ∃ g o cap, v = .slice (.some ⟨g, o, none⟩) l.length cap ∧ l.length ≤ 9223372036854775807 ∧ (∀ x ∈ l, x < 256) ∧ g < w.heap.size ∧ ∀ j, j < l.length → w.cell? ⟨g, o + j, none⟩ = .some (.int .u8 ((l.getD j 0 : Nat) : Int)) := by
  obtain ⟨a, cap, h1, h2, h3, h4⟩ := h
  obtain ⟨g, o, rfl, hg, hc⟩ := h4 hp
  exact ⟨g, o, cap, h1, h2, h3, hg, hc⟩
theorem Row8.zero {w : World} {v : Value} {l : List Nat} (h : Row8 w v l) (h0 : l.length = 0) : ∃ a cap, v = .slice a 0 cap := by
  obtain ⟨a, cap, h1, _⟩ := h
  exact ⟨a, cap, by rw [h1, h0]⟩
theorem Mat.zero {w : World} {v : Value} {l : List (List Nat)} (h : Mat w v l) (h0 : l.length = 0) : ∃ a cap, v = .slice a 0 cap := by
  obtain ⟨a, cap, h1, _⟩ := h
  exact ⟨a, cap, by rw [h1, h0]⟩
theorem getD_lt {l : List Nat} (h : ∀ x ∈ l, x < 256) (j : Nat) : l.getD j 0 < 256 := by
  rw [List.getD_eq_getElem?_getD]
  cases hj : l[j]? with
  | none => simp
  | some x => exact h x (List.mem_of_getElem? hj)
/-- may these rows be a matrix? -/
def mayM (m : List (List Nat)) : Bool := decide (1 ≤ m.length ∧ m.length ≤ 255 ∧ 1 ≤ (m.getD 0 []).length ∧ (m.getD 0 []).length ≤ 255 ∧ ∀ j, j < m.length → (m.getD j []).length = (m.getD 0 []).length)
theorem maySize_t (n : Int) (h1 : 1 ≤ n) (h2 : n ≤ 255) (w : World) : Calls Try.prog 59 #[.int .i64 n] w fun e w' => e = .returned (.bool true) ∧ w' = w := by
  have d1 : decide (1 ≤ n) = true := by simp; omega
  have d2 : decide (n ≤ 255) = true := by simp; omega
  go_enter Try.func59, Try.ntmps59
  go_wp2_with fail
  go_ret
  exact ⟨rfl, rfl⟩
theorem maySize_f (n : Int) (h : ¬ (1 ≤ n ∧ n ≤ 255)) (w : World) : Calls Try.prog 59 #[.int .i64 n] w fun e w' => e = .returned (.bool false) ∧ w' = w := by
  by_cases h1 : 1 ≤ n
  · have d1 : decide (1 ≤ n) = true := by simp; omega
    have d2 : decide (n ≤ 255) = false := by simp; omega
    go_enter Try.func59, Try.ntmps59
    go_wp2_with fail
    go_ret
    exact ⟨rfl, rfl⟩
  · have d1 : decide (1 ≤ n) = false := by simp; omega
    go_enter Try.func59, Try.ntmps59
    go_wp2_with fail
    go_ret
    exact ⟨rfl, rfl⟩
theorem may_any (v : Value) (m : List (List Nat)) (w : World) (h : Mat w v m) :
    Calls Try.prog 55 #[v] w fun e w' => e = .returned (.bool (mayM m)) ∧ w' = w := by
  by_cases h0 : m.length = 0
  · obtain ⟨a, cap, rfl⟩ := h.zero h0
    have hr : mayM m = false := by unfold mayM; simp; omega
    rw [hr]
    go_enter Try.func55, Try.ntmps55
    go_wp2_with fail
    refine (maySize_f _ (by omega) _).mono ?_
    rintro e w1 ⟨rfl, rfl⟩
    go_wp2_with fail
    go_ret
    exact ⟨rfl, rfl⟩
  · obtain ⟨g, o, cap, rfl, hml, hg, hrows⟩ := h.some (by omega)
    obtain ⟨r0, c0, hr0⟩ := hrows 0 (by omega)
    obtain ⟨a0, cap0, rfl, hl0, _, _⟩ := hr0
    simp only [Nat.add_zero] at c0
    have b0 : (0 : Int) < (m.length : Int) := by omega
    by_cases h1' : ¬ m.length ≤ 255
    · have hr : mayM m = false := by unfold mayM; simp; omega
      rw [hr]
      go_enter Try.func55, Try.ntmps55
      go_wp2_with fail
      refine (maySize_f _ (by omega) _).mono ?_
      rintro e w1 ⟨rfl, rfl⟩
      go_wp2_with fail
      go_ret
      exact ⟨rfl, rfl⟩
    have h1 : m.length ≤ 255 := by omega
    by_cases h2' : ¬ (1 ≤ (m.getD 0 []).length ∧ (m.getD 0 []).length ≤ 255)
    · have hr : mayM m = false := by unfold mayM; simp only [decide_eq_false_iff_not]; exact fun hh => h2' ⟨hh.2.2.1, hh.2.2.2.1⟩
      rw [hr]
      generalize (m.getD 0 []).length = n0 at *
      go_enter Try.func55, Try.ntmps55
      go_wp2_with fail
      refine (maySize_t _ (by omega) (by omega) _).mono ?_
      rintro e w1 ⟨rfl, rfl⟩
      go_wp2_with fail
      refine (maySize_f _ (by omega) _).mono ?_
      rintro e w1 ⟨rfl, rfl⟩
      go_wp2_with fail
      go_ret
      exact ⟨rfl, rfl⟩
    have h2 : 1 ≤ (m.getD 0 []).length ∧ (m.getD 0 []).length ≤ 255 := by omega
    have HM : Hid (mayM m = decide (∀ j, j < m.length → (m.getD j []).length = (m.getD 0 []).length)) := by
      unfold Hid mayM
      rw [decide_eq_decide]
      exact ⟨fun hh => hh.2.2.2.2, fun hh => ⟨by omega, h1, h2.1, h2.2, hh⟩⟩
    generalize hn0 : (m.getD 0 []).length = n0 at *
    generalize hn : m.length = n at *
    go_enter Try.func55, Try.ntmps55
    go_wp2_with fail
    refine (maySize_t _ (by omega) (by omega) _).mono ?_
    rintro e w1 ⟨rfl, rfl⟩
    go_wp2_with fail
    refine (maySize_t _ (by omega) (by omega) _).mono ?_
    rintro e w1 ⟨rfl, rfl⟩
    go_wp2_with fail
    go_loopw [19] (fun vi wr => wr = w1 ∧ ∃ k : Nat, k ≤ n ∧ vi = .int .i64 (k : Int) ∧ Hid (∀ j, j < k → (m.getD j []).length = n0)) (fun vi _ => n - (intOf vi).toNat)
    case atStart => exact ⟨rfl, 0, by omega, rfl, fun j hj => absurd hj (by omega)⟩
    case round =>
      obtain ⟨rfl, k, hk, rfl, hj⟩ := hrel
      by_cases hlt : k < n
      · obtain ⟨r, c, hr⟩ := hrows k hlt
        obtain ⟨a1, cap1, rfl, hl1, _, _⟩ := hr
        have d0 : (k : Int) < (n : Int) := by omega
        generalize hnk : (m.getD k []).length = nk at *
        by_cases he : nk = n0
        · have e0 : ((nk : Int) != (n0 : Int)) = false := by simp; omega
          go_wp2_with fail
          exact ⟨⟨by simp, k + 1, by omega, rfl, fun j hj' => by
            by_cases hjk : j < k
            · exact hj.out j hjk
            · obtain rfl : j = k := by omega
              rw [hnk, he]⟩, by simp [intOf]; omega⟩
        · have e0 : ((nk : Int) != (n0 : Int)) = true := by simp; omega
          have hr : mayM m = false := by rw [HM.out, decide_eq_false_iff_not]; exact fun hh => he (hnk ▸ hh k hlt)
          go_wp2_with fail
          go_ret
          exact ⟨by rw [hr]; rfl, rfl⟩
      · obtain rfl : k = n := by omega
        have hr : mayM m = true := by rw [HM.out, decide_eq_true_iff]; exact hj.out
        go_wp2_with fail
        go_ret
        exact ⟨by rw [hr]; rfl, rfl⟩
end Go.Proofs.Ytfbjpgcgdhhfnaa
