/- Rows and lists of rows held against one another; rows as strings. -/
import Derived.Test.YtnihohcdamhidaaMat
import Derived.Laws.BytesString
namespace Go.Proofs.Ytnihohcdamhidaa
open Go.RowKit
theorem ext_getD {α : Type} {l1 l2 : List α} (d : α) (hl : l1.length = l2.length) (h : ∀ j, j < l1.length → l1.getD j d = l2.getD j d) : l1 = l2 := by
  apply List.ext_getElem hl
  intro j h1 h2
  have := h j h1
  simpa [List.getD_eq_getElem?_getD, List.getElem?_eq_getElem h1, List.getElem?_eq_getElem h2] using this
theorem below_drewN {B : Nat} {w w' : World} (h : Below B w w') (n : Nat) : Below B w (w'.drewN n) := ⟨h.os, h.tape, h.output, h.size, h.block⟩
theorem equal_any (v1 v2 : Value) (l1 l2 : List Nat) (w : World) (h1 : Row8 w v1 l1) (h2 : Row8 w v2 l2) :
    Calls Try.prog 38 #[v1, v2] w fun e w' => e = .returned (.bool (decide (l1 = l2))) ∧ Below w.heap.size w w' := by
  obtain ⟨a1, c1, rfl, hl1, hx1, hc1⟩ := h1
  obtain ⟨a2, c2, rfl, hl2, hx2, hc2⟩ := h2
  by_cases hl : l1.length = l2.length
  · have HE : Hid (∀ j, j < l1.length → l1.getD j 0 = l2.getD j 0) → l1 = l2 := fun hh => ext_getD 0 hl hh.out
    rw [← hl] at hc2 hl2 ⊢
    clear hl
    generalize hn : l1.length = n at *
    have e0 : ((n : Int) != (n : Int)) = false := by simp
    go_enter Try.func38, Try.ntmps38
    go_wp2_with fail
    go_loopw [13] (fun vi wr => ∃ k : Nat, k ≤ n ∧ vi = .int .i64 (k : Int) ∧ Hid (∀ j, j < k → l1.getD j 0 = l2.getD j 0) ∧ Below w.heap.size w wr) (fun vi _ => n - (intOf vi).toNat)
    case atStart => exact ⟨0, by omega, rfl, fun j hj => absurd hj (by omega), Below.refl _ _⟩
    case round =>
      obtain ⟨k, hk, rfl, hj, hb⟩ := hrel
      by_cases hlt : k < n
      · obtain ⟨g1, o1, rfl, hg1, hd1⟩ := hc1 (by omega)
        obtain ⟨g2, o2, rfl, hg2, hd2⟩ := hc2 (by omega)
        have k1 := cell_below hb hg1 (hd1 k hlt)
        have k2 := cell_below hb hg2 (hd2 k hlt)
        have d0 : (k : Int) < (n : Int) := by omega
        generalize hp1 : l1.getD k 0 = p1 at *
        generalize hp2 : l2.getD k 0 = p2 at *
        by_cases he : p1 = p2
        · have e1 : ((p1 : Int) != (p2 : Int)) = false := by simp; omega
          go_wp2_with fail
          go_quiet (fail)
          go_wp2_with fail
          exact ⟨⟨k + 1, by omega, rfl, fun j hj' => by
            by_cases hjk : j < k
            · exact hj.out j hjk
            · obtain rfl : j = k := by omega
              rw [hp1, hp2, he], below_drewN hb _⟩, by simp [intOf]; omega⟩
        · have e1 : ((p1 : Int) != (p2 : Int)) = true := by simp; omega
          have hr : decide (l1 = l2) = false := by rw [decide_eq_false_iff_not]; rintro rfl; exact he (hp1.symm.trans hp2)
          go_wp2_with fail
          go_quiet (fail)
          go_wp2_with fail
          go_ret
          exact ⟨by rw [hr]; rfl, below_drewN hb _⟩
      · obtain rfl : k = n := by omega
        have hr : decide (l1 = l2) = true := by rw [decide_eq_true_iff]; exact HE hj
        go_wp2_with fail
        go_ret
        exact ⟨by rw [hr]; rfl, hb⟩
  · have hr : decide (l1 = l2) = false := by rw [decide_eq_false_iff_not]; rintro rfl; exact hl rfl
    rw [hr]
    have e0 : ((l1.length : Int) != (l2.length : Int)) = true := by simp; omega
    go_enter Try.func38, Try.ntmps38
    go_wp2_with fail
    go_ret
    exact ⟨rfl, Below.refl _ _⟩
theorem equalFunc_any (v1 v2 : Value) (l1 l2 : List (List Nat)) (w : World) (h1 : Mat w v1 l1) (h2 : Mat w v2 l2) :
    Calls Try.prog 37 #[v1, v2, .func (.func 38) #[] #[]] w fun e w' => e = .returned (.bool (decide (l1 = l2))) ∧ Below w.heap.size w w' := by
  obtain ⟨a1, c1, rfl, hl1, hc1⟩ := h1
  obtain ⟨a2, c2, rfl, hl2, hc2⟩ := h2
  by_cases hl : l1.length = l2.length
  · have HE : Hid (∀ j, j < l1.length → l1.getD j [] = l2.getD j []) → l1 = l2 := fun hh => ext_getD [] hl hh.out
    rw [← hl] at hc2 hl2 ⊢
    clear hl
    generalize hn : l1.length = n at *
    have e0 : ((n : Int) != (n : Int)) = false := by simp
    go_enter Try.func37, Try.ntmps37
    go_wp2_with fail
    go_loopw [17] (fun vi wr => ∃ k : Nat, k ≤ n ∧ vi = .int .i64 (k : Int) ∧ Hid (∀ j, j < k → l1.getD j [] = l2.getD j []) ∧ Below w.heap.size w wr) (fun vi _ => n - (intOf vi).toNat)
    case atStart => exact ⟨0, by omega, rfl, fun j hj => absurd hj (by omega), Below.refl _ _⟩
    case round =>
      obtain ⟨k, hk, rfl, hj, hb⟩ := hrel
      by_cases hlt : k < n
      · obtain ⟨g1, o1, rfl, hg1, hd1⟩ := hc1 (by omega)
        obtain ⟨g2, o2, rfl, hg2, hd2⟩ := hc2 (by omega)
        obtain ⟨r1, k1, hr1⟩ := hd1 k hlt
        obtain ⟨r2, k2, hr2⟩ := hd2 k hlt
        replace k1 := cell_below hb hg1 k1
        replace k2 := cell_below hb hg2 k2
        replace hr1 := hr1.below hb
        replace hr2 := hr2.below hb
        have d0 : (k : Int) < (n : Int) := by omega
        generalize hp1 : l1.getD k [] = p1 at *
        generalize hp2 : l2.getD k [] = p2 at *
        have HR : Hid (Row8 wr r1 p1 ∧ Row8 wr r2 p2) := ⟨hr1, hr2⟩
        clear hr1 hr2
        go_wp2_with fail
        refine (equal_any r1 r2 p1 p2 wr HR.out.1 HR.out.2).mono ?_
        rintro e w1 ⟨rfl, hb1⟩
        have hb2 := belowCall hb hb1
        by_cases he : p1 = p2
        · rw [decide_eq_true he]
          go_wp2_with fail
          exact ⟨⟨k + 1, by omega, rfl, fun j hj' => by
            by_cases hjk : j < k
            · exact hj.out j hjk
            · obtain rfl : j = k := by omega
              rw [hp1, hp2, he], hb2⟩, by simp [intOf]; omega⟩
        · rw [decide_eq_false he]
          have hr : decide (l1 = l2) = false := by rw [decide_eq_false_iff_not]; rintro rfl; exact he (hp1.symm.trans hp2)
          go_wp2_with fail
          go_ret
          exact ⟨by rw [hr]; rfl, hb2⟩
      · obtain rfl : k = n := by omega
        have hr : decide (l1 = l2) = true := by rw [decide_eq_true_iff]; exact HE hj
        go_wp2_with fail
        go_ret
        exact ⟨by rw [hr]; rfl, hb⟩
  · have hr : decide (l1 = l2) = false := by rw [decide_eq_false_iff_not]; rintro rfl; exact hl rfl
    rw [hr]
    have e0 : ((l1.length : Int) != (l2.length : Int)) = true := by simp; omega
    go_enter Try.func37, Try.ntmps37
    go_wp2_with fail
    go_ret
    exact ⟨rfl, Below.refl _ _⟩
theorem same_any (v1 v2 : Value) (l1 l2 : List (List Nat)) (w : World) (h1 : Mat w v1 l1) (h2 : Mat w v2 l2) :
    Calls Try.prog 14 #[v1, v2] w fun e w' => e = .returned (.bool (decide (l1 = l2))) ∧ Below w.heap.size w w' := by
  go_enter Try.func14, Try.ntmps14
  go_wp2_with fail
  refine (equalFunc_any v1 v2 l1 l2 w h1 h2).mono ?_
  rintro e w1 ⟨rfl, hb1⟩
  go_wp2_with fail
  go_ret
  exact ⟨rfl, hb1⟩
end Go.Proofs.Ytnihohcdamhidaa
