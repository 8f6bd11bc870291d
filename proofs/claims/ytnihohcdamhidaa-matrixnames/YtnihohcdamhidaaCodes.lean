/- One, and the matrix of a code, of the program: what they tell, and how they are refused. -/
import Derived.Test.YtnihohcdamhidaaRRows
namespace Go.Proofs.Ytnihohcdamhidaa
open Go.RowKit
def mayC (K N : Int) : Bool := decide (1 ≤ K ∧ K ≤ N ∧ N ≤ 12)
theorem mayCode_any (K N : Int) (w : World) :
    Calls Try.prog 17 #[.agg #[.int .i64 K, .int .i64 N]] w fun e w' => e = .returned (.bool (mayC K N)) ∧ Below w.heap.size w w' := by
  have hb : Below w.heap.size w (w.alloc (.cells #[.int .i64 K, .int .i64 N] 29)) := (Below.refl _ _).alloc (Nat.le_refl _) _
  by_cases h1 : 1 ≤ K
  · have d1 : decide (1 ≤ K) = true := by simp; omega
    by_cases h2 : K ≤ N
    · have d2 : decide (K ≤ N) = true := by simp; omega
      have hr : mayC K N = decide (N ≤ 12) := by unfold mayC; rw [decide_eq_decide]; omega
      rw [hr]
      go_enter Try.func17, Try.ntmps17
      go_wp2_with fail
      go_ret
      exact ⟨rfl, hb⟩
    · have d2 : decide (K ≤ N) = false := by simp; omega
      have hr : mayC K N = false := by unfold mayC; rw [decide_eq_false_iff_not]; omega
      rw [hr]
      go_enter Try.func17, Try.ntmps17
      go_wp2_with fail
      go_ret
      exact ⟨rfl, hb⟩
  · have d1 : decide (1 ≤ K) = false := by simp; omega
    have hr : mayC K N = false := by unfold mayC; rw [decide_eq_false_iff_not]; omega
    rw [hr]
    go_enter Try.func17, Try.ntmps17
    go_wp2_with fail
    go_ret
    exact ⟨rfl, hb⟩
theorem refMayCode_any (K N : Int) (w : World) :
    Calls Try.prog 27 #[.agg #[.int .i64 K, .int .i64 N]] w fun e w' => e = .returned (.bool (mayC K N)) ∧ Below w.heap.size w w' := by
  have hb : Below w.heap.size w (w.alloc (.cells #[.int .i64 K, .int .i64 N] 29)) := (Below.refl _ _).alloc (Nat.le_refl _) _
  by_cases h1 : 1 ≤ K
  · have d1 : decide (0 < K) = true := by simp; omega
    by_cases h2 : K ≤ N
    · have d2 : decide (K ≤ N) = true := by simp; omega
      have hr : mayC K N = decide (N < 13) := by unfold mayC; rw [decide_eq_decide]; omega
      rw [hr]
      go_enter Try.func27, Try.ntmps27
      go_wp2_with fail
      go_ret
      exact ⟨rfl, hb⟩
    · have d2 : decide (K ≤ N) = false := by simp; omega
      have hr : mayC K N = false := by unfold mayC; rw [decide_eq_false_iff_not]; omega
      rw [hr]
      go_enter Try.func27, Try.ntmps27
      go_wp2_with fail
      go_ret
      exact ⟨rfl, hb⟩
  · have d1 : decide (0 < K) = false := by simp; omega
    have hr : mayC K N = false := by unfold mayC; rw [decide_eq_false_iff_not]; omega
    rw [hr]
    go_enter Try.func27, Try.ntmps27
    go_wp2_with fail
    go_ret
    exact ⟨rfl, hb⟩
def oneM (n : Nat) : List (List Nat) := grid n n fun j i => if i = j then 1 else 0
def okN (n : Int) : Bool := decide (1 ≤ n ∧ n ≤ 12)
def ans1 (n : Int) : List (List Nat) := if okN n then oneM n.toNat else []
def err1 (n : Int) : Int := if okN n then 0 else 1
theorem grid_new {base T c n : Nat} {w : World} {f : Nat → Nat → Nat} (h : RowsAt base T c w (grid c n f)) (hc : c ≤ 1000000) (hn : n ≤ 1000000) : NewMat base w (.slice (some ⟨T, 0, none⟩) c c) (grid c n f) :=
  ⟨by rw [grid_length]; exact hc, fun i hi => by rw [grid_length] at hi; rw [grid_row_length _ _ _ _ hi]; exact hn, .inr ⟨T, by rw [grid_length], by rw [grid_length]; exact h⟩⟩
theorem one_t (n : Nat) (h1 : 1 ≤ n) (h2 : n ≤ 12) (w : World) :
    Calls Try.prog 9 #[.int .i64 (n : Int)] w fun e w' => ∃ r, e = .returned (.tuple #[r, .int .i64 0]) ∧ NewMat w.heap.size w' r (oneM n) ∧ Below w.heap.size w w' := by
  go_enter Try.func9, Try.ntmps9
  go_wp2_with fail
  refine (maySize_t _ (by omega) (by omega) _).mono ?_
  rintro e w1 ⟨rfl, rfl⟩
  go_wp2_with fail
  refine (noughts_any n n (by omega) (by omega) w1).mono ?_
  rintro e w2 ⟨rfl, hR, b2⟩
  rw [grid_zero] at hR
  go_wp2_with fail
  go_loopw [15] (fun vi wr => ∃ k : Nat, k ≤ n ∧ vi = .int .i64 (k : Int) ∧ Hid (RowsAt w1.heap.size w1.heap.size n wr (grid n n fun j i => if j < k ∧ i = j then 1 else 0)) ∧ Below w1.heap.size w1 wr) (fun vi _ => n - (intOf vi).toNat)
  case atStart => exact ⟨0, by omega, rfl, by unfold Hid; rw [grid_congr (f' := fun _ _ => 0) (fun j i _ _ => by simp)]; exact hR, b2⟩
  case round =>
    obtain ⟨k, hk, rfl, hW, hb⟩ := hrel
    clear hR b2
    by_cases hlt : k < n
    · obtain ⟨gw, a1, a2, a3, a4, a5⟩ := hW.out.write k (by rw [grid_length]; exact hlt)
      rw [grid_row_length _ _ _ _ hlt] at a1 a4
      obtain ⟨a6, a7⟩ := a4 k hlt
      have HA : Hid (RowsAt w1.heap.size w1.heap.size n (wr.setCell ⟨gw, k, none⟩ (.int .u8 ((1 : Nat) : Int))) (grid n n fun j i => if j < k + 1 ∧ i = j then 1 else 0)) := by
        have := a5 k 1 (by decide)
        rw [grid_set _ _ _ _ _ _ hlt] at this
        unfold Hid
        rw [grid_congr (f' := fun a b => if a = k ∧ b = k then 1 else if a < k ∧ b = a then 1 else 0)]
        · exact this
        · intro j i _ _
          by_cases e1 : j = k ∧ i = k
          · rw [if_pos e1, if_pos (by omega)]
          · rw [if_neg e1]
            by_cases e2 : j < k ∧ i = j
            · rw [if_pos e2, if_pos (by omega)]
            · rw [if_neg e2, if_neg (by omega)]
      have hfin : Below w1.heap.size w1 (wr.setCell ⟨gw, k, none⟩ (.int .u8 ((1 : Nat) : Int))) := hb.setCell a2 _
      simp only [Int.cast_ofNat_Int] at HA hfin
      clear a4 a5 hW
      generalize ((grid n n fun j i => if j < k ∧ i = j then 1 else 0).getD k []).getD k 0 = y at *
      have d1 : (k : Int) < (n : Int) := by omega
      go_wp2_with fail
      exact ⟨⟨k + 1, by omega, rfl, HA, hfin⟩, by simp [intOf]; omega⟩
    · obtain rfl : k = n := by omega
      go_wp2_with fail
      go_ret2
      have hW' := hW.out
      rw [grid_congr (f' := fun j i => if i = j then 1 else 0) (fun j i hj _ => by
        by_cases e : i = j
        · rw [if_pos ⟨hj, e⟩, if_pos e]
        · rw [if_neg (fun h => e h.2), if_neg e])] at hW'
      exact ⟨_, rfl, grid_new hW' (by omega) (by omega), hb⟩
theorem one_any (n : Int) (w : World) :
    Calls Try.prog 9 #[.int .i64 n] w fun e w' => ∃ r, e = .returned (.tuple #[r, .int .i64 (err1 n)]) ∧ NewMat w.heap.size w' r (ans1 n) ∧ Below w.heap.size w w' := by
  cases h : okN n
  · have h' : ¬ (1 ≤ n ∧ n ≤ 12) := of_decide_eq_false h
    have hE : err1 n = 1 := by simp [err1, h]
    have hA : ans1 n = [] := by simp [ans1, h]
    rw [hE, hA]
    go_enter Try.func9, Try.ntmps9
    go_wp2_with fail
    refine (maySize_f _ h' _).mono ?_
    rintro e w1 ⟨rfl, rfl⟩
    go_wp2_with fail
    go_ret2
    exact ⟨.slice none 0 0, rfl, NewMat.nil _ _, Below.refl _ _⟩
  · have h' : 1 ≤ n ∧ n ≤ 12 := of_decide_eq_true h
    obtain ⟨k, rfl⟩ : ∃ k : Nat, n = (k : Int) := ⟨n.toNat, by omega⟩
    have hE : err1 (k : Int) = 0 := by simp [err1, h]
    have hA : ans1 (k : Int) = oneM k := by simp [ans1, h]
    rw [hE, hA]
    exact one_t k (by omega) (by omega) w
end Go.Proofs.Ytnihohcdamhidaa
