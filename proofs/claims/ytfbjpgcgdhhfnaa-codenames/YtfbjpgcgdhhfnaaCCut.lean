/- putLength and cut. -/
import Derived.Test.YtfbjpgcgdhhfnaaCSize
namespace Go.Proofs.Ytfbjpgcgdhhfnaa
open Go.RowKit
/-- the last k bytes of the length are written -/
def lenTo (F : Nat → Nat) (n k : Nat) : Nat → Nat := fun i => if i < 8 ∧ 8 - k ≤ i then lenB n i else F i
theorem lenTo_zero (F : Nat → Nat) (n : Nat) : lenTo F n 0 = F := by funext i; unfold lenTo; rw [if_neg (by omega)]
theorem lenTo_set (F : Nat → Nat) (n k M : Nat) (hk : k < 8) : rowN M (fun i => if i = 7 - k then lenB n (7 - k) else lenTo F n k i) = rowN M (lenTo F n (k + 1)) := rowN_congr fun i _ => by
  unfold lenTo
  by_cases h : i = 7 - k
  · subst h; rw [if_pos rfl, if_pos (by omega)]
  · rw [if_neg h]
    by_cases h2 : i < 8 ∧ 8 - k ≤ i
    · rw [if_pos h2, if_pos (by omega)]
    · rw [if_neg h2, if_neg (by omega)]
set_option maxRecDepth 20000 in
theorem putLength_any (g M cap n : Nat) (F : Nat → Nat) (w : World) (hG : Has w g (U8s (rowN M F)) 5) (hM : 8 ≤ M) (hM6 : M ≤ 1000000) (_hn : n ≤ 32768) :
    Calls Try.prog 20 #[.slice (some ⟨g, 0, none⟩) M cap, .int .i64 (n : Int)] w fun e w' => e = .returned (.tuple #[]) ∧ Has w' g (U8s (rowN M (lenTo F n 8))) 5 ∧ Keeps g (g + 1) w w' := by
  have hG0 : Hid (Has w g (U8s (rowN M (lenTo F n 0))) 5) := by unfold Hid; rw [lenTo_zero]; exact hG
  clear hG
  go_enter Try.func20, Try.ntmps20
  go_wp2_with fail
  go_loopw [5] (fun vi wr => ∃ k : Nat, k ≤ 8 ∧ vi = .int .i64 (k : Int) ∧ Hid (Has wr g (U8s (rowN M (lenTo F n k))) 5) ∧ Keeps g (g + 1) w wr) (fun vi _ => 8 - (intOf vi).toNat)
  case atStart => exact ⟨0, by omega, rfl, hG0, Keeps.refl _ _ _⟩
  case round =>
    obtain ⟨k, hk, rfl, hH, hK⟩ := hrel
    clear hG0
    by_cases hlt : k < 8
    · have d1 : (k : Int) < 8 := by omega
      obtain ⟨q, hq⟩ : ∃ q : Nat, Hid (q = 7 - k) := ⟨_, rfl⟩
      have hq' := hq.out
      have e1 : (7 : Int) - (k : Int) = (q : Int) := by omega
      have d2 : (q : Int) < (M : Int) := by omega
      have hql : q < M := by omega
      have q1 : wr.cell? ⟨g, q, none⟩ = some (.int .u8 ((lenTo F n k q : Nat) : Int)) := by
        rw [hH.out.cell, U8s_get _ _ (by rw [rowN_length]; omega), rowN_get _ _ _ hql]
      have q2 := hH.out.frozen q
      have hS := hH.out.set q (.int .u8 ((lenB n q : Nat) : Int))
      rw [U8s_set, rowN_set, hq.out, lenTo_set F n k M hlt, ← hq.out] at hS
      have HS := hid hS
      have K2 : Keeps g (g + 1) w (wr.setCell ⟨g, q, none⟩ (.int .u8 ((lenB n q : Nat) : Int))) := hK.set (Nat.le_refl _) (Nat.lt_succ_self _) _
      have HB : (n : Int) / 2 ^ (8 * k) % 256 = ((lenB n q : Nat) : Int) := by
        unfold lenB
        rw [show 7 - q = k by omega, show (256 : Nat) ^ k = 2 ^ (8 * k) by rw [Nat.pow_mul]]
        simp
      have hxl := lenB_lt n q
      generalize lenB n q = x at *
      generalize lenTo F n k q = y at *
      clear hH hS hq'
      go_wp2_with fail
      exact ⟨⟨k + 1, by omega, by simp, HS, K2⟩, by simp [intOf]; omega⟩
    · obtain rfl : k = 8 := by omega
      go_wp2_with fail
      go_end0
      exact ⟨rfl, hH.out, hK⟩
/-- the pieces of a list -/
def cutV (g z i : Nat) : Value := .slice (some ⟨g, i * z, none⟩) z z
def cutTo (g z C k : Nat) : Array Value := ((List.range C).map fun i => if i < k then cutV g z i else .slice none 0 0).toArray
theorem cutTo_get (g z C k i : Nat) (hi : i < C) : (cutTo g z C k)[i]? = some (if i < k then cutV g z i else .slice none 0 0) := by simp [cutTo, hi]
theorem cutTo_zero (g z C : Nat) : noRows C = cutTo g z C 0 := by
  unfold noRows cutTo
  congr 1
  apply List.ext_getElem
  · simp
  · intro i h1 h2; simp
theorem cutTo_set (g z C k : Nat) : (cutTo g z C k).setIfInBounds k (cutV g z k) = cutTo g z C (k + 1) := by
  unfold cutTo
  rw [List.setIfInBounds_toArray]
  congr 1
  apply List.ext_getElem
  · simp
  · intro i h1 h2
    rw [List.getElem_set]
    by_cases h : k = i
    · subst h; simp
    · rw [if_neg h]
      simp only [List.getElem_map, List.getElem_range]
      by_cases h3 : i < k
      · rw [if_pos h3, if_pos (by omega)]
      · rw [if_neg h3, if_neg (by omega)]
set_option maxRecDepth 20000 in
theorem cut_any (g M cap C z : Nat) (w : World) (hC : 0 < C) (hz : 0 < z) (hC6 : C ≤ 1000000) (hM : M = C * z) (hcap : M ≤ cap) (hcap6 : cap ≤ 1000000) :
    Calls Try.prog 21 #[.slice (some ⟨g, 0, none⟩) M cap, .int .i64 (C : Int)] w fun e w' => e = .returned (.slice (some ⟨w.heap.size, 0, none⟩) C C) ∧ Has w' w.heap.size (cutTo g z C C) 31 ∧ Below w.heap.size w w' := by
  have hmk := makes_rows C hC6
  have hdv : (M : Int) / (C : Int) = (z : Int) := by
    rw [hM, show ((C * z : Nat) : Int) / (C : Int) = ((C * z / C : Nat) : Int) from rfl, Nat.mul_div_cancel_left _ hC]
  have hC0 : ((C : Int) == 0) = false := by rw [beq_eq_false_iff_ne]; omega
  have hC1 : ¬ (C : Int) = 0 := by omega
  have HM := hid hM
  have h0 : Hid (Has (w.alloc (.cells (noRows C) 31)) w.heap.size (cutTo g z C 0) 31) := by
    unfold Hid; rw [← cutTo_zero]; exact Has.new w _ _ _ rfl
  have hz6 : z ≤ M := by rw [hM]; exact Nat.le_mul_of_pos_left z hC
  clear hM
  go_enter Try.func21, Try.ntmps21
  go_wp2_with fail
  go_loopw [18] (fun vi wr => ∃ k : Nat, k ≤ C ∧ vi = .int .i64 (k : Int) ∧ Hid (Has wr w.heap.size (cutTo g z C k) 31) ∧ Below w.heap.size w wr) (fun vi _ => C - (intOf vi).toNat)
  case atStart => exact ⟨0, by omega, rfl, h0, (Below.refl _ _).alloc (Nat.le_refl _) _⟩
  case round =>
    obtain ⟨k, hk, rfl, hH, hb⟩ := hrel
    clear h0 hmk
    by_cases hlt : k < C
    · have d1 : (k : Int) < (C : Int) := by omega
      have q1 := (hH.out.cell k).trans (cutTo_get g z C k k hlt)
      have q2 := hH.out.frozen k
      have hS := hH.out.set k (cutV g z k)
      rw [cutTo_set] at hS
      have HS := hid hS
      have B2 : Below w.heap.size w (wr.setCell ⟨w.heap.size, k, none⟩ (cutV g z k)) := hb.setCell (Nat.le_refl _) _
      unfold cutV at HS B2 q1
      have e2 : (k + 1) * z = k * z + z := Nat.succ_mul k z
      have e3 : k * z + z ≤ M := by rw [HM.out, ← e2]; exact Nat.mul_le_mul_right _ hlt
      have m1 : (k : Int) * (z : Int) = ((k * z : Nat) : Int) := by simp
      have m2 : ((k : Int) + 1) * (z : Int) = ((k * z + z : Nat) : Int) := by
        rw [← e2]; simp
      generalize k * z = a at *
      have d3 : (a : Int) ≤ ((a + z : Nat) : Int) := by omega
      have d4 : ((a + z : Nat) : Int) ≤ (cap : Int) := by omega
      have ee : a + z - a = z := by omega
      rw [if_neg (Nat.lt_irrefl k)] at q1
      have hz0 : ¬ z = 0 := by omega
      clear hH hS e2
      go_wp2_with fail
      exact ⟨⟨k + 1, by omega, by simp, HS, B2⟩, by simp [intOf]; omega⟩
    · obtain rfl : k = C := by omega
      go_wp2_with fail
      go_ret
      exact ⟨rfl, hH.out, hb⟩
end Go.Proofs.Ytfbjpgcgdhhfnaa
