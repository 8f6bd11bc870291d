/- The contracts of the document's inverses, logarithms and powers. -/
import Derived.Test.YtfbjpgcgdhhfnaaRef
import Derived.Test.YtfbjpgcgdhhfnaaMethods
namespace Go.Proofs.Ytfbjpgcgdhhfnaa
open Go.RowKit
theorem beq_nat (n m : Nat) : ((n : Int) == (m : Int)) = decide (n = m) := by
  by_cases h : n = m
  · subst h; simp
  · rw [decide_eq_false h, beq_eq_false_iff_ne]; omega
set_option maxRecDepth 20000 in
set_option maxHeartbeats 1000000 in
theorem refInv_any (a : Nat) (ha : a < 256) (w : World) :
    Calls Try.prog 38 #[.int .u8 (a : Int)] w fun e w' => e = .returned (.tuple #[.int .u8 ((if a = 0 then 0 else Fld.inv a : Nat) : Int), .bool (decide (a ≠ 0))]) ∧ w' = w := by
  by_cases h0 : a = 0
  · subst h0
    go_enter Try.func38, Try.ntmps38
    go_wp2_with fail
    go_loopw [4] (fun vi wr => ∃ k : Nat, 1 ≤ k ∧ k ≤ 256 ∧ vi = .int .i64 (k : Int) ∧ wr = w) (fun vi _ => 256 - (intOf vi).toNat)
    case atStart => exact ⟨1, by omega, by omega, rfl, rfl⟩
    case round =>
      obtain ⟨k, hk1, hk, rfl, rfl⟩ := hrel
      by_cases hlt : k < 256
      · have e2 : IntKind.u8.wrap (k : Int) = (k : Int) := by rw [IntKind.wrap_u8']; omega
        go_wp2_with fail
        refine (refMul_any 0 k (by decide) hlt _).mono ?_
        rintro e w1 ⟨rfl, rfl⟩
        rw [Fld.zero_mul]
        go_wp2_with fail
        go_roundw
        case rel =>
          (repeat apply Exists.intro)
          refine ⟨?_, rfl⟩
          exact ⟨k + 1, by omega, by omega, rfl, trivial⟩
        case measure => simp [intOf]; omega
      · obtain rfl : k = 256 := by omega
        go_wp2_with fail
        go_ret2
        exact ⟨rfl, rfl⟩
  · have HR : Hid (Ending.returned (.tuple #[.int .u8 ((if a = 0 then 0 else Fld.inv a : Nat) : Int), .bool (decide (a ≠ 0))]) = .returned (.tuple #[.int .u8 ((Fld.inv a : Nat) : Int), .bool true])) := by
      unfold Hid; rw [if_neg h0, decide_eq_true h0]
    have HI : Hid (∀ b, b < 256 → (Fld.mul a b = 1 ↔ b = Fld.inv a)) := fun b hb => Fld.mul_one_iff ha hb h0
    have hi := Fld.inv_lt a
    have hi0 := Fld.inv_ne a
    rw [HR.out]
    clear HR
    generalize Fld.inv a = z at *
    go_enter Try.func38, Try.ntmps38
    go_wp2_with fail
    go_loopw [4] (fun vi wr => ∃ k : Nat, 1 ≤ k ∧ k ≤ z ∧ vi = .int .i64 (k : Int) ∧ wr = w) (fun vi _ => 256 - (intOf vi).toNat)
    case atStart => exact ⟨1, by omega, by omega, rfl, rfl⟩
    case round =>
      obtain ⟨k, hk1, hk, rfl, rfl⟩ := hrel
      have hlt : k < 256 := by omega
      have e2 : IntKind.u8.wrap (k : Int) = (k : Int) := by rw [IntKind.wrap_u8']; omega
      have HM := HI.out k hlt
      by_cases hz : k = z
      · have hT : Hid (Fld.mul a k = 1) := HM.2 hz
        clear HM
        subst hz
        go_wp2_with fail
        refine (refMul_any a k ha hlt _).mono ?_
        rintro e w1 ⟨rfl, rfl⟩
        rw [hT.out]
        go_wp2_with fail
        go_ret2
        exact ⟨rfl, rfl⟩
      · have hT : ¬ Fld.mul a k = 1 := fun h => hz (HM.1 h)
        have hT' : (((Fld.mul a k : Nat) : Int) == 1) = false := by rw [beq_eq_false_iff_ne]; omega
        clear HM hT
        go_wp2_with fail
        refine (refMul_any a k ha hlt _).mono ?_
        rintro e w1 ⟨rfl, rfl⟩
        go_wp2_with fail
        go_roundw
        case rel => exact ⟨k + 1, by omega, by omega, rfl, trivial⟩
        case measure => simp [intOf]; omega
end Go.Proofs.Ytfbjpgcgdhhfnaa
