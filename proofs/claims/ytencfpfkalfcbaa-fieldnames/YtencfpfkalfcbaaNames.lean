/- FieldNames: its walk. -/
import Derived.Test.YtencfpfkalfcbaaMore
namespace Go.Proofs.Ytencfpfkalfcbaa
open Go.RowKit
theorem exp_m1 (v : Value) (w : World) (hf : IsF w v) : Calls Try.prog 15 #[v, .int .i64 (-1)] w fun e w' => e = .returned (.int .u8 142) ∧ Below w.heap.size w w' :=
  exp_any v (-1) w hf
theorem exp_255 (v : Value) (w : World) (hf : IsF w v) : Calls Try.prog 15 #[v, .int .i64 255] w fun e w' => e = .returned (.int .u8 1) ∧ Below w.heap.size w w' :=
  exp_any v 255 w hf
set_option maxRecDepth 20000 in
set_option maxHeartbeats 2000000 in
theorem names_walk (w : World) :
    Calls Try.prog 4 #[] w fun e w' => e = .returned (.bool true) ∧ Below w.heap.size w w' := by
  go_enter Try.func4, Try.ntmps4
  go_wp2_with fail
  refine (new_f w).mono ?_
  rintro e w1 ⟨rfl, f1, B1⟩
  go_wp2_with fail
  go_loopw [3] (fun vi wr => ∃ k : Nat, k ≤ 256 ∧ vi = .int .i64 (k : Int) ∧ IsF wr (.pointer (some ⟨w.heap.size, 0, none⟩)) ∧ Below w.heap.size w wr) (fun vi _ => 256 - (intOf vi).toNat)
  case atStart => exact ⟨0, by omega, rfl, f1, B1⟩
  case round =>
    clear f1 B1
    obtain ⟨k, hk, rfl, f1, B1⟩ := hrel
    by_cases hlt : k < 256
    · have e2 : IntKind.u8.wrap (k : Int) = (k : Int) := by rw [IntKind.wrap_u8']; omega
      obtain ⟨iv, hiv⟩ : ∃ iv, (if k = 0 then 0 else Fld.inv k) = iv := ⟨_, rfl⟩
      obtain ⟨lv, hlv⟩ : ∃ lv, (if k = 0 then 0 else Fld.lg k) = lv := ⟨_, rfl⟩
      obtain ⟨t, ht⟩ : ∃ t, decide (k ≠ 0) = t := ⟨_, rfl⟩
      have ht2 : decide ((0 : Int) < (k : Int)) = t := by rw [← ht]; apply decide_eq_decide.2; omega
      have ht3 : decide (0 < k) = t := by rw [← ht]; apply decide_eq_decide.2; omega
      go_wp2_with fail
      refine (mul_any _ k 2 hlt (by decide) _ f1).mono ?_
      rintro e w2 ⟨rfl, b2⟩
      have f2 := f1.below b2
      have B2 := belowCall B1 b2
      clear B1 b2 f1
      go_wp2_with fail
      refine (refMul_any k 2 hlt (by decide) _).mono ?_
      rintro e w3 ⟨rfl, rfl⟩
      have f3 := f2
      have B3 := B2
      clear f2 B2
      go_wp2_with fail
      refine (mul_any _ 255 k (by decide) hlt _ f3).mono ?_
      rintro e w4 ⟨rfl, b4⟩
      have f4 := f3.below b4
      have B4 := belowCall B3 b4
      clear B3 b4 f3
      go_wp2_with fail
      refine (refMul_any 255 k (by decide) hlt _).mono ?_
      rintro e w5 ⟨rfl, rfl⟩
      have f5 := f4
      have B5 := B4
      clear f4 B4
      go_wp2_with fail
      refine (mul_any _ k 3 hlt (by decide) _ (.inl rfl)).mono ?_
      rintro e w6 ⟨rfl, b6⟩
      have f6 := f5.below b6
      have B6 := belowCall B5 b6
      clear B5 b6 f5
      go_wp2_with fail
      refine (mul_any _ k 3 hlt (by decide) _ f6).mono ?_
      rintro e w7 ⟨rfl, b7⟩
      have f7 := f6.below b7
      have B7 := belowCall B6 b7
      clear B6 b7 f6
      go_wp2_with fail
      refine (inv_g _ k hlt iv t hiv ht _ (.inl rfl)).mono ?_
      rintro e w8 ⟨rfl, b8⟩
      have f8 := f7.below b8
      have B8 := belowCall B7 b8
      clear B7 b8 f7
      go_wp2_with fail
      refine (inv_g _ k hlt iv t hiv ht _ f8).mono ?_
      rintro e w9 ⟨rfl, b9⟩
      have f9 := f8.below b9
      have B9 := belowCall B8 b9
      clear B8 b9 f8
      go_wp2_with fail
      refine (log_g _ k hlt lv t hlv ht _ (.inl rfl)).mono ?_
      rintro e w10 ⟨rfl, b10⟩
      have f10 := f9.below b10
      have B10 := belowCall B9 b10
      clear B9 b10 f9
      go_wp2_with fail
      refine (log_g _ k hlt lv t hlv ht _ f10).mono ?_
      rintro e w11 ⟨rfl, b11⟩
      have f11 := f10.below b11
      have B11 := belowCall B10 b11
      clear B10 b11 f10
      go_wp2_with fail
      refine (exp_any _ (k : Int) _ (.inl rfl)).mono ?_
      rintro e w12 ⟨rfl, b12⟩
      have f12 := f11.below b12
      have B12 := belowCall B11 b12
      clear B11 b12 f11
      go_wp2_with fail
      refine (exp_any _ (k : Int) _ f12).mono ?_
      rintro e w13 ⟨rfl, b13⟩
      have f13 := f12.below b13
      have B13 := belowCall B12 b13
      clear B12 b13 f12
      go_wp2_with fail
      go_roundw
      case rel => exact ⟨k + 1, by omega, rfl, f13, B13⟩
      case measure => simp [intOf]; omega
    · obtain rfl : k = 256 := by omega
      go_wp2_with fail
      refine (add_53 _ _).mono ?_
      rintro e w2 ⟨rfl, b2⟩
      have f2 := f1.below b2
      have B2 := belowCall B1 b2
      clear B1 b2 f1
      go_wp2_with fail
      refine (exp_m1 _ _ f2).mono ?_
      rintro e w3 ⟨rfl, b3⟩
      have f3 := f2.below b3
      have B3 := belowCall B2 b3
      clear B2 b3 f2
      go_wp2_with fail
      refine (exp_255 _ _ f3).mono ?_
      rintro e w4 ⟨rfl, b4⟩
      have f4 := f3.below b4
      have B4 := belowCall B3 b4
      clear B3 b4 f3
      go_wp2_with fail
      refine (exp_any _ (-9223372036854775808) _ f4).mono ?_
      rintro e w5 ⟨rfl, b5⟩
      have f5 := f4.below b5
      have B5 := belowCall B4 b5
      clear B4 b5 f4
      go_wp2_with fail
      refine (refExp_any (-9223372036854775808) _).mono ?_
      rintro e w6 ⟨rfl, rfl⟩
      have f6 := f5
      have B6 := B5
      clear f5 B5
      go_wp2_with fail
      refine (exp_any _ 9223372036854775807 _ f6).mono ?_
      rintro e w7 ⟨rfl, b7⟩
      have f7 := f6.below b7
      have B7 := belowCall B6 b7
      clear B6 b7 f6
      go_wp2_with fail
      refine (refExp_any 9223372036854775807 _).mono ?_
      rintro e w8 ⟨rfl, rfl⟩
      have f8 := f7
      have B8 := B7
      clear f7 B7
      go_wp2_with fail
      refine (awake_true _).mono ?_
      rintro e w9 ⟨rfl, b9⟩
      have f9 := f8.below b9
      have B9 := belowCall B8 b9
      clear B8 b9 f8
      go_wp2_with fail
      go_ret
      exact ⟨rfl, B9⟩
end Go.Proofs.Ytencfpfkalfcbaa
