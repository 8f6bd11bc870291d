/- The contracts of the document's own answers. -/
import Derived.Test.YtfbjpgcgdhhfnaaAid
import Derived.Laws.ShiftsVar
import Derived.Laws.ShiftsVarLaws
namespace Go.Proofs.Ytfbjpgcgdhhfnaa
open Go.RowKit
theorem bne_nat (n : Nat) : (((n : Nat) : Int) != 0) = decide (n ≠ 0) := by
  by_cases h : n = 0
  · subst h; rfl
  · rw [decide_eq_true h, bne_iff_ne]; omega
theorem testA (b k : Nat) (hb : b < 256) (hk : k < 8) : (bits .and .u8 (b : Int) ((2 : Int) ^ k % 256) != 0) = b.testBit k := by
  have h2 : (2 : Nat) ^ k < 256 := Nat.pow_lt_pow_right (a := 2) (by decide) (show k < 8 by omega)
  have e : ((2 : Int) ^ k % 256) = ((2 ^ k : Nat) : Int) := by
    rw [show ((2 : Int) ^ k) = ((2 ^ k : Nat) : Int) by simp]; generalize (2 : Nat) ^ k = z at *; omega
  rw [e, u8_and_nat b _ hb h2, bne_nat]
  cases hb : b.testBit k
  · rw [decide_eq_false_iff_not]; intro h; rw [(and_pow_ne b k).1 h] at hb; cases hb
  · rw [decide_eq_true_iff]; exact (and_pow_ne b k).2 hb
theorem valA (p a k : Nat) (hp : p < 2 ^ 16) (ha : a < 256) (hk : k < 8) : bits .xor .i64 (p : Int) (wrap64 ((a : Int) * 2 ^ k)) = ((p ^^^ (a <<< k) : Nat) : Int) := by
  have h2 : a * 2 ^ k ≤ 255 * 2 ^ 7 := Nat.mul_le_mul (by omega) (Nat.pow_le_pow_right (by decide) (by omega))
  have e : wrap64 ((a : Int) * 2 ^ k) = ((a * 2 ^ k : Nat) : Int) := by
    rw [show ((a : Int) * 2 ^ k) = ((a * 2 ^ k : Nat) : Int) by simp]
    unfold wrap64; omega
  rw [e, i64_xor_nat _ _ (by omega) (by omega), Nat.shiftLeft_eq]
theorem wrap_pow (k : Nat) (hk : k < 15) : wrap64 ((2 : Int) ^ k) = ((2 ^ k : Nat) : Int) := by
  have h2 : (2 : Nat) ^ k < 2 ^ 15 := Nat.pow_lt_pow_right (by decide) hk
  rw [show ((2 : Int) ^ k) = ((2 ^ k : Nat) : Int) by simp]
  generalize (2 : Nat) ^ k = z at *
  unfold wrap64; omega
theorem valB (p k : Nat) (hp : p < 2 ^ 16) (hk : k < 7) : bits .xor .i64 (p : Int) (wrap64 (285 * 2 ^ k)) = ((p ^^^ (285 <<< k) : Nat) : Int) := by
  have h2 : 285 * 2 ^ k ≤ 285 * 2 ^ 6 := Nat.mul_le_mul (by omega) (Nat.pow_le_pow_right (by decide) (by omega))
  have e : wrap64 ((285 : Int) * 2 ^ k) = ((285 * 2 ^ k : Nat) : Int) := by
    rw [show ((285 : Int) * 2 ^ k) = ((285 * 2 ^ k : Nat) : Int) by simp]
    generalize 285 * (2 : Nat) ^ k = z at *
    unfold wrap64; omega
  rw [e, Nat.shiftLeft_eq]
  generalize 285 * (2 : Nat) ^ k = z at *
  rw [i64_xor_nat _ _ (by omega) (by omega)]
theorem testB (p k : Nat) (hp : p < 2 ^ 16) (hk : k < 15) : (bits .and .i64 (p : Int) (wrap64 (2 ^ k)) != 0) = p.testBit k := by
  have h2 : (2 : Nat) ^ k < 2 ^ 15 := Nat.pow_lt_pow_right (by decide) hk
  rw [wrap_pow k hk, i64_and_nat p _ (by omega) (by omega), bne_nat]
  cases hb : p.testBit k
  · rw [decide_eq_false_iff_not]; intro h; rw [(and_pow_ne p k).1 h] at hb; cases hb
  · rw [decide_eq_true_iff]; exact (and_pow_ne p k).2 hb
set_option maxRecDepth 20000 in
theorem refMul_any (a b : Nat) (ha : a < 256) (hb : b < 256) (w : World) :
    Calls Try.prog 26 #[.int .u8 (a : Int), .int .u8 (b : Int)] w fun e w' => e = .returned (.int .u8 ((Fld.mul a b : Nat) : Int)) ∧ w' = w := by
  have HM : Hid (Fld.redB (Fld.sumA a b 8) 7 = Fld.mul a b) := Fld.red_mul ha hb
  have HB : Hid (∀ k, k ≤ 7 → Fld.redB (Fld.sumA a b 8) k < 2 ^ 16) := fun k hk => Fld.redB_lt (Fld.sumA_lt b ha 8 (by omega)) k hk
  have HL : Hid (Fld.mul a b < 256) := Fld.mul_lt a b
  go_enter Try.func26, Try.ntmps26
  go_wp2_with fail
  go_loopw [6, 7] (fun vp vi wr => ∃ k : Nat, k ≤ 8 ∧ vi = .int .i64 (k : Int) ∧ vp = .int .i64 ((Fld.sumA a b k : Nat) : Int) ∧ wr = w) (fun _ vi _ => 8 - (intOf vi).toNat)
  case atStart => exact ⟨0, by omega, rfl, rfl, rfl⟩
  case round =>
    obtain ⟨k, hk, rfl, rfl, rfl⟩ := hrel
    by_cases hlt : k < 8
    · have hT := testA b k hb hlt
      have hp := Fld.sumA_lt b ha k (by omega)
      have hv : Hid _ := valA (Fld.sumA a b k) a k hp ha hlt
      have HS : Hid (Fld.sumA a b (k + 1) = Fld.sumA a b k ^^^ (if b.testBit k then a <<< k else 0)) := rfl
      cases hbk : b.testBit k
      · rw [hbk] at hT HS
        go_wp2_with fail
        exact ⟨⟨k + 1, by omega, rfl, by rw [HS.out]; simp, trivial⟩, by simp [intOf]; omega⟩
      · rw [hbk] at hT HS
        go_wp2_with fail
        exact ⟨⟨k + 1, by omega, rfl, by rw [HS.out, hv.out]; simp, trivial⟩, by simp [intOf]; omega⟩
    · obtain rfl : k = 8 := by omega
      generalize Fld.sumA a b 8 = q at *
      go_wp2_with fail
      go_loopw [6, 8] (fun vp vi wr' => ∃ j : Nat, j ≤ 7 ∧ vi = .int .i64 (14 - (j : Int)) ∧ vp = .int .i64 ((Fld.redB q j : Nat) : Int) ∧ wr' = wr) (fun _ vi _ => (intOf vi).toNat)
      case atStart => exact ⟨0, by omega, rfl, rfl, rfl⟩
      case round =>
        obtain ⟨j, hj, rfl, rfl, rfl⟩ := hrel
        by_cases hlt : j < 7
        · have d0 : decide ((8 : Int) ≤ 14 - (j : Int)) = true := by simp; omega
          have hp := HB.out j (by omega)
          have hT := testB (Fld.redB q j) (14 - j) hp (by omega)
          have hv : Hid _ := valB (Fld.redB q j) (14 - j - 8) hp (by omega)
          have HS : Hid (Fld.redB q (j + 1) = Fld.redB q j ^^^ (if (Fld.redB q j).testBit (14 - j) then 285 <<< (14 - j - 8) else 0)) := rfl
          cases hbk : (Fld.redB q j).testBit (14 - j)
          · rw [hbk] at hT HS
            go_wp2_with fail
            exact ⟨⟨j + 1, by omega, by go_num, by rw [HS.out]; simp, trivial⟩, by simp [intOf]; omega⟩
          · rw [hbk] at hT HS
            go_wp2_with fail
            exact ⟨⟨j + 1, by omega, by go_num, by rw [HS.out, hv.out]; simp, trivial⟩, by simp [intOf]; omega⟩
        · obtain rfl : j = 7 := by omega
          have hl := HL.out
          rw [HM.out]
          go_wp2_with fail
          go_ret
          exact ⟨ret_int (by omega), rfl⟩
end Go.Proofs.Ytfbjpgcgdhhfnaa
