/- FieldTells, FieldPowers: their walks. -/
import Derived.Test.YtencfpfkalfcbaaFLaws
namespace Go.Proofs.Ytencfpfkalfcbaa
open Go.RowKit
theorem log_zero (v : Value) (a : Nat) (h0 : a = 0) (w : World) (hf : IsF w v) : Calls Try.prog 10 #[v, .int .u8 (a : Int)] w fun e w' => e = .returned (.tuple #[.int .i64 0, .bool false]) ∧ Below w.heap.size w w' := by
  subst h0; exact log_any v 0 (by decide) w hf
theorem log_nz (v : Value) (a : Nat) (ha : a < 256) (h0 : a ≠ 0) (w : World) (hf : IsF w v) : Calls Try.prog 10 #[v, .int .u8 (a : Int)] w fun e w' => e = .returned (.tuple #[.int .i64 ((Fld.lg a : Nat) : Int), .bool true]) ∧ Below w.heap.size w w' := by
  have := log_any v a ha w hf
  rw [if_neg h0, decide_eq_true h0] at this
  exact this
theorem log_g (v : Value) (a : Nat) (ha : a < 256) (z : Nat) (t : Bool) (hz : (if a = 0 then 0 else Fld.lg a) = z) (ht : decide (a ≠ 0) = t) (w : World) (hf : IsF w v) : Calls Try.prog 10 #[v, .int .u8 (a : Int)] w fun e w' => e = .returned (.tuple #[.int .i64 (z : Int), .bool t]) ∧ Below w.heap.size w w' := by
  subst hz ht; exact log_any v a ha w hf
theorem inv_g (v : Value) (a : Nat) (ha : a < 256) (z : Nat) (t : Bool) (hz : (if a = 0 then 0 else Fld.inv a) = z) (ht : decide (a ≠ 0) = t) (w : World) (hf : IsF w v) : Calls Try.prog 8 #[v, .int .u8 (a : Int)] w fun e w' => e = .returned (.tuple #[.int .u8 (z : Int), .bool t]) ∧ Below w.heap.size w w' := by
  subst hz ht; exact inv_any v a ha w hf
theorem refLog_g (a : Nat) (ha : a < 256) (z : Nat) (t : Bool) (hz : (if a = 0 then 0 else Fld.lg a) = z) (ht : decide (a ≠ 0) = t) (w : World) : Calls Try.prog 11 #[.int .u8 (a : Int)] w fun e w' => e = .returned (.tuple #[.int .i64 (z : Int), .bool t]) ∧ w' = w := by
  subst hz ht; exact refLog_any a ha w
theorem refInv_g (a : Nat) (ha : a < 256) (z : Nat) (t : Bool) (hz : (if a = 0 then 0 else Fld.inv a) = z) (ht : decide (a ≠ 0) = t) (w : World) : Calls Try.prog 9 #[.int .u8 (a : Int)] w fun e w' => e = .returned (.tuple #[.int .u8 (z : Int), .bool t]) ∧ w' = w := by
  subst hz ht; exact refInv_any a ha w
theorem tmod_bound (n N : Int) (h : Int.tmod n 1099511627776 = N) : -1099511627776 < N ∧ N < 1099511627776 := by
  by_cases h0 : 0 ≤ n
  · rw [Int.tmod_eq_emod_of_nonneg h0] at h; omega
  · have e : Int.tmod n 1099511627776 = -((-n) % 1099511627776) := by
      rw [show n = -(-n) by omega, Int.neg_tmod, Int.tmod_eq_emod_of_nonneg (by omega), Int.neg_neg]
    rw [e] at h; omega
set_option maxRecDepth 20000 in
set_option maxHeartbeats 2000000 in
theorem tells_walk (a b : Nat) (n : Int) (ha : a < 256) (hb : b < 256) (w : World) :
    Calls Try.prog 3 #[.int .u8 (a : Int), .int .u8 (b : Int), .int .i64 n] w fun e w' => e = .returned (.bool true) ∧ Below w.heap.size w w' := by
  obtain ⟨iv, hiv⟩ : ∃ iv, (if a = 0 then 0 else Fld.inv a) = iv := ⟨_, rfl⟩
  obtain ⟨lv, hlv⟩ : ∃ lv, (if a = 0 then 0 else Fld.lg a) = lv := ⟨_, rfl⟩
  obtain ⟨t, ht⟩ : ∃ t, decide (a ≠ 0) = t := ⟨_, rfl⟩
  have x1 : bits .xor .u8 (a : Int) (b : Int) = ((a ^^^ b : Nat) : Int) := u8_xor_nat a b ha hb
  go_enter Try.func3, Try.ntmps3
  go_wp2_with fail
  refine (new_f w).mono ?_
  rintro e w1 ⟨rfl, f1, B1⟩
  go_wp2_with fail
  refine (inv_g _ a ha iv t hiv ht _ f1).mono ?_
  rintro e w2 ⟨rfl, b2⟩
  have f2 := f1.below b2
  have B2 := belowCall B1 b2
  clear B1 b2 f1
  go_wp2_with fail
  refine (refInv_g a ha iv t hiv ht _).mono ?_
  rintro e w3 ⟨rfl, rfl⟩
  have f3 := f2
  have B3 := B2
  clear f2 B2
  go_wp2_with fail
  refine (log_g _ a ha lv t hlv ht _ f3).mono ?_
  rintro e w4 ⟨rfl, b4⟩
  have f4 := f3.below b4
  have B4 := belowCall B3 b4
  clear B3 b4 f3
  go_wp2_with fail
  refine (refLog_g a ha lv t hlv ht _).mono ?_
  rintro e w5 ⟨rfl, rfl⟩
  have f5 := f4
  have B5 := B4
  clear f4 B4
  go_wp2_with fail
  refine (add_any _ a b ha hb _).mono ?_
  rintro e w6 ⟨rfl, b6⟩
  have f6 := f5.below b6
  have B6 := belowCall B5 b6
  clear B5 b6 f5
  go_wp2_with fail
  refine (mul_any _ a b ha hb _ f6).mono ?_
  rintro e w7 ⟨rfl, b7⟩
  have f7 := f6.below b7
  have B7 := belowCall B6 b7
  clear B6 b7 f6
  go_wp2_with fail
  refine (refMul_any a b ha hb _).mono ?_
  rintro e w8 ⟨rfl, rfl⟩
  have f8 := f7
  have B8 := B7
  clear f7 B7
  go_wp2_with fail
  refine (exp_any _ n _ f8).mono ?_
  rintro e w9 ⟨rfl, b9⟩
  have f9 := f8.below b9
  have B9 := belowCall B8 b9
  clear B8 b9 f8
  go_wp2_with fail
  refine (refExp_any n _).mono ?_
  rintro e w10 ⟨rfl, rfl⟩
  have f10 := f9
  have B10 := B9
  clear f9 B9
  go_wp2_with fail
  refine (awake_true _).mono ?_
  rintro e w11 ⟨rfl, b11⟩
  have f11 := f10.below b11
  have B11 := belowCall B10 b11
  clear B10 b11 f10
  go_wp2_with fail
  go_ret
  exact ⟨rfl, B11⟩
set_option maxRecDepth 20000 in
set_option maxHeartbeats 2000000 in
theorem powers_walk (n m : Int) (a b : Nat) (ha : a < 256) (hb : b < 256) (w : World) :
    Calls Try.prog 6 #[.int .i64 n, .int .i64 m, .int .u8 (a : Int), .int .u8 (b : Int)] w fun e w' => e = .returned (.bool true) ∧ Below w.heap.size w w' := by
  obtain ⟨N, hN⟩ : ∃ N, Int.tmod n 1099511627776 = N := ⟨_, rfl⟩
  obtain ⟨M, hM⟩ : ∃ M, Int.tmod m 1099511627776 = M := ⟨_, rfl⟩
  have n1 := tmod_bound n N hN
  have m1 := tmod_bound m M hM
  have e1 : IntKind.i64.wrap (N + M) = N + M := wrap_i64_of (by omega) (by omega)
  have e2 : IntKind.i64.wrap (-N) = -N := wrap_i64_of (by omega) (by omega)
  go_enter Try.func6, Try.ntmps6
  go_wp2_with fail
  refine (new_f w).mono ?_
  rintro e w1 ⟨rfl, f1, B1⟩
  go_wp2_with fail
  refine (awake_true _).mono ?_
  rintro e w2 ⟨rfl, b2⟩
  have f2 := f1.below b2
  have B2 := belowCall B1 b2
  clear B1 b2 f1
  go_wp2_with fail
  refine (exp_any _ (N + M) _ f2).mono ?_
  rintro e w3 ⟨rfl, b3⟩
  have f3 := f2.below b3
  have B3 := belowCall B2 b3
  clear B2 b3 f2
  go_wp2_with fail
  refine (exp_any _ N _ f3).mono ?_
  rintro e w4 ⟨rfl, b4⟩
  have f4 := f3.below b4
  have B4 := belowCall B3 b4
  clear B3 b4 f3
  go_wp2_with fail
  refine (exp_any _ M _ f4).mono ?_
  rintro e w5 ⟨rfl, b5⟩
  have f5 := f4.below b5
  have B5 := belowCall B4 b5
  clear B4 b5 f4
  go_wp2_with fail
  refine (mul_any _ (Fld.exp N) (Fld.exp M) (Fld.exp_lt N) (Fld.exp_lt M) _ f5).mono ?_
  rintro e w6 ⟨rfl, b6⟩
  have f6 := f5.below b6
  have B6 := belowCall B5 b6
  clear B5 b6 f5
  rw [← Fld.exp_add]
  go_wp2_with fail
  refine (exp_any _ N _ f6).mono ?_
  rintro e w7 ⟨rfl, b7⟩
  have f7 := f6.below b7
  have B7 := belowCall B6 b7
  clear B6 b7 f6
  go_wp2_with fail
  refine (exp_any _ (-N) _ f7).mono ?_
  rintro e w8 ⟨rfl, b8⟩
  have f8 := f7.below b8
  have B8 := belowCall B7 b8
  clear B7 b8 f7
  go_wp2_with fail
  refine (mul_any _ (Fld.exp N) (Fld.exp (-N)) (Fld.exp_lt N) (Fld.exp_lt (-N)) _ f8).mono ?_
  rintro e w9 ⟨rfl, b9⟩
  have f9 := f8.below b9
  have B9 := belowCall B8 b9
  clear B8 b9 f8
  rw [Fld.exp_neg]
  by_cases a0 : a = 0
  · have q1 : ((a : Int) != 0) = false := by rw [a0]; rfl
    have m0 : Hid (Fld.mul a b = 0) := by unfold Hid; rw [a0]; exact Fld.zero_mul b
    have a0' : Hid _ := a0
    clear a0
    go_wp2_with fail
    refine (log_zero _ a a0'.out _ f9).mono ?_
    rintro e w10 ⟨rfl, b10⟩
    have f10 := f9.below b10
    have B10 := belowCall B9 b10
    clear B9 b10 f9
    go_wp2_with fail
    refine (log_g _ b hb _ _ rfl rfl _ f10).mono ?_
    rintro e w11 ⟨rfl, b11⟩
    have f11 := f10.below b11
    have B11 := belowCall B10 b11
    clear B10 b11 f10
    generalize (if b = 0 then 0 else Fld.lg b) = lb
    generalize decide (b ≠ 0) = tb
    go_wp2_with fail
    refine (mul_any _ a b ha hb _ f11).mono ?_
    rintro e w12 ⟨rfl, b12⟩
    have f12 := f11.below b12
    have B12 := belowCall B11 b12
    clear B11 b12 f11
    rw [m0.out]
    go_wp2_with fail
    refine (log_zero _ 0 rfl _ f12).mono ?_
    rintro e w13 ⟨rfl, b13⟩
    have f13 := f12.below b13
    have B13 := belowCall B12 b13
    clear B12 b13 f12
    go_wp2_with fail
    go_ret
    exact ⟨rfl, B13⟩
  · have q1 : ((a : Int) != 0) = true := by rw [bne_iff_ne]; omega
    go_wp2_with fail
    refine (log_nz _ a ha a0 _ f9).mono ?_
    rintro e w10 ⟨rfl, b10⟩
    have f10 := f9.below b10
    have B10 := belowCall B9 b10
    clear B9 b10 f9
    by_cases b0 : b = 0
    · have m0 : Hid (Fld.mul a b = 0) := by unfold Hid; rw [b0]; exact Fld.mul_zero a
      have b0' : Hid _ := b0
      clear b0
      go_wp2_with fail
      refine (log_zero _ b b0'.out _ f10).mono ?_
      rintro e w11 ⟨rfl, b11⟩
      have f11 := f10.below b11
      have B11 := belowCall B10 b11
      clear B10 b11 f10
      go_wp2_with fail
      refine (mul_any _ a b ha hb _ f11).mono ?_
      rintro e w12 ⟨rfl, b12⟩
      have f12 := f11.below b12
      have B12 := belowCall B11 b12
      clear B11 b12 f11
      rw [m0.out]
      go_wp2_with fail
      refine (log_zero _ 0 rfl _ f12).mono ?_
      rintro e w13 ⟨rfl, b13⟩
      have f13 := f12.below b13
      have B13 := belowCall B12 b13
      clear B12 b13 f12
      go_wp2_with fail
      refine (exp_any _ (Fld.lg a : Int) _ f13).mono ?_
      rintro e w14 ⟨rfl, b14⟩
      have f14 := f13.below b14
      have B14 := belowCall B13 b14
      clear B13 b14 f13
      rw [Fld.exp_lg ha a0]
      go_wp2_with fail
      go_ret
      exact ⟨rfl, B14⟩
    · have la := Fld.lg_lt ha
      have lb := Fld.lg_lt hb
      have m0 : Hid (Fld.lg (Fld.mul a b) = (Fld.lg a + Fld.lg b) % 255) := Fld.lg_mul a0 b0
      go_wp2_with fail
      refine (log_nz _ b hb b0 _ f10).mono ?_
      rintro e w11 ⟨rfl, b11⟩
      have f11 := f10.below b11
      have B11 := belowCall B10 b11
      clear B10 b11 f10
      go_wp2_with fail
      refine (mul_any _ a b ha hb _ f11).mono ?_
      rintro e w12 ⟨rfl, b12⟩
      have f12 := f11.below b12
      have B12 := belowCall B11 b12
      clear B11 b12 f11
      go_wp2_with fail
      refine (log_nz _ (Fld.mul a b) (Fld.mul_lt a b) (Fld.mul_ne a0 b0) _ f12).mono ?_
      rintro e w13 ⟨rfl, b13⟩
      have f13 := f12.below b13
      have B13 := belowCall B12 b13
      clear B12 b13 f12
      rw [m0.out]
      go_wp2_with fail
      refine (exp_any _ (Fld.lg a : Int) _ f13).mono ?_
      rintro e w14 ⟨rfl, b14⟩
      have f14 := f13.below b14
      have B14 := belowCall B13 b14
      clear B13 b14 f13
      rw [Fld.exp_lg ha a0]
      have hq : ((((Fld.lg a + Fld.lg b) % 255 : Nat) : Int) == ((Fld.lg a : Int) + (Fld.lg b : Int)) % 255) = true := by rw [beq_iff_eq]; omega
      go_wp2_with fail
      go_ret
      exact ⟨rfl, B14⟩
end Go.Proofs.Ytencfpfkalfcbaa
