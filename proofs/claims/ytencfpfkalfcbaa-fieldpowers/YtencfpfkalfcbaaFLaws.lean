/- FieldLaws: its walk. -/
import Derived.Test.YtencfpfkalfcbaaAwake
namespace Go.Proofs.Ytencfpfkalfcbaa
open Go.RowKit
theorem inv_zero (v : Value) (a : Nat) (h0 : a = 0) (w : World) (hf : IsF w v) : Calls Try.prog 8 #[v, .int .u8 (a : Int)] w fun e w' => e = .returned (.tuple #[.int .u8 0, .bool false]) ∧ Below w.heap.size w w' := by
  subst h0; exact inv_any v 0 (by decide) w hf
theorem inv_nz (v : Value) (a : Nat) (ha : a < 256) (h0 : a ≠ 0) (w : World) (hf : IsF w v) : Calls Try.prog 8 #[v, .int .u8 (a : Int)] w fun e w' => e = .returned (.tuple #[.int .u8 ((Fld.inv a : Nat) : Int), .bool true]) ∧ Below w.heap.size w w' := by
  have := inv_any v a ha w hf
  rw [if_neg h0, decide_eq_true h0] at this
  exact this
set_option maxRecDepth 20000 in
set_option maxHeartbeats 2000000 in
theorem laws_walk (a b c : Nat) (ha : a < 256) (hb : b < 256) (hc : c < 256) (w : World) :
    Calls Try.prog 5 #[.int .u8 (a : Int), .int .u8 (b : Int), .int .u8 (c : Int)] w fun e w' => e = .returned (.bool true) ∧ Below w.heap.size w w' := by
  go_enter Try.func5, Try.ntmps5
  go_wp2_with fail
  refine (new_f w).mono ?_
  rintro e w1 ⟨rfl, f1, B1⟩
  go_wp2_with fail
  refine (awake_true _).mono ?_
  rintro e w2 ⟨rfl, b2⟩
  have f2 := f1.below b2
  have B2 := belowCall B1 b2
  clear B1 b2 f1
  go_wp2_with fail
  refine (add_any _ a b ha hb _).mono ?_
  rintro e w3 ⟨rfl, b3⟩
  have f3 := f2.below b3
  have B3 := belowCall B2 b3
  clear B2 b3 f2
  go_wp2_with fail
  refine (add_any _ b a hb ha _).mono ?_
  rintro e w4 ⟨rfl, b4⟩
  have f4 := f3.below b4
  have B4 := belowCall B3 b4
  clear B3 b4 f3
  rw [Nat.xor_comm b a]
  go_wp2_with fail
  refine (mul_any _ a b ha hb _ f4).mono ?_
  rintro e w5 ⟨rfl, b5⟩
  have f5 := f4.below b5
  have B5 := belowCall B4 b5
  clear B4 b5 f4
  go_wp2_with fail
  refine (mul_any _ b a hb ha _ f5).mono ?_
  rintro e w6 ⟨rfl, b6⟩
  have f6 := f5.below b6
  have B6 := belowCall B5 b6
  clear B5 b6 f5
  rw [Fld.mul_comm b a]
  go_wp2_with fail
  refine (add_any _ a b ha hb _).mono ?_
  rintro e w7 ⟨rfl, b7⟩
  have f7 := f6.below b7
  have B7 := belowCall B6 b7
  clear B6 b7 f6
  go_wp2_with fail
  refine (add_any _ (a ^^^ b) c (Fld.xor_lt ha hb) hc _).mono ?_
  rintro e w8 ⟨rfl, b8⟩
  have f8 := f7.below b8
  have B8 := belowCall B7 b8
  clear B7 b8 f7
  go_wp2_with fail
  refine (add_any _ b c hb hc _).mono ?_
  rintro e w9 ⟨rfl, b9⟩
  have f9 := f8.below b9
  have B9 := belowCall B8 b9
  clear B8 b9 f8
  go_wp2_with fail
  refine (add_any _ a (b ^^^ c) ha (Fld.xor_lt hb hc) _).mono ?_
  rintro e w10 ⟨rfl, b10⟩
  have f10 := f9.below b10
  have B10 := belowCall B9 b10
  clear B9 b10 f9
  rw [← Nat.xor_assoc]
  go_wp2_with fail
  refine (mul_any _ a b ha hb _ f10).mono ?_
  rintro e w11 ⟨rfl, b11⟩
  have f11 := f10.below b11
  have B11 := belowCall B10 b11
  clear B10 b11 f10
  go_wp2_with fail
  refine (mul_any _ (Fld.mul a b) c (Fld.mul_lt a b) hc _ f11).mono ?_
  rintro e w12 ⟨rfl, b12⟩
  have f12 := f11.below b12
  have B12 := belowCall B11 b12
  clear B11 b12 f11
  go_wp2_with fail
  refine (mul_any _ b c hb hc _ f12).mono ?_
  rintro e w13 ⟨rfl, b13⟩
  have f13 := f12.below b13
  have B13 := belowCall B12 b13
  clear B12 b13 f12
  go_wp2_with fail
  refine (mul_any _ a (Fld.mul b c) ha (Fld.mul_lt b c) _ f13).mono ?_
  rintro e w14 ⟨rfl, b14⟩
  have f14 := f13.below b14
  have B14 := belowCall B13 b14
  clear B13 b14 f13
  rw [← Fld.mul_assoc ha hb hc]
  go_wp2_with fail
  refine (add_any _ b c hb hc _).mono ?_
  rintro e w15 ⟨rfl, b15⟩
  have f15 := f14.below b15
  have B15 := belowCall B14 b15
  clear B14 b15 f14
  go_wp2_with fail
  refine (mul_any _ a (b ^^^ c) ha (Fld.xor_lt hb hc) _ f15).mono ?_
  rintro e w16 ⟨rfl, b16⟩
  have f16 := f15.below b16
  have B16 := belowCall B15 b16
  clear B15 b16 f15
  go_wp2_with fail
  refine (mul_any _ a b ha hb _ f16).mono ?_
  rintro e w17 ⟨rfl, b17⟩
  have f17 := f16.below b17
  have B17 := belowCall B16 b17
  clear B16 b17 f16
  go_wp2_with fail
  refine (mul_any _ a c ha hc _ f17).mono ?_
  rintro e w18 ⟨rfl, b18⟩
  have f18 := f17.below b18
  have B18 := belowCall B17 b18
  clear B17 b18 f17
  go_wp2_with fail
  refine (add_any _ (Fld.mul a b) (Fld.mul a c) (Fld.mul_lt a b) (Fld.mul_lt a c) _).mono ?_
  rintro e w19 ⟨rfl, b19⟩
  have f19 := f18.below b19
  have B19 := belowCall B18 b19
  clear B18 b19 f18
  rw [← Fld.mul_xor hb hc]
  go_wp2_with fail
  refine (add_any _ a 0 ha (by decide) _).mono ?_
  rintro e w20 ⟨rfl, b20⟩
  have f20 := f19.below b20
  have B20 := belowCall B19 b20
  clear B19 b20 f19
  rw [Nat.xor_zero]
  go_wp2_with fail
  refine (add_any _ a a ha ha _).mono ?_
  rintro e w21 ⟨rfl, b21⟩
  have f21 := f20.below b21
  have B21 := belowCall B20 b21
  clear B20 b21 f20
  rw [Nat.xor_self]
  go_wp2_with fail
  refine (mul_any _ a 1 ha (by decide) _ f21).mono ?_
  rintro e w22 ⟨rfl, b22⟩
  have f22 := f21.below b22
  have B22 := belowCall B21 b22
  clear B21 b22 f21
  rw [Fld.mul_one ha]
  go_wp2_with fail
  refine (mul_any _ a 0 ha (by decide) _ f22).mono ?_
  rintro e w23 ⟨rfl, b23⟩
  have f23 := f22.below b23
  have B23 := belowCall B22 b23
  clear B22 b23 f22
  rw [Fld.mul_zero]
  by_cases a0 : a = 0
  · have q1 : ((a : Int) != 0) = false := by rw [a0]; rfl
    have q2 : ((a : Int) == 0) = true := by rw [a0]; rfl
    have m0 : Hid (Fld.mul a b = 0) := by unfold Hid; rw [a0]; exact Fld.zero_mul b
    have a0' : Hid _ := a0
    clear a0
    go_wp2_with fail
    refine (inv_zero _ a a0'.out _ f23).mono ?_
    rintro e w24 ⟨rfl, b24⟩
    have f24 := f23.below b24
    have B24 := belowCall B23 b24
    clear B23 b24 f23
    go_wp2_with fail
    refine (mul_any _ a b ha hb _ f24).mono ?_
    rintro e w25 ⟨rfl, b25⟩
    have f25 := f24.below b25
    have B25 := belowCall B24 b25
    clear B24 b25 f24
    rw [m0.out]
    go_wp2_with fail
    go_ret
    exact ⟨rfl, B25⟩
  · have q1 : ((a : Int) != 0) = true := by rw [bne_iff_ne]; omega
    have q2 : ((a : Int) == 0) = false := by rw [beq_eq_false_iff_ne]; omega
    go_wp2_with fail
    refine (inv_nz _ a ha a0 _ f23).mono ?_
    rintro e w24 ⟨rfl, b24⟩
    have f24 := f23.below b24
    have B24 := belowCall B23 b24
    clear B23 b24 f23
    go_wp2_with fail
    refine (mul_any _ a (Fld.inv a) ha (Fld.inv_lt a) _ f24).mono ?_
    rintro e w25 ⟨rfl, b25⟩
    have f25 := f24.below b25
    have B25 := belowCall B24 b25
    clear B24 b25 f24
    rw [Fld.mul_inv ha a0]
    by_cases b0 : b = 0
    · have q3 : ((b : Int) == 0) = true := by rw [b0]; rfl
      have m0 : Hid (Fld.mul a b = 0) := by unfold Hid; rw [b0]; exact Fld.mul_zero a
      clear b0
      go_wp2_with fail
      refine (mul_any _ a b ha hb _ f25).mono ?_
      rintro e w26 ⟨rfl, b26⟩
      have f26 := f25.below b26
      have B26 := belowCall B25 b26
      clear B25 b26 f25
      rw [m0.out]
      go_wp2_with fail
      go_ret
      exact ⟨rfl, B26⟩
    · have q3 : ((b : Int) == 0) = false := by rw [beq_eq_false_iff_ne]; omega
      have m0 : (((Fld.mul a b : Nat) : Int) != 0) = true := by have := Fld.mul_ne a0 b0; rw [bne_iff_ne]; omega
      go_wp2_with fail
      refine (mul_any _ a b ha hb _ f25).mono ?_
      rintro e w26 ⟨rfl, b26⟩
      have f26 := f25.below b26
      have B26 := belowCall B25 b26
      clear B25 b26 f25
      go_wp2_with fail
      go_ret
      exact ⟨rfl, B26⟩
end Go.Proofs.Ytencfpfkalfcbaa
