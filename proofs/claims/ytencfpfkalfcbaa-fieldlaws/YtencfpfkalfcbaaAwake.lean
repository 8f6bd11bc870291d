/- The contract of awake: the examples are as they are told. -/
import Derived.Test.YtencfpfkalfcbaaRefs
namespace Go.Proofs.Ytencfpfkalfcbaa
open Go.RowKit
theorem nat_of_u8 {a : Int} (h : (Lit.int .u8 a).wf = true) : ∃ n : Nat, a = (n : Int) ∧ n < 256 := by
  have h1 : IntKind.u8.min ≤ a ∧ a ≤ IntKind.u8.max := by simpa [Lit.wf] using h
  have m0 : IntKind.u8.min = 0 := by decide
  have m1 : IntKind.u8.max = 255 := by decide
  rw [m0, m1] at h1
  exact ⟨a.toNat, by omega, by omega⟩
theorem new_f (w : World) : Calls Try.prog 7 #[] w fun e w' => e = .returned (.pointer (some ⟨w.heap.size, 0, none⟩)) ∧ IsF w' (.pointer (some ⟨w.heap.size, 0, none⟩)) ∧ Below w.heap.size w w' := by
  refine (new_any w).mono ?_
  rintro e w' ⟨rfl, h, hb⟩
  exact ⟨rfl, .inr ⟨_, rfl, h⟩, hb⟩
theorem inv_0 (v : Value) (w : World) (hf : IsF w v) : Calls Try.prog 8 #[v, .int .u8 0] w fun e w' => e = .returned (.tuple #[.int .u8 0, .bool false]) ∧ Below w.heap.size w w' :=
  inv_any v 0 (by decide) w hf
theorem inv_2 (v : Value) (w : World) (hf : IsF w v) : Calls Try.prog 8 #[v, .int .u8 2] w fun e w' => e = .returned (.tuple #[.int .u8 142, .bool true]) ∧ Below w.heap.size w w' :=
  inv_any v 2 (by decide) w hf
theorem log_29 (v : Value) (w : World) (hf : IsF w v) : Calls Try.prog 10 #[v, .int .u8 29] w fun e w' => e = .returned (.tuple #[.int .i64 8, .bool true]) ∧ Below w.heap.size w w' :=
  log_any v 29 (by decide) w hf
theorem add_53 (v : Value) (w : World) : Calls Try.prog 12 #[v, .int .u8 5, .int .u8 3] w fun e w' => e = .returned (.int .u8 6) ∧ Below w.heap.size w w' :=
  add_any v 5 3 (by decide) (by decide) w
theorem mul_2 (v : Value) (w : World) (hf : IsF w v) : Calls Try.prog 13 #[v, .int .u8 2, .int .u8 128] w fun e w' => e = .returned (.int .u8 29) ∧ Below w.heap.size w w' :=
  mul_any v 2 128 (by decide) (by decide) w hf
theorem exp_8 (v : Value) (w : World) (hf : IsF w v) : Calls Try.prog 15 #[v, .int .i64 8] w fun e w' => e = .returned (.int .u8 29) ∧ Below w.heap.size w w' :=
  exp_any v 8 w hf
set_option maxRecDepth 20000 in
theorem awake_true (w : World) : Calls Try.prog 17 #[] w fun e w' => e = .returned (.bool true) ∧ Below w.heap.size w w' := by
  go_enter Try.func17, Try.ntmps17
  go_wp2_with fail
  refine (new_f w).mono ?_
  rintro e w1 ⟨rfl, f1, b1⟩
  go_wp2_with fail
  refine (inv_2 _ _ f1).mono ?_
  rintro e w2 ⟨rfl, b2⟩
  have f2 := f1.below b2
  have B2 := belowCall b1 b2
  clear b1 b2 f1
  go_wp2_with fail
  refine (log_29 _ _ f2).mono ?_
  rintro e w3 ⟨rfl, b3⟩
  have f3 := f2.below b3
  have B3 := belowCall B2 b3
  clear B2 b3 f2
  go_wp2_with fail
  refine (inv_0 _ _ f3).mono ?_
  rintro e w4 ⟨rfl, b4⟩
  have f4 := f3.below b4
  have B4 := belowCall B3 b4
  clear B3 b4 f3
  go_wp2_with fail
  refine (add_53 _ _).mono ?_
  rintro e w5 ⟨rfl, b5⟩
  have f5 := f4.below b5
  have B5 := belowCall B4 b5
  clear B4 b5 f4
  go_wp2_with fail
  refine (mul_2 _ _ f5).mono ?_
  rintro e w6 ⟨rfl, b6⟩
  have f6 := f5.below b6
  have B6 := belowCall B5 b6
  clear B5 b6 f5
  go_wp2_with fail
  refine (exp_8 _ _ f6).mono ?_
  rintro e w7 ⟨rfl, b7⟩
  have B7 := belowCall B6 b7
  clear B6 b7 f6
  go_wp2_with fail
  go_ret
  exact ⟨rfl, B7⟩
end Go.Proofs.Ytencfpfkalfcbaa
