/- The walks of GearRolls, of the examples, and of GearNames. -/
import Derived.Test.YtcdhaoaiglmboaaOver
namespace Go.Proofs.Ytcdhaoaiglmboaa
open Go.RowKit
open Gr
theorem rolls_walk (h b : Nat) (hb : b < 256) (s : ByteArray) (hs : s.size ≤ 9223372036854775807) (w : World) :
    Calls Try.prog 4 #[.int .u64 (h : Int), .int .u8 (b : Int), .string s] w fun e w' => e = .returned (.bool true) ∧ Below w.heap.size w w' := by
  have C1 := fun W => number_any b hb W
  have C2 := fun W => refNumber_any b hb W
  have C3 := fun W => roll_any h b hb W
  have C4 := fun W => refRoll_any h b hb W
  have C5 := fun W => over_any s hs W
  have C6 := fun W => refOver_any s hs W
  generalize num b = x1 at *
  generalize roll h b = x2 at *
  generalize ov 0 (bs s) = x3 at *
  by_cases hl : (50000 : Int) < (s.size : Int)
  · go_enter Try.func4, Try.ntmps4
    go_wp2_with fail
    go_ret
    exact ⟨rfl, Below.refl _ _⟩
  · go_enter Try.func4, Try.ntmps4
    go_wp2_with fail
    refine (C1 _).mono ?_
    rintro e w1 ⟨rfl, rfl⟩
    go_wp2_with fail
    refine (C2 _).mono ?_
    rintro e w1 ⟨rfl, rfl⟩
    go_wp2_with fail
    refine (C3 _).mono ?_
    rintro e w1 ⟨rfl, rfl⟩
    go_wp2_with fail
    refine (C4 _).mono ?_
    rintro e w1 ⟨rfl, rfl⟩
    go_wp2_with fail
    refine (C5 _).mono ?_
    rintro e w1 ⟨rfl, b1⟩
    go_wp2_with fail
    refine (C6 _).mono ?_
    rintro e w2 ⟨rfl, rfl⟩
    go_wp2_with fail
    go_ret
    exact ⟨by simp, b1⟩
theorem num0 : num 0 = 16294208416658607535 := by decide +kernel
theorem roll10 : roll 1 0 = 16294208416658607537 := by decide +kernel
theorem ov00 : ov 0 (bs ⟨#[0, 0]⟩) = 11989137102556719373 := by decide +kernel
theorem ovE : ov 0 (bs ⟨#[]⟩) = 0 := by decide +kernel
theorem number0 (w : World) : Calls Try.prog 6 #[.int .u8 0] w fun e w' => e = .returned (.int .u64 16294208416658607535) ∧ w' = w := by
  have := number_any 0 (by decide) w; rw [num0] at this; exact this
theorem roll_10 (w : World) : Calls Try.prog 8 #[.int .u64 1, .int .u8 0] w fun e w' => e = .returned (.int .u64 16294208416658607537) ∧ w' = w := by
  have := roll_any 1 0 (by decide) w; rw [roll10] at this; exact this
theorem over_E (w : World) : Calls Try.prog 9 #[.string ⟨#[]⟩] w fun e w' => e = .returned (.int .u64 0) ∧ Below w.heap.size w w' := by
  have := over_any ⟨#[]⟩ (by decide) w; rw [ovE] at this; exact this
theorem over_00 (w : World) : Calls Try.prog 9 #[.string ⟨#[0, 0]⟩] w fun e w' => e = .returned (.int .u64 11989137102556719373) ∧ Below w.heap.size w w' := by
  have := over_any ⟨#[0, 0]⟩ (by decide) w; rw [ov00] at this; exact this
theorem works_true (w : World) : Calls Try.prog 7 #[] w fun e w' => e = .returned (.bool true) ∧ Below w.heap.size w w' := by
  go_enter Try.func7, Try.ntmps7
  go_wp2_with fail
  refine (number0 _).mono ?_
  rintro e w1 ⟨rfl, rfl⟩
  go_wp2_with fail
  refine (roll_10 _).mono ?_
  rintro e w1 ⟨rfl, rfl⟩
  go_wp2_with fail
  refine (over_E _).mono ?_
  rintro e w2 ⟨rfl, b2⟩
  go_wp2_with fail
  refine (over_00 _).mono ?_
  rintro e w3 ⟨rfl, b3⟩
  have B := belowCall b2 b3
  clear b2 b3
  go_wp2_with fail
  go_ret
  exact ⟨rfl, B⟩
theorem ovA : ov 0 (bs ⟨#[97]⟩) = 17189161910051005891 := by decide +kernel
theorem num97 : num 97 = 17189161910051005891 := by decide +kernel
theorem num7 : num 7 = roll 9223372036854775808 7 := by decide +kernel
theorem ex7 : ∃ n, num 7 = n := ⟨_, rfl⟩
theorem apart (a b : Nat) (ha : a < 256) (hb : b < a) : num a ≠ num b := apart0 ⟨a, ha⟩ ⟨b, by omega⟩ hb
set_option maxRecDepth 20000 in
theorem names_walk (w : World) : Calls Try.prog 3 #[] w fun e w' => e = .returned (.bool true) ∧ Below w.heap.size w w' := by
  have C7 := fun W => number_any 7 (by decide) W
  have D7 := fun W => roll_any 9223372036854775808 7 (by decide) W
  have CA := fun W => number_any 97 (by decide) W
  have DA := fun W => over_any ⟨#[97]⟩ (by decide) W
  rw [num97] at CA
  rw [ovA] at DA
  rw [num7] at C7
  generalize roll 9223372036854775808 7 = y at *
  go_enter Try.func3, Try.ntmps3
  go_wp2_with fail
  go_loopw [1] (fun v wr => ∃ a : Nat, a ≤ 256 ∧ v = .int .i64 (a : Int) ∧ wr = w) (fun v _ => 256 - (intOf v).toNat)
  case atStart => exact ⟨0, by omega, rfl, rfl⟩
  case round =>
    obtain ⟨a, ha, rfl, rfl⟩ := hrel
    by_cases hlt : a < 256
    · have e0 : IntKind.u8.wrap (a : Int) = (a : Int) := by rw [IntKind.wrap_u8']; omega
      have d0 : decide ((a : Int) < 256) = true := by simp; omega
      go_wp2_with fail
      go_loopw [2] (fun v wr' => ∃ b : Nat, b ≤ a ∧ v = .int .i64 (b : Int) ∧ wr' = wr) (fun v _ => 256 - (intOf v).toNat)
      case atStart => exact ⟨0, by omega, rfl, rfl⟩
      case round =>
        obtain ⟨b, hb, rfl, rfl⟩ := hrel
        by_cases hlb : b < a
        · have e1 : IntKind.u8.wrap (b : Int) = (b : Int) := by rw [IntKind.wrap_u8']; omega
          obtain ⟨x, hx⟩ : ∃ x, num a = x := ⟨_, rfl⟩
          obtain ⟨z, hz⟩ : ∃ z, num b = z := ⟨_, rfl⟩
          have hne : x ≠ z := by rw [← hx, ← hz]; exact apart a b hlt hlb
          have K1 := fun W => number_any a hlt W
          have K2 := fun W => number_any b (by omega) W
          rw [hx] at K1
          rw [hz] at K2
          clear hx hz
          have q : ((x : Int) == (z : Int)) = false := by simp; omega
          go_wp2_with fail
          refine (K1 _).mono ?_
          rintro e w1 ⟨rfl, rfl⟩
          go_wp2_with fail
          refine (K2 _).mono ?_
          rintro e w1 ⟨rfl, rfl⟩
          go_wp2_with fail
          go_roundw
          case rel => exact ⟨b + 1, by omega, rfl, by first | rfl | trivial⟩
          case measure => simp [intOf]; omega
        · go_wp2_with fail
          go_roundw
          case rel => exact ⟨a + 1, by omega, rfl, by first | rfl | trivial⟩
          case measure => simp [intOf]; omega
    · go_wp2_with fail
      refine (works_true _).mono ?_
      rintro e w1 ⟨rfl, b1⟩
      go_wp2_with fail
      refine (D7 _).mono ?_
      rintro e w2 ⟨rfl, rfl⟩
      go_wp2_with fail
      refine (C7 _).mono ?_
      rintro e w2 ⟨rfl, rfl⟩
      go_wp2_with fail
      refine (DA _).mono ?_
      rintro e w3 ⟨rfl, b3⟩
      have B := belowCall b1 b3
      clear b1 b3
      go_wp2_with fail
      refine (CA _).mono ?_
      rintro e w2 ⟨rfl, rfl⟩
      go_wp2_with fail
      go_ret
      exact ⟨by simp, B⟩
end Go.Proofs.Ytcdhaoaiglmboaa
