/- The contracts of the document's inverses, logarithms and powers. -/
import Derived.Test.YtencfpfkalfcbaaRef
import Derived.Test.YtencfpfkalfcbaaMethods
namespace Go.Proofs.Ytencfpfkalfcbaa
open Go.RowKit
theorem beq_nat (n m : Nat) : ((n : Int) == (m : Int)) = decide (n = m) := by
  by_cases h : n = m
  · subst h; simp
  · rw [decide_eq_false h, beq_eq_false_iff_ne]; omega
set_option maxRecDepth 20000 in
set_option maxHeartbeats 1000000 in
theorem refInv_any (a : Nat) (ha : a < 256) (w : World) :
    Calls Try.prog 9 #[.int .u8 (a : Int)] w fun e w' => e = .returned (.tuple #[.int .u8 ((if a = 0 then 0 else Fld.inv a : Nat) : Int), .bool (decide (a ≠ 0))]) ∧ w' = w := by
  by_cases h0 : a = 0
  · subst h0
    go_enter Try.func9, Try.ntmps9
    go_wp2_with fail
    go_loopw [4] (fun vi wr => ∃ k : Nat, 1 ≤ k ∧ k ≤ 256 ∧ vi = .int .i64 (k : Int) ∧ wr = w) (fun vi _ => 256 - (intOf vi).toNat)
    case atStart => exact ⟨1, by omega, by omega, rfl, rfl⟩
    case round =>
      obtain ⟨k, hk1, hk, rfl, rfl⟩ := hrel
      by_cases hlt : k < 256
      · have e2 : IntKind.u8.wrap (k : Int) = (k : Int) := by rw [IntKind.wrap_u8']; omega
        go_wp2_with fail
        refine (refMul_any 0 k (by decide) hlt _).mono ?_
        rintro e w1 ⟨rfl, rfl⟩
        rw [Fld.zero_mul]
        go_wp2_with fail
        go_roundw
        case rel =>
          (repeat apply Exists.intro)
          refine ⟨?_, rfl⟩
          exact ⟨k + 1, by omega, by omega, rfl, trivial⟩
        case measure => simp [intOf]; omega
      · obtain rfl : k = 256 := by omega
        go_wp2_with fail
        go_ret2
        exact ⟨rfl, rfl⟩
  · have HR : Hid (Ending.returned (.tuple #[.int .u8 ((if a = 0 then 0 else Fld.inv a : Nat) : Int), .bool (decide (a ≠ 0))]) = .returned (.tuple #[.int .u8 ((Fld.inv a : Nat) : Int), .bool true])) := by
      unfold Hid; rw [if_neg h0, decide_eq_true h0]
    have HI : Hid (∀ b, b < 256 → (Fld.mul a b = 1 ↔ b = Fld.inv a)) := fun b hb => Fld.mul_one_iff ha hb h0
    have hi := Fld.inv_lt a
    have hi0 := Fld.inv_ne a
    rw [HR.out]
    clear HR
    generalize Fld.inv a = z at *
    go_enter Try.func9, Try.ntmps9
    go_wp2_with fail
    go_loopw [4] (fun vi wr => ∃ k : Nat, 1 ≤ k ∧ k ≤ z ∧ vi = .int .i64 (k : Int) ∧ wr = w) (fun vi _ => 256 - (intOf vi).toNat)
    case atStart => exact ⟨1, by omega, by omega, rfl, rfl⟩
    case round =>
      obtain ⟨k, hk1, hk, rfl, rfl⟩ := hrel
      have hlt : k < 256 := by omega
      have e2 : IntKind.u8.wrap (k : Int) = (k : Int) := by rw [IntKind.wrap_u8']; omega
      have HM := HI.out k hlt
      by_cases hz : k = z
      · have hT : Hid (Fld.mul a k = 1) := HM.2 hz
        clear HM
        subst hz
        go_wp2_with fail
        refine (refMul_any a k ha hlt _).mono ?_
        rintro e w1 ⟨rfl, rfl⟩
        rw [hT.out]
        go_wp2_with fail
        go_ret2
        exact ⟨rfl, rfl⟩
      · have hT : ¬ Fld.mul a k = 1 := fun h => hz (HM.1 h)
        have hT' : (((Fld.mul a k : Nat) : Int) == 1) = false := by rw [beq_eq_false_iff_ne]; omega
        clear HM hT
        go_wp2_with fail
        refine (refMul_any a k ha hlt _).mono ?_
        rintro e w1 ⟨rfl, rfl⟩
        go_wp2_with fail
        go_roundw
        case rel => exact ⟨k + 1, by omega, by omega, rfl, trivial⟩
        case measure => simp [intOf]; omega
set_option maxRecDepth 20000 in
set_option maxHeartbeats 1000000 in
theorem refLog_any (a : Nat) (ha : a < 256) (w : World) :
    Calls Try.prog 11 #[.int .u8 (a : Int)] w fun e w' => e = .returned (.tuple #[.int .i64 ((if a = 0 then 0 else Fld.lg a : Nat) : Int), .bool (decide (a ≠ 0))]) ∧ w' = w := by
  have HN : Hid (∀ k, k < 255 → Fld.mul (Fld.pwr (k % 255)) 2 = Fld.pwr ((k + 1) % 255)) := fun k hk => by
    rw [Nat.mod_eq_of_lt hk, Fld.pwr_succ hk, Fld.mul_two (Fld.pwr_lt hk)]
  by_cases h0 : a = 0
  · subst h0
    go_enter Try.func11, Try.ntmps11
    go_wp2_with fail
    go_loopw [4, 5] (fun vp vi wr => ∃ k : Nat, k ≤ 255 ∧ vi = .int .i64 (k : Int) ∧ vp = .int .u8 ((Fld.pwr (k % 255) : Nat) : Int) ∧ wr = w) (fun _ vi _ => 255 - (intOf vi).toNat)
    case atStart => exact ⟨0, by omega, rfl, rfl, rfl⟩
    case round =>
      obtain ⟨k, hk, rfl, rfl, rfl⟩ := hrel
      by_cases hlt : k < 255
      · have hne := Fld.pwr_ne (Fld.m255 k)
        have hl := Fld.pwr_lt (Fld.m255 k)
        have HM : Hid _ := HN.out k hlt
        generalize Fld.pwr (k % 255) = p at *
        have hT : (((p : Nat) : Int) == 0) = false := by rw [beq_eq_false_iff_ne]; omega
        go_wp2_with fail
        refine (refMul_any p 2 hl (by decide) _).mono ?_
        rintro e w1 ⟨rfl, rfl⟩
        go_wp2_with fail
        go_roundw
        case rel =>
          (repeat apply Exists.intro)
          refine ⟨?_, rfl⟩
          exact ⟨k + 1, by omega, rfl, by rw [HM.out], trivial⟩
        case measure => simp [intOf]; omega
      · obtain rfl : k = 255 := by omega
        go_wp2_with fail
        go_ret2
        exact ⟨rfl, rfl⟩
  · have HR : Hid (Ending.returned (.tuple #[.int .i64 ((if a = 0 then 0 else Fld.lg a : Nat) : Int), .bool (decide (a ≠ 0))]) = .returned (.tuple #[.int .i64 ((Fld.lg a : Nat) : Int), .bool true])) := by
      unfold Hid; rw [if_neg h0, decide_eq_true h0]
    have HI : Hid (∀ k, k < 255 → (Fld.pwr (k % 255) = a ↔ k = Fld.lg a)) := fun k hk => by
      rw [Nat.mod_eq_of_lt hk]
      exact ⟨fun h => by rw [← h, Fld.lg_pwr hk], fun h => by rw [h, Fld.pwr_lg ha h0]⟩
    have hi := Fld.lg_lt ha
    rw [HR.out]
    clear HR
    generalize Fld.lg a = z at *
    go_enter Try.func11, Try.ntmps11
    go_wp2_with fail
    go_loopw [4, 5] (fun vp vi wr => ∃ k : Nat, k ≤ z ∧ vi = .int .i64 (k : Int) ∧ vp = .int .u8 ((Fld.pwr (k % 255) : Nat) : Int) ∧ wr = w) (fun _ vi _ => 255 - (intOf vi).toNat)
    case atStart => exact ⟨0, by omega, rfl, rfl, rfl⟩
    case round =>
      obtain ⟨k, hk, rfl, rfl, rfl⟩ := hrel
      have hlt : k < 255 := by omega
      have hi := HI.out k hlt
      have hl := Fld.pwr_lt (Fld.m255 k)
      have HM : Hid _ := HN.out k hlt
      clear HI HN
      generalize Fld.pwr (k % 255) = p at *
      by_cases hz : k = z
      · obtain rfl := hi.2 hz
        clear HM hi
        go_wp2_with fail
        go_ret2
        exact ⟨by subst hz; rfl, rfl⟩
      · have hT : ¬ p = a := fun h => hz (hi.1 h)
        have hT' : (((p : Nat) : Int) == (a : Int)) = false := by rw [beq_eq_false_iff_ne]; omega
        clear hi hT
        go_wp2_with fail
        refine (refMul_any p 2 hl (by decide) _).mono ?_
        rintro e w1 ⟨rfl, rfl⟩
        go_wp2_with fail
        go_roundw
        case rel => exact ⟨k + 1, by omega, rfl, by rw [HM.out], trivial⟩
        case measure => simp [intOf]; omega
set_option maxRecDepth 20000 in
set_option maxHeartbeats 1000000 in
theorem refExp_any (n : Int) (w : World) :
    Calls Try.prog 16 #[.int .i64 n] w fun e w' => e = .returned (.int .u8 ((Fld.exp n : Nat) : Int)) ∧ w' = w := by
  have HN : Hid (∀ k, k + 1 < 255 → Fld.mul (Fld.pwr k) 2 = Fld.pwr (k + 1)) := fun k hk => by
    rw [← Nat.mod_eq_of_lt hk, Fld.pwr_succ (by omega), Fld.mul_two (Fld.pwr_lt (by omega))]
  obtain ⟨t1, t2, t3, t4⟩ := tmod255 n
  have HE : Hid (Fld.exp n = Fld.pwr (n % 255).toNat) := rfl
  by_cases hs : Int.tmod n 255 < 0
  · obtain ⟨m, hm⟩ : ∃ m : Nat, Int.tmod n 255 = (m : Int) - 255 := ⟨(Int.tmod n 255 + 255).toNat, by omega⟩
    have hm1 : Hid (Fld.exp n = Fld.pwr m) := by unfold Hid; rw [HE.out, t1 hs, hm]; congr 1; omega
    have hm2 : m < 255 := by omega
    have e1 : (m : Int) - 255 + 255 = (m : Int) := by omega
    have d0 : decide ((m : Int) - 255 < 0) = true := by simp; omega
    clear t1 t2 t3 t4 hs HE
    go_enter Try.func16, Try.ntmps16
    go_wp2_with fail
    go_loopw [3, 4] (fun vp vi wr => ∃ k : Nat, k ≤ m ∧ vi = .int .i64 (k : Int) ∧ vp = .int .u8 ((Fld.pwr k : Nat) : Int) ∧ wr = w) (fun _ vi _ => m - (intOf vi).toNat)
    case atStart => exact ⟨0, by omega, rfl, rfl, rfl⟩
    case round =>
      obtain ⟨k, hk, rfl, rfl, rfl⟩ := hrel
      by_cases hlt : k < m
      · have hl := Fld.pwr_lt (show k < 255 by omega)
        have HM : Hid _ := HN.out k (by omega)
        have i0 : (k : Int) < (m : Int) := by omega
        go_wp2_with fail
        refine (refMul_any (Fld.pwr k) 2 hl (by decide) _).mono ?_
        rintro e w1 ⟨rfl, rfl⟩
        go_wp2_with fail
        exact ⟨⟨k + 1, by omega, rfl, by rw [HM.out], trivial⟩, by simp [intOf]; omega⟩
      · obtain rfl : k = m := by omega
        go_wp2_with fail
        go_ret
        exact ⟨by rw [hm1.out]; rfl, rfl⟩
  · obtain ⟨m, hm⟩ : ∃ m : Nat, Int.tmod n 255 = (m : Int) := ⟨(Int.tmod n 255).toNat, by omega⟩
    have hm1 : Hid (Fld.exp n = Fld.pwr m) := by unfold Hid; rw [HE.out, t2 (by omega), hm]; congr 1
    have hm2 : m < 255 := by omega
    have d0 : decide ((m : Int) < 0) = false := by simp
    clear t1 t2 t3 t4 hs HE
    go_enter Try.func16, Try.ntmps16
    go_wp2_with fail
    go_loopw [3, 4] (fun vp vi wr => ∃ k : Nat, k ≤ m ∧ vi = .int .i64 (k : Int) ∧ vp = .int .u8 ((Fld.pwr k : Nat) : Int) ∧ wr = w) (fun _ vi _ => m - (intOf vi).toNat)
    case atStart => exact ⟨0, by omega, rfl, rfl, rfl⟩
    case round =>
      obtain ⟨k, hk, rfl, rfl, rfl⟩ := hrel
      by_cases hlt : k < m
      · have hl := Fld.pwr_lt (show k < 255 by omega)
        have HM : Hid _ := HN.out k (by omega)
        have i0 : (k : Int) < (m : Int) := by omega
        go_wp2_with fail
        refine (refMul_any (Fld.pwr k) 2 hl (by decide) _).mono ?_
        rintro e w1 ⟨rfl, rfl⟩
        go_wp2_with fail
        exact ⟨⟨k + 1, by omega, rfl, by rw [HM.out], trivial⟩, by simp [intOf]; omega⟩
      · obtain rfl : k = m := by omega
        go_wp2_with fail
        go_ret
        exact ⟨by rw [hm1.out]; rfl, rfl⟩
end Go.Proofs.Ytencfpfkalfcbaa
