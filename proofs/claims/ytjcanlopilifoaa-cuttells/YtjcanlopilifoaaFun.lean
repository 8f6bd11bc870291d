/- The contracts of the functions that know no text: a byte's number and a hash over one byte, the program's and the document's. -/
import Derived.Test.YtjcanlopilifoaaProg
import Derived.Test.YtjcanlopilifoaaHeap
import Derived.Test.YtjcanlopilifoaaNum
import Derived.WalkKit
import Derived.WalkSpells
import Derived.WalkLawsBesides
import Derived.Laws.BitsAllLaws
import Derived.KernelRfl
namespace Go.Proofs.Ytjcanlopilifoaa
open Go.RowKit
open Gr
theorem wrap_u64_nat (n : Nat) : IntKind.u64.wrap (n : Int) = ((n % 18446744073709551616 : Nat) : Int) := by
  simp [IntKind.wrap, IntKind.bits, IntKind.signed]
theorem u64_xor (a b : Nat) (ha : a < 18446744073709551616) (hb : b < 18446744073709551616) : bits .xor .u64 (a : Int) (b : Int) = ((a ^^^ b : Nat) : Int) := by
  have hx : a ^^^ b < 18446744073709551616 := Nat.xor_lt_two_pow (n := 64) ha hb
  show IntKind.u64.wrap ((BitVec.ofInt 64 (a : Int) ^^^ BitVec.ofInt 64 (b : Int)).toNat : Int) = _
  rw [BitVec.toNat_xor, BitVec.ofInt_natCast, BitVec.ofInt_natCast, BitVec.toNat_ofNat, BitVec.toNat_ofNat, Nat.mod_eq_of_lt (show a < 2 ^ 64 from ha), Nat.mod_eq_of_lt (show b < 2 ^ 64 from hb), wrap_u64_nat, Nat.mod_eq_of_lt hx]
theorem ret_u64 {a b : Int} (h : a = b) : Ending.returned (.int .u64 a) = .returned (.int .u64 b) := by rw [h]
theorem folded_any (x k : Nat) (hx : x < 18446744073709551616) (hk : k < 64) (w : World) : Calls Try.prog 27 #[.int .u64 (x : Int), .int .i64 (k : Int)] w fun e w' => e = .returned (.int .u64 ((fold x k : Nat) : Int)) ∧ w' = w := by
  have E : bits BinOp.xor IntKind.u64 (x : Int) ((x : Int) / 2 ^ k) = ((fold x k : Nat) : Int) := by
    have e2 : (x : Int) / 2 ^ k = ((x >>> k : Nat) : Int) := by
      rw [Nat.shiftRight_eq_div_pow, Int.natCast_ediv, Int.natCast_pow]; rfl
    rw [e2, u64_xor _ _ hx (by rw [Nat.shiftRight_eq_div_pow]; exact Nat.lt_of_le_of_lt (Nat.div_le_self _ _) hx)]
    rfl
  go_enter Try.func27, Try.ntmps27
  go_wp2
  go_ret
  exact ⟨rfl, rfl⟩
theorem mixed_any (x p t y : Nat) (hx : x < 18446744073709551616) (hp : 0 < p) (hy : Hid (y = ((x ^^^ x / p) * t) % 18446744073709551616)) (w : World) : Calls Try.prog 26 #[.int .u64 (x : Int), .int .u64 (p : Int), .int .u64 (t : Int)] w fun e w' => e = .returned (.int .u64 (y : Int)) ∧ w' = w := by
  have E : IntKind.u64.wrap (bits BinOp.xor IntKind.u64 (x : Int) (IntKind.u64.wrap ((x : Int) / (p : Int))) * (t : Int)) = (y : Int) := by
    have hd : x / p < 18446744073709551616 := Nat.lt_of_le_of_lt (Nat.div_le_self _ _) hx
    rw [← Int.natCast_ediv, wrap_u64_nat, Nat.mod_eq_of_lt hd, u64_xor _ _ hx hd, ← Int.natCast_mul, wrap_u64_nat, hy.out]
  clear hy
  go_enter Try.func26, Try.ntmps26
  go_wp2
  go_ret
  exact ⟨rfl, rfl⟩
theorem num_is (b : Nat) : num b = fold (fold (fold ((b + 1) * 11400714819323198485 % 18446744073709551616) 30 * 13787848793156543929 % 18446744073709551616) 27 * 10723151780598845931 % 18446744073709551616) 31 := by
  unfold num; rfl
theorem ex_num (b : Nat) : ∃ x1 x2 x3 : Nat, x1 < 18446744073709551616 ∧ x2 < 18446744073709551616 ∧ x3 < 18446744073709551616 ∧ Hid (x1 = (b + 1) * 11400714819323198485 % 18446744073709551616) ∧ Hid (x2 = fold x1 30 * 13787848793156543929 % 18446744073709551616) ∧ Hid (x3 = fold x2 27 * 10723151780598845931 % 18446744073709551616) ∧ Hid (num b = fold x3 31) :=
  ⟨_, _, _, Nat.mod_lt _ (by decide), Nat.mod_lt _ (by decide), Nat.mod_lt _ (by decide), rfl, rfl, rfl, num_is b⟩
theorem mulw (x k : Nat) {y : Nat} (h : y = x * k % 18446744073709551616) : IntKind.u64.wrap ((x : Int) * (k : Int)) = (y : Int) := by
  rw [← Int.natCast_mul, wrap_u64_nat, h]
theorem number_any (b : Nat) (hb : b < 256) (w : World) : Calls Try.prog 25 #[.int .u8 (b : Int)] w fun e w' => e = .returned (.int .u64 ((num b : Nat) : Int)) ∧ w' = w := by
  obtain ⟨x1, x2, x3, l1, l2, l3, H1, H2, H3, H4⟩ := ex_num b
  have E1 : IntKind.u64.wrap (((b : Int) + 1) * 11400714819323198485) = (x1 : Int) := mulw (b + 1) 11400714819323198485 H1.out
  have E2 : IntKind.u64.wrap (((fold x1 30 : Nat) : Int) * 13787848793156543929) = (x2 : Int) := mulw _ 13787848793156543929 H2.out
  have E3 : IntKind.u64.wrap (((fold x2 27 : Nat) : Int) * 10723151780598845931) = (x3 : Int) := mulw _ 10723151780598845931 H3.out
  have HE : Hid (((num b : Nat) : Int) = ((fold x3 31 : Nat) : Int)) := by rw [H4.out]; rfl
  clear H1 H2 H3 H4
  go_enter Try.func25, Try.ntmps25
  go_wp2_with fail
  refine (folded_any x1 30 l1 (by decide) _).mono ?_
  rintro e w' ⟨rfl, rfl⟩
  go_wp2_with fail
  refine (folded_any x2 27 l2 (by decide) _).mono ?_
  rintro e w' ⟨rfl, rfl⟩
  go_wp2_with fail
  refine (folded_any x3 31 l3 (by decide) _).mono ?_
  rintro e w' ⟨rfl, rfl⟩
  go_wp2_with fail
  go_ret
  exact ⟨ret_u64 HE.out.symm, rfl⟩
theorem fold_div (x k p : Nat) (h : 2 ^ k = p) : fold x k = x ^^^ x / p := by
  unfold fold; rw [Nat.shiftRight_eq_div_pow, h]
theorem refNumber_any (b : Nat) (hb : b < 256) (w : World) : Calls Try.prog 24 #[.int .u8 (b : Int)] w fun e w' => e = .returned (.int .u64 ((num b : Nat) : Int)) ∧ w' = w := by
  obtain ⟨x1, x2, x3, l1, l2, l3, H1, H2, H3, H4⟩ := ex_num b
  have E1 : IntKind.u64.wrap (11400714819323198485 * (1 + (b : Int))) = (x1 : Int) := by
    rw [Int.mul_comm, Int.add_comm]; exact mulw (b + 1) 11400714819323198485 H1.out
  have F2 : Hid (x2 = ((x1 ^^^ x1 / 1073741824) * 13787848793156543929) % 18446744073709551616) := by
    unfold Hid; rw [H2.out, fold_div _ _ 1073741824 (by decide)]
  have F3 : Hid (x3 = ((x2 ^^^ x2 / 134217728) * 10723151780598845931) % 18446744073709551616) := by
    unfold Hid; rw [H3.out, fold_div _ _ 134217728 (by decide)]
  have F4 : Hid (num b = ((x3 ^^^ x3 / 2147483648) * 1) % 18446744073709551616) := by
    unfold Hid; rw [H4.out, Nat.mul_one, ← fold_div _ 31 2147483648 (by decide), Nat.mod_eq_of_lt (fold_lt _ l3)]
  clear H1 H2 H3 H4
  generalize num b = y at *
  go_enter Try.func24, Try.ntmps24
  go_wp2_with fail
  refine (mixed_any x1 1073741824 13787848793156543929 x2 l1 (by decide) F2 _).mono ?_
  rintro e w' ⟨rfl, rfl⟩
  go_wp2_with fail
  refine (mixed_any x2 134217728 10723151780598845931 x3 l2 (by decide) F3 _).mono ?_
  rintro e w' ⟨rfl, rfl⟩
  go_wp2_with fail
  refine (mixed_any x3 2147483648 1 y l3 (by decide) F4 _).mono ?_
  rintro e w' ⟨rfl, rfl⟩
  go_wp2_with fail
  go_ret
  exact ⟨rfl, rfl⟩
theorem ex_roll (h b : Nat) : ∃ n y : Nat, Hid (num b = n) ∧ Hid (roll h b = y) ∧ Hid (y = (2 * h + n) % 18446744073709551616) := by
  exact ⟨_, _, rfl, rfl, by unfold Hid roll; rfl⟩
theorem rollw (h n y : Nat) (H : Hid (y = (2 * h + n) % 18446744073709551616)) : IntKind.u64.wrap (IntKind.u64.wrap (2 * (h : Int)) + (n : Int)) = (y : Int) := by
  rw [show (2 : Int) * (h : Int) = ((2 * h : Nat) : Int) by omega, wrap_u64_nat, ← Int.natCast_add, wrap_u64_nat, H.out, Nat.mod_add_mod]
theorem roll_any (h b : Nat) (hb : b < 256) (w : World) : Calls Try.prog 20 #[.int .u64 (h : Int), .int .u8 (b : Int)] w fun e w' => e = .returned (.int .u64 ((roll h b : Nat) : Int)) ∧ w' = w := by
  obtain ⟨n, y, H1, H2, H3⟩ := ex_roll h b
  have E := rollw h n y H3
  have C := fun W => number_any b hb W
  rw [H1.out] at C
  rw [H2.out]
  clear H1 H2 H3
  go_enter Try.func20, Try.ntmps20
  go_wp2_with fail
  refine (C _).mono ?_
  rintro e w' ⟨rfl, rfl⟩
  go_wp2_with fail
  go_ret
  exact ⟨rfl, rfl⟩
theorem refRoll_any (h b : Nat) (hb : b < 256) (w : World) : Calls Try.prog 18 #[.int .u64 (h : Int), .int .u8 (b : Int)] w fun e w' => e = .returned (.int .u64 ((roll h b : Nat) : Int)) ∧ w' = w := by
  obtain ⟨n, y, H1, H2, H3⟩ := ex_roll h b
  have E : IntKind.u64.wrap (IntKind.u64.wrap ((h : Int) + (h : Int)) + (n : Int)) = (y : Int) := by
    rw [← Int.two_mul]; exact rollw h n y H3
  have C := fun W => refNumber_any b hb W
  rw [H1.out] at C
  rw [H2.out]
  clear H1 H2 H3
  go_enter Try.func18, Try.ntmps18
  go_wp2_with fail
  refine (C _).mono ?_
  rintro e w' ⟨rfl, rfl⟩
  go_wp2_with fail
  go_ret
  exact ⟨rfl, rfl⟩
/-- does a chunk end wherever the data end? -/
theorem full_any (s h : Nat) (hs : s ≤ 1000000) (_ : h < 18446744073709551616) (w : World) : Calls Try.prog 21 #[.int .i64 (s : Int), .int .u64 (h : Int)] w fun e w' => e = .returned (.bool (full s h)) ∧ w' = w := by
  have E : (h : Int) / 2 ^ 56 = ((h / 72057594037927936 : Nat) : Int) := by
    rw [show (2 : Int) ^ 56 = ((72057594037927936 : Nat) : Int) by decide +kernel, Int.natCast_ediv]
  by_cases h1 : s = 1024
  · subst h1
    have q : full 1024 h = true := by unfold full; simp
    rw [q]
    go_enter Try.func21, Try.ntmps21
    go_wp2
    go_ret
    exact ⟨rfl, rfl⟩
  · have q1 : ((s : Int) == 1024) = false := by simp; omega
    by_cases h2 : 64 ≤ s
    · have q2 : (64 : Int) ≤ (s : Int) := by omega
      by_cases h3 : h / 72057594037927936 = 0
      · have q : full s h = true := by unfold full; simp [h2, h3]
        rw [q]
        have E2 : (h : Int) / 72057594037927936 = 0 := by omega
        go_enter Try.func21, Try.ntmps21
        go_wp2
        go_ret
        exact ⟨rfl, rfl⟩
      · have q : full s h = false := by unfold full; simp [h1, h2, h3]
        rw [q]
        have E2 : ((h : Int) / 72057594037927936 == 0) = false := by simp; omega
        go_enter Try.func21, Try.ntmps21
        go_wp2
        go_ret
        exact ⟨rfl, rfl⟩
    · have q : full s h = false := by unfold full; simp [h1, h2]
      rw [q]
      have q2 : (s : Int) < 64 := by omega
      go_enter Try.func21, Try.ntmps21
      go_wp2
      go_ret
      exact ⟨rfl, rfl⟩
end Go.Proofs.Ytjcanlopilifoaa
