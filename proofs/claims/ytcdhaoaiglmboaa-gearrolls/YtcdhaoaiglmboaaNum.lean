/- Numbers of 64 bits that go round: a byte's number, a hash that rolls over bytes. No program in it. -/
namespace Go.Proofs.Ytcdhaoaiglmboaa
namespace Gr
def M : Nat := 18446744073709551616
def fold (x k : Nat) : Nat := x ^^^ x >>> k
def num (b : Nat) : Nat :=
  fold (fold (fold ((b + 1) * 11400714819323198485 % 18446744073709551616) 30 * 13787848793156543929 % 18446744073709551616) 27 * 10723151780598845931 % 18446744073709551616) 31
def roll (h b : Nat) : Nat := (2 * h + num b) % 18446744073709551616
def ov (h : Nat) (l : List Nat) : Nat := l.foldl roll h
theorem fold_lt {x : Nat} (k : Nat) (h : x < 18446744073709551616) : fold x k < 18446744073709551616 := by
  have h2 : x >>> k ≤ x := by rw [Nat.shiftRight_eq_div_pow]; exact Nat.div_le_self _ _
  exact Nat.xor_lt_two_pow (n := 64) h (Nat.lt_of_le_of_lt h2 h)
theorem num_lt (b : Nat) : num b < 18446744073709551616 := fold_lt _ (Nat.mod_lt _ (by decide))
theorem roll_lt (h b : Nat) : roll h b < 18446744073709551616 := Nat.mod_lt _ (by decide)
theorem ov_nil (h : Nat) : ov h [] = h := by unfold ov; rw [List.foldl_nil]
theorem ov_cons (h b : Nat) (r : List Nat) : ov h (b :: r) = ov (roll h b) r := by unfold ov; rw [List.foldl_cons]
theorem ov_lt (l : List Nat) : ∀ (h : Nat), h < 18446744073709551616 → ov h l < 18446744073709551616 := by
  induction l with
  | nil => intro h hh; rw [ov_nil]; exact hh
  | cons b r ih => intro h _; rw [ov_cons]; exact ih _ (roll_lt h b)
theorem ov_app (h : Nat) (a b : List Nat) : ov h (a ++ b) = ov (ov h a) b := by unfold ov; rw [List.foldl_append]
theorem ov_snoc (h : Nat) (a : List Nat) (x : Nat) : ov h (a ++ [x]) = roll (ov h a) x := by rw [ov_app, ov_cons, ov_nil]
/-- what a hash was at first is told by its double, as often as there are bytes -/
theorem step_is (m h n p y : Nat) : (((2 * h + n) % m) * p + y) % m = (h * (p * 2) + (((2 * 0 + n) % m) * p + y)) % m := by
  rw [Nat.add_mod (((2 * h + n) % m) * p), Nat.mod_mul_mod, ← Nat.add_mod, Nat.add_mod (h * (p * 2)), Nat.add_mod (((2 * 0 + n) % m) * p), Nat.mod_mul_mod, ← Nat.add_mod ((2 * 0 + n) * p), ← Nat.add_mod (h * (p * 2))]
  congr 1
  rw [Nat.mul_zero, Nat.zero_add, Nat.add_mul, Nat.add_assoc]
  congr 1
  rw [Nat.mul_comm 2 h, Nat.mul_assoc, Nat.mul_comm 2 p]
theorem step_is2 (m h x y : Nat) : (h + (x + y) % m) % m = (h + (x + y)) % m := by rw [Nat.add_mod, Nat.mod_mod, ← Nat.add_mod]
theorem ov_is (l : List Nat) : ∀ h : Nat, h < 18446744073709551616 → ov h l = (h * 2 ^ l.length + ov 0 l) % 18446744073709551616 := by
  induction l with
  | nil => intro h hh; rw [ov_nil, ov_nil, List.length_nil, Nat.pow_zero, Nat.mul_one, Nat.add_zero, Nat.mod_eq_of_lt hh]
  | cons b r ih =>
    intro h hh
    rw [ov_cons, ov_cons, ih (roll h b) (roll_lt h b), ih (roll 0 b) (roll_lt 0 b), step_is2, List.length_cons, Nat.pow_succ]
    unfold roll
    exact step_is _ _ _ _ _
theorem pow64 (n : Nat) (h : 64 ≤ n) (x : Nat) : x * 2 ^ n % 18446744073709551616 = 0 := by
  obtain ⟨k, rfl⟩ : ∃ k, n = k + 64 := ⟨n - 64, by omega⟩
  rw [Nat.pow_add, ← Nat.mul_assoc, show (2:Nat) ^ 64 = 18446744073709551616 from by decide +kernel]
  exact Nat.mul_mod_left _ _
/-- behind 64 bytes, or more, a hash is that of the last 64 alone -/
theorem ov_window (l : List Nat) (h : Nat) (hh : h < 18446744073709551616) (hl : 64 ≤ l.length) : ov h l = ov 0 l := by
  rw [ov_is l h hh, Nat.add_mod, pow64 _ hl, Nat.zero_add, Nat.mod_mod, Nat.mod_eq_of_lt (ov_lt l 0 (by decide))]
theorem ov_last (l : List Nat) (h k : Nat) (hh : h < 18446744073709551616) (hk : k + 64 ≤ l.length) : ov h l = ov 0 (l.drop k) := by
  have e : l = l.take k ++ l.drop k := (List.take_append_drop k l).symm
  have : ov h l = ov (ov h (l.take k)) (l.drop k) := by rw [← ov_app, ← e]
  rw [this]
  exact ov_window _ _ (ov_lt _ _ hh) (by rw [List.length_drop]; omega)
/-- a number doubled n times -/
def dbl (x n : Nat) : Nat := x * 2 ^ n % 18446744073709551616
theorem dbl_zero {x : Nat} (h : x < 18446744073709551616) : dbl x 0 = x := by simp [dbl, Nat.mod_eq_of_lt h]
theorem dbl_lt (x n : Nat) : dbl x n < 18446744073709551616 := Nat.mod_lt _ (by decide)
theorem dbl_succ (x n : Nat) : (dbl x n + dbl x n) % 18446744073709551616 = dbl x (n + 1) := by
  unfold dbl
  rw [← Nat.add_mod, ← Nat.mul_two, Nat.mul_assoc, ← Nat.pow_succ]
theorem dbl_64 (x n : Nat) (h : 64 ≤ n) : dbl x n = dbl x 64 := by
  unfold dbl; rw [pow64 n h, pow64 64 (Nat.le_refl _)]
/-- over two parts -/
theorem ov_two (a b : List Nat) (n : Nat) (hn : n = min b.length 64) : ov 0 (a ++ b) = (dbl (ov 0 a) n + ov 0 b) % 18446744073709551616 := by
  have e : dbl (ov 0 a) n = dbl (ov 0 a) b.length := by
    subst hn
    by_cases h : b.length ≤ 64
    · rw [Nat.min_eq_left h]
    · rw [Nat.min_eq_right (by omega), dbl_64 _ b.length (by omega)]
  rw [e, ov_app, ov_is b _ (ov_lt a 0 (by decide))]
  unfold dbl
  rw [Nat.add_mod (_ % _), Nat.mod_mod, ← Nat.add_mod]
set_option maxRecDepth 100000 in
/-- no two bytes have one number -/
theorem apart0 : ∀ a : Fin 256, ∀ b : Fin 256, b.val < a.val → num a.val ≠ num b.val := by decide +kernel
end Gr
end Go.Proofs.Ytcdhaoaiglmboaa
