/- The laws of the field, over Nat. No program in it. -/
import Derived.Test.YtjgjcbgeekfkkaaMath
namespace Go.Proofs.Ytjgjcbgeekfkkaa
namespace Fld
theorem pw_pwr {n : Nat} (h : n < 255) : pw n = pwr n := pw_pwr0 ⟨n, h⟩
theorem pwr_lt {n : Nat} (h : n < 255) : pwr n < 256 := (pwr_facts0 ⟨n, h⟩).1
theorem pwr_ne {n : Nat} (h : n < 255) : pwr n ≠ 0 := (pwr_facts0 ⟨n, h⟩).2.1
theorem lg_pwr {n : Nat} (h : n < 255) : lg (pwr n) = n := (pwr_facts0 ⟨n, h⟩).2.2.1
theorem pwr_succ {n : Nat} (h : n < 255) : pwr ((n + 1) % 255) = dbl (pwr n) := (pwr_facts0 ⟨n, h⟩).2.2.2
theorem lg_lt {a : Nat} (h : a < 256) : lg a < 255 := (lg_facts0 ⟨a, h⟩).1
theorem pwr_lg {a : Nat} (h : a < 256) (h0 : a ≠ 0) : pwr (lg a) = a := (lg_facts0 ⟨a, h⟩).2 h0
theorem dbl_lt {a : Nat} (h : a < 256) : dbl a < 256 := (dbl_facts0 ⟨a, h⟩).1
theorem m255 (n : Nat) : n % 255 < 255 := Nat.mod_lt _ (by decide)
theorem pwr_one : pwr 0 = 1 := by decide
theorem lg_one : lg 1 = 0 := by decide
/-- a product -/
def mul (a b : Nat) : Nat := if a = 0 ∨ b = 0 then 0 else pwr ((lg a + lg b) % 255)
def inv (a : Nat) : Nat := pwr ((255 - lg a) % 255)
def exp (n : Int) : Nat := pwr (n % 255).toNat
theorem mul_lt (a b : Nat) : mul a b < 256 := by
  unfold mul; split
  · decide
  · exact pwr_lt (m255 _)
theorem mul_zero (a : Nat) : mul a 0 = 0 := by simp [mul]
theorem zero_mul (a : Nat) : mul 0 a = 0 := by simp [mul]
theorem mul_comm (a b : Nat) : mul a b = mul b a := by
  unfold mul; rw [Nat.add_comm (lg a)]; simp only [or_comm (a := a = 0)]
theorem mul_nz {a b : Nat} (ha : a ≠ 0) (hb : b ≠ 0) : mul a b = pwr ((lg a + lg b) % 255) := by simp [mul, ha, hb]
theorem mul_ne {a b : Nat} (ha : a ≠ 0) (hb : b ≠ 0) : mul a b ≠ 0 := by rw [mul_nz ha hb]; exact pwr_ne (m255 _)
theorem mul_pwr {n m : Nat} (hn : n < 255) (hm : m < 255) : mul (pwr n) (pwr m) = pwr ((n + m) % 255) := by
  rw [mul_nz (pwr_ne hn) (pwr_ne hm), lg_pwr hn, lg_pwr hm]
theorem mul_one {a : Nat} (h : a < 256) : mul a 1 = a := by
  by_cases h0 : a = 0
  · subst h0; rfl
  · rw [mul_nz h0 (by decide), lg_one, Nat.add_zero, Nat.mod_eq_of_lt (lg_lt h), pwr_lg h h0]
theorem mul_assoc {a b c : Nat} (ha : a < 256) (hb : b < 256) (hc : c < 256) : mul (mul a b) c = mul a (mul b c) := by
  by_cases a0 : a = 0
  · subst a0; simp [zero_mul]
  by_cases b0 : b = 0
  · subst b0; simp [zero_mul, mul_zero]
  by_cases c0 : c = 0
  · subst c0; simp [mul_zero]
  rw [mul_nz (mul_ne a0 b0) c0, mul_nz a0 (mul_ne b0 c0), mul_nz a0 b0, mul_nz b0 c0, lg_pwr (m255 _), lg_pwr (m255 _)]
  congr 1; omega
theorem mul_inv {a : Nat} (h : a < 256) (h0 : a ≠ 0) : mul a (inv a) = 1 := by
  have := lg_lt h
  unfold inv
  rw [mul_nz h0 (pwr_ne (m255 _)), lg_pwr (m255 _), ← pwr_one]
  congr 1; omega
theorem inv_lt (a : Nat) : inv a < 256 := pwr_lt (m255 _)
theorem mul_left_inj {a b c : Nat} (ha : a < 256) (hb : b < 256) (hc : c < 256) (h0 : a ≠ 0) (h : mul a b = mul a c) : b = c := by
  have e : ∀ x, x < 256 → mul (inv a) (mul a x) = x := fun x hx => by
    rw [← mul_assoc (inv_lt a) ha hx, mul_comm (inv a) a, mul_inv ha h0, mul_comm, mul_one hx]
  rw [← e b hb, h, e c hc]
theorem inv_ne (a : Nat) : inv a ≠ 0 := pwr_ne (m255 _)
theorem mul_one_iff {a b : Nat} (ha : a < 256) (hb : b < 256) (h0 : a ≠ 0) : mul a b = 1 ↔ b = inv a := by
  constructor
  · intro h; exact mul_left_inj ha hb (inv_lt a) h0 (by rw [h, mul_inv ha h0])
  · rintro rfl; exact mul_inv ha h0
theorem exp_lt (n : Int) : exp n < 256 := pwr_lt (by omega)
theorem exp_add (n m : Int) : exp (n + m) = mul (exp n) (exp m) := by
  unfold exp
  rw [mul_pwr (by omega) (by omega)]; congr 1; omega
theorem exp_zero : exp 0 = 1 := by decide
theorem exp_neg (n : Int) : mul (exp n) (exp (-n)) = 1 := by
  rw [← exp_add, Int.add_right_neg, exp_zero]
theorem exp_lg {a : Nat} (h : a < 256) (h0 : a ≠ 0) : exp (lg a : Int) = a := by
  have := lg_lt h
  unfold exp
  rw [show ((lg a : Int) % 255).toNat = lg a by omega, pwr_lg h h0]
theorem lg_mul {a b : Nat} (ha : a ≠ 0) (hb : b ≠ 0) : lg (mul a b) = (lg a + lg b) % 255 := by
  rw [mul_nz ha hb, lg_pwr (m255 _)]
/-- doubled so often -/
def dbls : Nat → Nat → Nat
  | 0, x => x
  | n + 1, x => dbl (dbls n x)
theorem xor_ac (a b c d : Nat) : (a ^^^ b) ^^^ (c ^^^ d) = (a ^^^ c) ^^^ (b ^^^ d) := by
  rw [Nat.xor_assoc, Nat.xor_assoc, ← Nat.xor_assoc b c d, Nat.xor_comm b c, Nat.xor_assoc c b d]
theorem ite_xor (p q : Bool) (c : Nat) : (if (p ^^ q) = true then c else 0) = (if p = true then c else 0) ^^^ (if q = true then c else 0) := by
  cases p <;> cases q <;> simp
theorem dbl_xor (x y : Nat) : dbl (x ^^^ y) = dbl x ^^^ dbl y := by
  unfold dbl
  rw [Nat.testBit_xor, ite_xor, Nat.shiftLeft_xor_distrib, xor_ac]
theorem dbls_xor (n x y : Nat) : dbls n (x ^^^ y) = dbls n x ^^^ dbls n y := by
  induction n with
  | zero => rfl
  | succ n ih => simp only [dbls, ih, dbl_xor]
theorem dbls_zero (n : Nat) : dbls n 0 = 0 := by
  induction n with
  | zero => rfl
  | succ n ih => simp only [dbls, ih]; rfl
theorem pwr_dbls (n k : Nat) : pwr ((n + k) % 255) = dbls n (pwr (k % 255)) := by
  induction n with
  | zero => simp [dbls]
  | succ n ih => rw [dbls, ← ih, ← pwr_succ (m255 _)]; congr 1; omega
theorem mul_dbls {a b : Nat} (hb : b < 256) (h0 : a ≠ 0) : mul a b = dbls (lg a) b := by
  by_cases b0 : b = 0
  · subst b0; rw [mul_zero, dbls_zero]
  · rw [mul_nz h0 b0, pwr_dbls, Nat.mod_eq_of_lt (lg_lt hb), pwr_lg hb b0]
theorem xor_lt {a b : Nat} (ha : a < 256) (hb : b < 256) : a ^^^ b < 256 := Nat.xor_lt_two_pow (n := 8) ha hb
theorem mul_xor {a b c : Nat} (hb : b < 256) (hc : c < 256) : mul a (b ^^^ c) = mul a b ^^^ mul a c := by
  by_cases h0 : a = 0
  · subst h0; simp [zero_mul]
  · rw [mul_dbls (xor_lt hb hc) h0, mul_dbls hb h0, mul_dbls hc h0, dbls_xor]
/-- the product, bit by bit -/
def stA (a b k p : Nat) : Nat := p ^^^ (if b.testBit k then a <<< k else 0)
def stB (k p : Nat) : Nat := p ^^^ (if p.testBit k then 285 <<< (k - 8) else 0)
/-- behind k steps of the first loop -/
def sumA (a b : Nat) : Nat → Nat
  | 0 => 0
  | k + 1 => stA a b k (sumA a b k)
/-- behind k steps of the second loop -/
def redB (p : Nat) : Nat → Nat
  | 0 => p
  | k + 1 => stB (14 - k) (redB p k)
theorem stB_xor (k x y : Nat) : stB k (x ^^^ y) = stB k x ^^^ stB k y := by
  unfold stB; rw [Nat.testBit_xor, ite_xor, xor_ac]
theorem redB_xor (k x y : Nat) : redB (x ^^^ y) k = redB x k ^^^ redB y k := by
  induction k with
  | zero => rfl
  | succ k ih => simp only [redB, ih, stB_xor]
theorem redB_zero (k : Nat) : redB 0 k = 0 := by
  induction k with
  | zero => rfl
  | succ k ih => simp [redB, ih, stB]
/-- the bits of b below k -/
def low (b : Nat) : Nat → Nat
  | 0 => 0
  | k + 1 => low b k ^^^ (if b.testBit k then 2 ^ k else 0)
set_option maxRecDepth 100000 in
theorem low_8 : ∀ b : Fin 256, low b.val 8 = b.val := by decide +kernel
set_option maxRecDepth 100000 in
theorem low_lt0 : ∀ b : Fin 256, ∀ k : Fin 9, low b.val k.val < 256 := by decide +kernel
set_option maxRecDepth 100000 in
theorem red_pow0 : ∀ k : Fin 8, ∀ a : Fin 256, redB (a.val <<< k.val) 7 = mul a.val (2 ^ k.val) := by decide +kernel
theorem red_sum {a b : Nat} (ha : a < 256) (hb : b < 256) : ∀ k, k ≤ 8 → redB (sumA a b k) 7 = mul a (low b k)
  | 0, _ => by simp [sumA, low, redB_zero, mul_zero]
  | k + 1, h => by
    have ih := red_sum ha hb k (by omega)
    have hl : low b k < 256 := low_lt0 ⟨b, hb⟩ ⟨k, by omega⟩
    have hp : (2 : Nat) ^ k < 256 := Nat.pow_lt_pow_right (a := 2) (by decide) (show k < 8 by omega)
    simp only [sumA, stA, low]
    rw [redB_xor, ih]
    by_cases hk : b.testBit k = true
    · rw [if_pos hk, if_pos hk, mul_xor hl hp, red_pow0 ⟨k, by omega⟩ ⟨a, ha⟩]
    · rw [if_neg hk, if_neg hk, redB_zero]; simp
theorem red_mul {a b : Nat} (ha : a < 256) (hb : b < 256) : redB (sumA a b 8) 7 = mul a b := by
  rw [red_sum ha hb 8 (by omega), low_8 ⟨b, hb⟩]
theorem sumA_lt {a : Nat} (b : Nat) (ha : a < 256) (k : Nat) (h : k ≤ 8) : sumA a b k < 2 ^ 16 := by
  induction k with
  | zero => simp [sumA]
  | succ k ih =>
    simp only [sumA, stA]
    refine Nat.xor_lt_two_pow (ih (by omega)) ?_
    split
    · rw [Nat.shiftLeft_eq]
      have : 2 ^ k ≤ 2 ^ 7 := Nat.pow_le_pow_right (by decide) (by omega)
      calc a * 2 ^ k ≤ 255 * 2 ^ 7 := Nat.mul_le_mul (by omega) this
        _ < 2 ^ 16 := by decide
    · decide
theorem redB_lt {p : Nat} (hp : p < 2 ^ 16) (k : Nat) (h : k ≤ 7) : redB p k < 2 ^ 16 := by
  induction k with
  | zero => exact hp
  | succ k ih =>
    simp only [redB, stB]
    refine Nat.xor_lt_two_pow (ih (by omega)) ?_
    split
    · rw [Nat.shiftLeft_eq]
      have : 2 ^ (14 - k - 8) ≤ 2 ^ 6 := Nat.pow_le_pow_right (by decide) (by omega)
      calc 285 * 2 ^ (14 - k - 8) ≤ 285 * 2 ^ 6 := Nat.mul_le_mul (Nat.le_refl _) this
        _ < 2 ^ 16 := by decide
    · decide
set_option maxRecDepth 100000 in
theorem mul_two0 : ∀ a : Fin 256, mul a.val 2 = dbl a.val := by decide +kernel
theorem mul_two {a : Nat} (h : a < 256) : mul a 2 = dbl a := mul_two0 ⟨a, h⟩
end Fld
end Go.Proofs.Ytjgjcbgeekfkkaa
