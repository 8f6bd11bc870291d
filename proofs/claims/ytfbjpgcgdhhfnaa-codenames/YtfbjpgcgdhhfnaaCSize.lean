/- How long payloads are: the program's Size, and the document's. -/
import Derived.Test.YtfbjpgcgdhhfnaaCMath
namespace Go.Proofs.Ytfbjpgcgdhhfnaa
open Go.RowKit
/-- a code -/
def cv (K N : Int) : Value := .agg #[.int .i64 K, .int .i64 N]
def errZ (K N n : Int) : Int := if Mx.mayC K N ∧ 0 ≤ n then (if n ≤ 32768 then 0 else 40) else 1
def ansZ (K N n : Int) : Int := if (Mx.mayC K N ∧ 0 ≤ n) ∧ n ≤ 32768 then ((sz K.toNat n.toNat : Nat) : Int) else 0
theorem mayC_facts {K N : Int} (h : Mx.mayC K N = true) : ∃ k n : Nat, K = (k : Int) ∧ N = (n : Int) ∧ 1 ≤ k ∧ k ≤ n ∧ n ≤ 12 := by
  unfold Mx.mayC at h
  have h := of_decide_eq_true h
  exact ⟨K.toNat, N.toNat, by omega, by omega, by omega, by omega, by omega⟩
theorem tdiv_nat (a b : Nat) : Int.tdiv (a : Int) (b : Int) = ((a / b : Nat) : Int) := rfl
theorem tmod_nat (a b : Nat) : Int.tmod (a : Int) (b : Int) = ((a % b : Nat) : Int) := rfl
theorem size_any (K N n : Int) (w : World) :
    Calls Try.prog 8 #[cv K N, .int .i64 n] w fun e w' => e = .returned (.tuple #[.int .i64 (ansZ K N n), .int .i64 (errZ K N n)]) ∧ Below w.heap.size w w' := by
  have bA : Below w.heap.size w (w.alloc (.cells #[.int .i64 K, .int .i64 N] 24)) := (Below.refl _ _).alloc (Nat.le_refl _) _
  have hmc := Mx.mayCode_any K N (w.alloc (.cells #[.int .i64 K, .int .i64 N] 24))
  cases hm : Mx.mayC K N with
  | false =>
    have e1 : Hid (errZ K N n = 1 ∧ ansZ K N n = 0) := by unfold Hid errZ ansZ; rw [hm]; simp
    unfold cv
    go_enter Try.func8, Try.ntmps8
    go_wp2_with fail
    refine hmc.mono ?_
    rintro e w1 ⟨rfl, b1⟩
    rw [hm]
    go_wp2_with fail
    go_ret2
    exact ⟨by rw [e1.out.1, e1.out.2]; rfl, belowCall bA b1⟩
  | true =>
    obtain ⟨k, m, rfl, rfl, h1, h2, h3⟩ := mayC_facts hm
    by_cases hn : 0 ≤ n
    · obtain ⟨n, rfl⟩ : ∃ q : Nat, n = (q : Int) := ⟨n.toNat, by omega⟩
      have d0 : decide ((n : Int) < 0) = false := by simp
      by_cases hl : n ≤ 32768
      · have e1 : Hid (errZ k m n = 0 ∧ ansZ k m n = ((sz k n : Nat) : Int)) := by
          unfold Hid errZ ansZ; rw [hm]; simp; omega
        have d1 : decide ((32768 : Int) < (n : Int)) = false := by simp; omega
        have HZ : Hid ((8 + (n : Int) + (k : Int) - 1) / (k : Int) = ((sz k n : Nat) : Int)) := by
          unfold Hid sz
          rw [show (8 + (n : Int) + (k : Int) - 1) = ((8 + n + k - 1 : Nat) : Int) by omega]; rfl
        have hk0 : ((k : Int) == 0) = false := by rw [beq_eq_false_iff_ne]; omega
        have hk1 : ¬ (k : Int) = 0 := by omega
        have hcell : ∀ i, (w.alloc (.cells #[.int .i64 (k : Int), .int .i64 (m : Int)] 24)).cell? ⟨w.heap.size, i, none⟩ = (#[.int .i64 (k : Int), .int .i64 (m : Int)] : Array Value)[i]? := fun i => (Has.new w w.heap.size _ 24 rfl).cell i
        have s1 : Hid (sz k n < 9223372036854775808) := by have := sz_le k n h1; unfold Hid; omega
        unfold cv
        go_enter Try.func8, Try.ntmps8
        go_wp2_with fail
        refine hmc.mono ?_
        rintro e w1 ⟨rfl, b1⟩
        rw [hm]
        have c0 : w1.cell? ⟨w.heap.size, 0, none⟩ = some (.int .i64 (k : Int)) := cell_below b1 (by simp) (hcell 0)
        go_wp2_with fail
        go_ret2
        exact ⟨by rw [e1.out.1, e1.out.2, ← HZ.out]; rfl, belowCall bA b1⟩
      · have e1 : Hid (errZ k m n = 40 ∧ ansZ k m n = 0) := by
          unfold Hid errZ ansZ; rw [hm]; simp; omega
        have d1 : decide ((32768 : Int) < (n : Int)) = true := by simp; omega
        unfold cv
        go_enter Try.func8, Try.ntmps8
        go_wp2_with fail
        refine hmc.mono ?_
        rintro e w1 ⟨rfl, b1⟩
        rw [hm]
        go_wp2_with fail
        go_ret2
        exact ⟨by rw [e1.out.1, e1.out.2]; rfl, belowCall bA b1⟩
    · have e1 : Hid (errZ k m n = 1 ∧ ansZ k m n = 0) := by
        unfold Hid errZ ansZ; simp [hn]
      have d0 : decide (n < 0) = true := by simp; omega
      unfold cv
      go_enter Try.func8, Try.ntmps8
      go_wp2_with fail
      refine hmc.mono ?_
      rintro e w1 ⟨rfl, b1⟩
      rw [hm]
      go_wp2_with fail
      go_ret2
      exact ⟨by rw [e1.out.1, e1.out.2]; rfl, belowCall bA b1⟩
theorem sz_up {K n a : Nat} (hK : 1 ≤ K) (h0 : 8 + n ≤ a) (h1 : ∀ b, 8 + n ≤ b → b < a → b % K ≠ 0) (h2 : a % K = 0) : a / K = sz K n := by
  obtain ⟨f1, f2, f3⟩ := sz_facts K n hK
  have e : a = K * sz K n := by
    by_cases hlt : K * sz K n < a
    · exact absurd (Nat.mul_mod_right K (sz K n)) (h1 _ f1 hlt)
    · by_cases hgt : a < K * sz K n
      · obtain ⟨q, hq⟩ : ∃ q, a = K * q := Nat.dvd_of_mod_eq_zero h2
        have h4 : q < sz K n := by
          by_cases hc : q < sz K n
          · exact hc
          · have := Nat.mul_le_mul_left K (show sz K n ≤ q by omega); omega
        have h5 : K * (q + 1) ≤ K * sz K n := Nat.mul_le_mul_left K h4
        rw [Nat.mul_succ] at h5
        omega
      · omega
  rw [e, Nat.mul_div_cancel_left _ (by omega)]
set_option maxRecDepth 20000 in
theorem refSize_any (K N n : Int) (w : World) :
    Calls Try.prog 14 #[cv K N, .int .i64 n] w fun e w' => e = .returned (.tuple #[.int .i64 (ansZ K N n), .int .i64 (errZ K N n)]) ∧ Below w.heap.size w w' := by
  have bA : Below w.heap.size w (w.alloc (.cells #[.int .i64 K, .int .i64 N] 24)) := (Below.refl _ _).alloc (Nat.le_refl _) _
  have hmc := Mx.refMayCode_any K N (w.alloc (.cells #[.int .i64 K, .int .i64 N] 24))
  cases hm : Mx.mayC K N with
  | false =>
    have e1 : Hid (errZ K N n = 1 ∧ ansZ K N n = 0) := by unfold Hid errZ ansZ; rw [hm]; simp
    unfold cv
    go_enter Try.func14, Try.ntmps14
    go_wp2_with fail
    refine hmc.mono ?_
    rintro e w1 ⟨rfl, b1⟩
    rw [hm]
    go_wp2_with fail
    go_ret2
    exact ⟨by rw [e1.out.1, e1.out.2]; rfl, belowCall bA b1⟩
  | true =>
    obtain ⟨k, m, rfl, rfl, h1, h2, h3⟩ := mayC_facts hm
    by_cases hn : 0 ≤ n
    · obtain ⟨n, rfl⟩ : ∃ q : Nat, n = (q : Int) := ⟨n.toNat, by omega⟩
      have d0 : decide ((n : Int) < 0) = false := by simp
      by_cases hl : n ≤ 32768
      · have e1 : Hid (errZ k m n = 0 ∧ ansZ k m n = ((sz k n : Nat) : Int)) := by
          unfold Hid errZ ansZ; rw [hm]; simp; omega
        have d1 : decide ((32768 : Int) < (n : Int)) = false := by simp; omega
        have hk0 : ((k : Int) == 0) = false := by rw [beq_eq_false_iff_ne]; omega
        have hk1 : ¬ (k : Int) = 0 := by omega
        have hcell : ∀ i, (w.alloc (.cells #[.int .i64 (k : Int), .int .i64 (m : Int)] 24)).cell? ⟨w.heap.size, i, none⟩ = (#[.int .i64 (k : Int), .int .i64 (m : Int)] : Array Value)[i]? := fun i => (Has.new w w.heap.size _ 24 rfl).cell i
        obtain ⟨f1, f2, f3⟩ := sz_facts k n h1
        unfold cv
        go_enter Try.func14, Try.ntmps14
        go_wp2_with fail
        refine hmc.mono ?_
        rintro e w1 ⟨rfl, b1⟩
        rw [hm]
        have c0 : w1.cell? ⟨w.heap.size, 0, none⟩ = some (.int .i64 (k : Int)) := cell_below b1 (by simp) (hcell 0)
        clear hcell
        go_wp2_with fail
        go_loopw [6] (fun va wr => wr = w1 ∧ ∃ a : Nat, va = .int .i64 (a : Int) ∧ 8 + n ≤ a ∧ a ≤ k * sz k n ∧ Hid (∀ b, 8 + n ≤ b → b < a → b % k ≠ 0)) (fun va _ => k * sz k n - (intOf va).toNat)
        case atStart => exact ⟨rfl, 8 + n, by simp, by omega, f1, fun b hb hb2 => absurd hb2 (by omega)⟩
        case round =>
          obtain ⟨rfl, a, rfl, ha1, ha2, hj⟩ := hrel
          have T1 : Hid ((a : Int) % (k : Int) = ((a % k : Nat) : Int)) := rfl
          by_cases hz : a % k = 0
          · have t0 : (a : Int) % (k : Int) = 0 := by rw [T1.out, hz]; rfl
            have t2 := sz_le k n h1
            have t1 : Hid (wrap64 ((a : Int) / (k : Int)) = ((sz k n : Nat) : Int)) := by
              unfold Hid
              rw [show (a : Int) / (k : Int) = ((a / k : Nat) : Int) from rfl, sz_up h1 ha1 hj.out hz]
              unfold wrap64; omega
            clear T1 hj
            go_wp2_with fail
            go_ret2
            exact ⟨by rw [e1.out.1, e1.out.2, ← t1.out]; rfl, belowCall bA b1⟩
          · have t0 : (((a : Int) % (k : Int)) != 0) = true := by rw [T1.out]; simp; omega
            have hlt : a < k * sz k n := by
              by_cases h : a = k * sz k n
              · rw [h, Nat.mul_mod_right] at hz; exact absurd rfl hz
              · omega
            have hb : Hid (∀ b, 8 + n ≤ b → b < a + 1 → b % k ≠ 0) := fun b h4 h5 => by
              by_cases h6 : b < a
              · exact hj.out b h4 h6
              · obtain rfl : b = a := by omega
                exact hz
            clear T1 hj hz
            go_wp2_with fail
            exact ⟨⟨by simp, a + 1, by simp, by omega, hlt, hb⟩, by simp [intOf]; omega⟩
      · have e1 : Hid (errZ k m n = 40 ∧ ansZ k m n = 0) := by
          unfold Hid errZ ansZ; rw [hm]; simp; omega
        have d1 : decide ((32768 : Int) < (n : Int)) = true := by simp; omega
        unfold cv
        go_enter Try.func14, Try.ntmps14
        go_wp2_with fail
        refine hmc.mono ?_
        rintro e w1 ⟨rfl, b1⟩
        rw [hm]
        go_wp2_with fail
        go_ret2
        exact ⟨by rw [e1.out.1, e1.out.2]; rfl, belowCall bA b1⟩
    · have e1 : Hid (errZ k m n = 1 ∧ ansZ k m n = 0) := by
        unfold Hid errZ ansZ; simp [hn]
      have d0 : decide (n < 0) = true := by simp; omega
      unfold cv
      go_enter Try.func14, Try.ntmps14
      go_wp2_with fail
      refine hmc.mono ?_
      rintro e w1 ⟨rfl, b1⟩
      rw [hm]
      go_wp2_with fail
      go_ret2
      exact ⟨by rw [e1.out.1, e1.out.2]; rfl, belowCall bA b1⟩
end Go.Proofs.Ytfbjpgcgdhhfnaa
