/- The document's Digits and Name. -/
import Derived.Test.YtnhakbpalfcmfaaDoorSName
import Derived.Test.YtnhakbpalfcmfaaDoorRefUnhex
namespace Go.Proofs.YtnhakbpalfcmfaaDoor
open Go.RowKit
theorem dec_small (n : Nat) (h : n < 10) : dec (n : Int) = [48 + n] := by
  unfold dec; rw [Lib.itoa_nonneg, Lib.decDigits, dif_pos h]; simp; omega
theorem dec_big (n : Nat) (h : ¬ n < 10) : dec (n : Int) = dec ((n / 10 : Nat) : Int) ++ [48 + n % 10] := by
  unfold dec; rw [Lib.itoa_nonneg, Lib.itoa_nonneg, Lib.decDigits, dif_neg h, List.map_append]; simp; omega
theorem dec_neg (n : Nat) (h : 1 ≤ n) : dec (-(n : Int)) = 45 :: dec (n : Int) := by
  unfold dec; rw [Lib.itoa_neg n h, Lib.itoa_nonneg]; rfl
/-- the string of one byte that a row was made of -/
theorem conv_one (w : World) (x : Nat) (z : Int) (hz : z = (x : Int)) : (convert 43 9 (.slice (some ⟨w.heap.size, 0, none⟩) 1 1)).run Tryd.prog (w.alloc (.cells #[.int .u8 z] 5)) = .ok (.string (ofBs [x])) (w.alloc (.cells #[.int .u8 z] 5)) := by
  subst hz
  exact conv_str _ _ [x] 5 1 (Has.new _ _ _ _ rfl)
set_option maxRecDepth 20000 in
theorem refDigits_pos (n : Nat) : ∀ (_ : (n : Int) ≤ 9223372036854775807) (w : World), Calls Tryd.prog 29 #[.int .i64 (n : Int)] w fun e w' => e = .returned (.string (ofBs (dec (n : Int)))) ∧ Below w.heap.size w w' := by
  induction n using Nat.strongRecOn with
  | _ n ih =>
    intro hn w
    have HC := fun w => conv_one w (48 + n % 10) (48 + (n : Int) % 10) (by omega)
    have d0 : ¬ (n : Int) < 0 := by omega
    by_cases h : n < 10
    · have E : Hid (dec (n : Int) = [48 + n % 10]) := by unfold Hid; rw [dec_small n h]; congr 1; omega
      have d1 : ¬ (10 : Int) ≤ (n : Int) := by omega
      have F : Hid ((⟨#[]⟩ : ByteArray) ++ ofBs [48 + n % 10] = ofBs (dec (n : Int))) := by unfold Hid; rw [E.out]; rfl
      have q1 : ¬ 9223372036854775807 < (⟨#[]⟩ : ByteArray).size + (ofBs [48 + n % 10]).size := by
        rw [ofBs_size]; show ¬ 9223372036854775807 < 0 + 1; omega
      generalize ofBs [48 + n % 10] = A at *
      clear ih
      go_enter Tryd.func29, Tryd.ntmps29
      go_wp2_with fail
      go_ret
      exact ⟨by rw [F.out]; rfl, (Below.refl _ _).alloc (Nat.le_refl _) _⟩
    · have E : Hid (dec (n : Int) = dec ((n / 10 : Nat) : Int) ++ [48 + n % 10]) := dec_big n h
      have d1 : (10 : Int) ≤ (n : Int) := by omega
      have IH := ih (n / 10) (by omega) (by omega) w
      have el := dec_length ((n / 10 : Nat) : Int) (by omega) (by omega)
      rw [← ofBs_size] at el
      have F : Hid (ofBs (dec ((n / 10 : Nat) : Int)) ++ ofBs [48 + n % 10] = ofBs (dec (n : Int))) := by unfold Hid; rw [E.out, ofBs_append]
      have fl : (ofBs [48 + n % 10]).size = 1 := ofBs_size _
      generalize ofBs (dec ((n / 10 : Nat) : Int)) = A at *
      generalize ofBs [48 + n % 10] = B at *
      have q1 : ¬ 9223372036854775807 < A.size + B.size := by omega
      rw [Int.natCast_ediv] at IH
      clear ih el fl E
      go_enter Tryd.func29, Tryd.ntmps29
      go_wp2_with fail
      refine IH.mono ?_
      rintro e w1 ⟨rfl, b1⟩
      go_wp2_with fail
      go_ret
      exact ⟨by rw [F.out]; rfl, belowAlloc b1 _⟩
set_option maxRecDepth 20000 in
theorem refDigits_any (n : Int) (h0 : -9223372036854775808 ≤ n) (h1 : n ≤ 9223372036854775807) (w : World) : Calls Tryd.prog 29 #[.int .i64 n] w fun e w' => e = .returned (.string (ofBs (dec n))) ∧ Below w.heap.size w w' := by
  by_cases hn : 0 ≤ n
  · obtain ⟨m, rfl⟩ := Int.eq_ofNat_of_zero_le hn
    exact refDigits_pos m h1 w
  · obtain ⟨m, hm⟩ : ∃ m : Nat, n = -(m : Int) := ⟨n.natAbs, by omega⟩
    have d0 : n < 0 := by omega
    have e1 : n.tdiv 10 = -((m / 10 : Nat) : Int) := by
      rw [hm, Int.neg_tdiv, Int.tdiv_eq_ediv_of_nonneg (by omega)]; rfl
    have e2 : n.tmod 10 = -((m % 10 : Nat) : Int) := by
      rw [hm, Int.neg_tmod, Int.tmod_eq_emod_of_nonneg (by omega)]; rfl
    have HC := fun w => conv_one w (48 + m % 10) (48 + ((m % 10 : Nat) : Int)) (by omega)
    have D : dec n = 45 :: dec (m : Int) := by rw [hm]; exact dec_neg m (by omega)
    by_cases h : m < 10
    · have F : Hid ((⟨#[45]⟩ : ByteArray) ++ ⟨#[]⟩ ++ ofBs [48 + m % 10] = ofBs (dec n)) := by
        unfold Hid; rw [D, dec_small m h, Nat.mod_eq_of_lt h]; rfl
      have fl : (ofBs [48 + m % 10]).size = 1 := ofBs_size _
      have e0 : m / 10 = 0 := by omega
      rw [e0] at e1
      have e1' : n.tdiv 10 = 0 := e1
      generalize ofBs [48 + m % 10] = B at *
      have q2 : ¬ 9223372036854775807 < 1 + B.size := by omega
      have hr : ((m % 10 : Nat) : Int) < 10 := by omega
      have w2 : wrap64 (48 + ((m % 10 : Nat) : Int)) = 48 + ((m % 10 : Nat) : Int) := by unfold wrap64; omega
      have w3 : (48 + ((m % 10 : Nat) : Int)) % 256 = 48 + ((m % 10 : Nat) : Int) := by omega
      clear fl D e1 e0
      generalize m % 10 = r at *
      clear hm
      go_enter Tryd.func29, Tryd.ntmps29
      go_wp2_with fail
      go_ret
      exact ⟨by rw [F.out]; rfl, (Below.refl _ _).alloc (Nat.le_refl _) _⟩
    · have IH := refDigits_pos (m / 10) (by omega) w
      have el := dec_length ((m / 10 : Nat) : Int) (by omega) (by omega)
      rw [← ofBs_size] at el
      have F : Hid ((⟨#[45]⟩ : ByteArray) ++ ofBs (dec ((m / 10 : Nat) : Int)) ++ ofBs [48 + m % 10] = ofBs (dec n)) := by
        unfold Hid; rw [D, dec_big m h, show (⟨#[45]⟩ : ByteArray) = ofBs [45] from rfl, ← ofBs_append, ← ofBs_append]; rfl
      have fl : (ofBs [48 + m % 10]).size = 1 := ofBs_size _
      have d2 : ((-((m / 10 : Nat) : Int)) != 0) = true := by rw [bne_iff_ne]; omega
      generalize ofBs (dec ((m / 10 : Nat) : Int)) = A at *
      generalize ofBs [48 + m % 10] = B at *
      have q1 : ¬ 9223372036854775807 < 1 + A.size := by omega
      have q2 : ¬ 9223372036854775807 < 1 + A.size + B.size := by omega
      have hp : ((m / 10 : Nat) : Int) ≤ 922337203685477580 := by omega
      have hr : ((m % 10 : Nat) : Int) < 10 := by omega
      have w1 : wrap64 (-((m / 10 : Nat) : Int)) = -((m / 10 : Nat) : Int) := by unfold wrap64; omega
      have w2 : wrap64 (48 + ((m % 10 : Nat) : Int)) = 48 + ((m % 10 : Nat) : Int) := by unfold wrap64; omega
      have w3 : (48 + ((m % 10 : Nat) : Int)) % 256 = 48 + ((m % 10 : Nat) : Int) := by omega
      clear el fl D
      generalize m / 10 = p at *
      generalize m % 10 = r at *
      clear hm
      go_enter Tryd.func29, Tryd.ntmps29
      go_wp2_with fail
      refine IH.mono ?_
      rintro e w4 ⟨rfl, b1⟩
      go_wp2_with fail
      go_ret
      exact ⟨by rw [F.out]; rfl, belowAlloc b1 _⟩
theorem refName_any (d : ByteArray) (i : Int) (hd : d.size ≤ 400000000000) (h0 : -9223372036854775808 ≤ i) (h1 : i ≤ 9223372036854775807) (w : World) :
    Calls Tryd.prog 14 #[.string d, .int .i64 i] w fun e w' => e = .returned (.string (ofBs (nm (bs d) i))) ∧ Below w.heap.size w w' := by
  have z1 : (ofBs (Sha.hex (bs d))).size = 2 * d.size := by rw [ofBs_size, hex_length, bs_length]
  have z2 : (ofBs (dec i)).size ≤ 21 := by rw [ofBs_size]; exact dec_length i h0 h1
  have E : Hid (ofBs (Sha.hex (bs d)) ++ ⟨#[46]⟩ ++ ofBs (dec i) = ofBs (nm (bs d) i)) := by
    unfold Hid nm; rw [ofBs_append, ofBs_append]; rfl
  go_enter Tryd.func14, Tryd.ntmps14
  go_wp2_with fail
  refine (refHex_any d hd w).mono ?_
  rintro e w1 ⟨rfl, b1⟩
  have hB := refDigits_any i h0 h1 w1
  generalize ofBs (Sha.hex (bs d)) = A at *
  generalize ofBs (dec i) = B at *
  have q1 : ¬ 9223372036854775807 < A.size + 1 := by omega
  have q2 : ¬ 9223372036854775807 < A.size + 1 + B.size := by omega
  clear z1 z2
  go_wp2_with fail
  refine hB.mono ?_
  rintro e w2 ⟨rfl, b2⟩
  go_wp2_with fail
  go_ret
  exact ⟨by rw [E.out]; rfl, belowCall b1 b2⟩
end Go.Proofs.YtnhakbpalfcmfaaDoor
