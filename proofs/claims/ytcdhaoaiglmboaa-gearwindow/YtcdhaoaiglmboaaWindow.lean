/- The walk of GearWindow. -/
import Derived.Test.YtcdhaoaiglmboaaWalks
namespace Go.Proofs.Ytcdhaoaiglmboaa
open Go.RowKit
open Gr
theorem bs_append (a b : ByteArray) : bs (a ++ b) = bs a ++ bs b := by
  unfold bs
  rw [← List.map_append]
  congr 1
theorem bs_extract (c : ByteArray) (m : Nat) (hm : c.size = m + 64) : bs (c.extract m (m + 64)) = (bs c).drop m := by
  have e : c.data.toList.length = m + 64 := hm
  unfold bs
  rw [ByteArray.data_extract, Array.toList_extract, List.extract_eq_take_drop, ← List.map_drop]
  congr 1
  rw [List.take_of_length_le (by rw [List.length_drop, e]; omega)]
theorem extract_size (c : ByteArray) (m : Nat) (hm : c.size = m + 64) : (c.extract m (m + 64)).size = 64 := by
  rw [ByteArray.size_extract]; omega
theorem last64 (h : Nat) (hh : h < 18446744073709551616) (c : ByteArray) (m : Nat) (hm : c.size = m + 64) : ov h (bs c) = ov 0 (bs (c.extract m (m + 64))) := by
  rw [bs_extract c m hm]
  exact ov_last _ _ _ hh (by rw [bs_length]; omega)
theorem dbl_step (y k : Nat) : IntKind.u64.wrap (((dbl y k : Nat) : Int) + ((dbl y k : Nat) : Int)) = ((dbl y (k + 1) : Nat) : Int) := by
  rw [← Int.natCast_add, wrap_u64_nat, dbl_succ]
theorem sum_u64 (x y z : Nat) (h : Hid (z = (x + y) % 18446744073709551616)) : IntKind.u64.wrap ((x : Int) + (y : Int)) = (z : Int) := by
  rw [← Int.natCast_add, wrap_u64_nat, h.out]
set_option maxRecDepth 20000 in
theorem window_walk (h : Nat) (hh : h < 18446744073709551616) (a b : ByteArray) (hsa : a.size ≤ 9223372036854775807) (hsb : b.size ≤ 9223372036854775807) (w : World) :
    Calls Try.prog 5 #[.int .u64 (h : Int), .string a, .string b] w fun e w' => e = .returned (.bool true) ∧ Below w.heap.size w w' := by
  by_cases ga : (20000 : Int) < (a.size : Int)
  · go_enter Try.func5, Try.ntmps5
    go_wp2_with fail
    refine (works_true _).mono ?_
    rintro e w1 ⟨rfl, b1⟩
    go_wp2_with fail
    refine (works_true _).mono ?_
    rintro e w2 ⟨rfl, b2⟩
    go_wp2_with fail
    go_ret
    exact ⟨rfl, belowCall b1 b2⟩
  by_cases gb : (20000 : Int) < (b.size : Int)
  · go_enter Try.func5, Try.ntmps5
    go_wp2_with fail
    refine (works_true _).mono ?_
    rintro e w1 ⟨rfl, b1⟩
    go_wp2_with fail
    refine (works_true _).mono ?_
    rintro e w2 ⟨rfl, b2⟩
    go_wp2_with fail
    go_ret
    exact ⟨rfl, belowCall b1 b2⟩
  have j1 : ¬ 9223372036854775807 < a.size + b.size := by omega
  have da : decide ((20000 : Int) < (a.size : Int)) = false := by simp; omega
  have db : decide ((20000 : Int) < (b.size : Int)) = false := by simp; omega
  have HC := bs_append a b
  go_enter Try.func5, Try.ntmps5
  go_wp2_with fail
  refine (works_true _).mono ?_
  rintro e w1 ⟨rfl, b1⟩
  go_wp2_with fail
  generalize a ++ b = c at *
  have hlen : (bs c).length = a.size + b.size := by rw [HC, List.length_append, bs_length, bs_length]
  have hsc : c.size = a.size + b.size := by rw [← bs_length, hlen]
  have HC' : Hid _ := HC
  have hc0 : c.size ≤ 40000 := by omega
  clear HC hlen hsc
  go_loopw [0, 8] (fun v0 v wr => ∃ k : Nat, k ≤ c.size ∧ v0 = .int .u64 ((ov h ((bs c).take k) : Nat) : Int) ∧ v = .int .i64 (k : Int) ∧ wr = w1) (fun _ v _ => c.size - (intOf v).toNat)
  case atStart => exact ⟨0, by omega, rfl, rfl, rfl⟩
  case round =>
    obtain ⟨k, hk, rfl, rfl, rfl⟩ := hrel
    by_cases hlt : k < c.size
    · have x0 : c[k].toNat < 256 := c[k].toNat_lt
      have i0 : (0 : Int) ≤ (k : Int) := by omega
      have i1 : (k : Int) < (c.size : Int) := by omega
      have HS : Hid _ := ov_step h c k hlt
      generalize ov h (List.take k (bs c)) = y at *
      go_wp2_with fail
      refine (roll_any y c[k].toNat x0 _).mono ?_
      rintro e w2 ⟨rfl, rfl⟩
      go_wp2_with fail
      exact ⟨⟨k + 1, by omega, by rw [HS.out], by rfl, trivial⟩, by simp [intOf]; omega⟩
    · obtain rfl : k = c.size := by omega
      rw [take_all]
      clear hlt hk
      have CA := fun W => over_any a hsa W
      have CB := fun W => over_any b hsb W
      have CC := fun W => over_any c (by omega) W
      have HF : Hid (∀ n, n = min b.size 64 → Hid (ov 0 (bs c) = (dbl (ov 0 (bs a)) n + ov 0 (bs b)) % 18446744073709551616)) := by
        intro n hn
        unfold Hid
        rw [HC'.out]
        exact ov_two _ _ _ (by rw [bs_length]; exact hn)
      have HY : Hid (ov 0 (bs a) < 18446744073709551616) := ov_lt _ _ (by decide)
      by_cases h64 : 64 ≤ c.size
      · have d64 : decide ((64 : Int) ≤ (c.size : Int)) = true := by simp; omega
        have q1 : (64 : Int) ≤ (c.size : Int) := by omega
        obtain ⟨m, hm⟩ : ∃ m : Nat, c.size = m + 64 := ⟨c.size - 64, by omega⟩
        have q2 : (c.size : Int) - 64 = (m : Int) := by omega
        have hw := last64 h hh c m hm
        have CW := fun W => over_any (c.extract m (m + 64)) (by rw [extract_size c m hm]; decide) W
        rw [← hw] at CW
        clear hw
        generalize ov h (bs c) = H at *
        generalize ov 0 (bs c) = x at *
        generalize ov 0 (bs a) = y at *
        generalize ov 0 (bs b) = z0 at *
        go_wp2_with fail
        refine (CW _).mono ?_
        rintro e w2 ⟨rfl, b2⟩
        have B2 := belowCall b1 b2
        clear b2
        go_wp2_with fail
        refine (CA _).mono ?_
        rintro e w3 ⟨rfl, b3⟩
        have B3 := belowCall B2 b3
        clear b3
        go_wp2_with fail
        go_loopw [9, 10] (fun v9 v wr' => ∃ k : Nat, k ≤ b.size ∧ k ≤ 64 ∧ v9 = .int .u64 ((dbl y k : Nat) : Int) ∧ v = .int .i64 (k : Int) ∧ wr' = w3) (fun _ v _ => 64 - (intOf v).toNat)
        case atStart => exact ⟨0, by omega, by omega, by rw [dbl_zero HY.out], rfl, rfl⟩
        case round =>
          obtain ⟨k, hk, hk4, rfl, rfl, rfl⟩ := hrel
          by_cases hlt : k < b.size
          · have e1 : decide ((k : Int) < (b.size : Int)) = true := by simp; omega
            by_cases hl4 : k < 64
            · have e2 : decide ((k : Int) < 64) = true := by simp; omega
              have E := dbl_step y k
              have HG : ∀ x : Nat, Hid (x = dbl y (k + 1)) → Hid (x = dbl y (k + 1)) := fun _ h => h
              generalize hz : dbl y (k + 1) = z at *
              go_wp2_with fail
              exact ⟨⟨k + 1, by omega, by omega, by rw [hz], by rfl, trivial⟩, by simp [intOf]; omega⟩
            · obtain rfl : k = 64 := by omega
              have HX := HF.out 64 (by omega)
              have E := sum_u64 _ _ _ HX
              generalize dbl y 64 = d at *
              clear HF HX
              go_wp2_with fail
              refine (CC _).mono ?_
              rintro e w4 ⟨rfl, b4⟩
              have B4 := belowCall B3 b4
              clear B3 b4
              go_wp2_with fail
              refine (CB _).mono ?_
              rintro e w5 ⟨rfl, b5⟩
              have B5 := belowCall B4 b5
              clear B4 b5
              go_wp2_with fail
              go_ret
              exact ⟨by simp, B5⟩
          · have e1 : decide ((k : Int) < (b.size : Int)) = false := by simp; omega
            have HX := HF.out k (by omega)
            have E := sum_u64 _ _ _ HX
            generalize dbl y k = d at *
            clear HF HX
            go_wp2_with fail
            refine (CC _).mono ?_
            rintro e w4 ⟨rfl, b4⟩
            have B4 := belowCall B3 b4
            clear B3 b4
            go_wp2_with fail
            refine (CB _).mono ?_
            rintro e w5 ⟨rfl, b5⟩
            have B5 := belowCall B4 b5
            clear B4 b5
            go_wp2_with fail
            go_ret
            exact ⟨by simp, B5⟩
      · have d64 : decide ((64 : Int) ≤ (c.size : Int)) = false := by simp; omega
        generalize ov h (bs c) = H at *
        generalize ov 0 (bs c) = x at *
        generalize ov 0 (bs a) = y at *
        generalize ov 0 (bs b) = z0 at *
        go_wp2_with fail
        refine (CA _).mono ?_
        rintro e w3 ⟨rfl, b3⟩
        have B3 := belowCall b1 b3
        clear b3
        go_wp2_with fail
        go_loopw [9, 10] (fun v9 v wr' => ∃ k : Nat, k ≤ b.size ∧ k ≤ 64 ∧ v9 = .int .u64 ((dbl y k : Nat) : Int) ∧ v = .int .i64 (k : Int) ∧ wr' = w3) (fun _ v _ => 64 - (intOf v).toNat)
        case atStart => exact ⟨0, by omega, by omega, by rw [dbl_zero HY.out], rfl, rfl⟩
        case round =>
          obtain ⟨k, hk, hk4, rfl, rfl, rfl⟩ := hrel
          by_cases hlt : k < b.size
          · have e1 : decide ((k : Int) < (b.size : Int)) = true := by simp; omega
            by_cases hl4 : k < 64
            · have e2 : decide ((k : Int) < 64) = true := by simp; omega
              have E := dbl_step y k
              have HG : ∀ x : Nat, Hid (x = dbl y (k + 1)) → Hid (x = dbl y (k + 1)) := fun _ h => h
              generalize hz : dbl y (k + 1) = z at *
              go_wp2_with fail
              exact ⟨⟨k + 1, by omega, by omega, by rw [hz], by rfl, trivial⟩, by simp [intOf]; omega⟩
            · obtain rfl : k = 64 := by omega
              have HX := HF.out 64 (by omega)
              have E := sum_u64 _ _ _ HX
              generalize dbl y 64 = d at *
              clear HF HX
              go_wp2_with fail
              refine (CC _).mono ?_
              rintro e w4 ⟨rfl, b4⟩
              have B4 := belowCall B3 b4
              clear B3 b4
              go_wp2_with fail
              refine (CB _).mono ?_
              rintro e w5 ⟨rfl, b5⟩
              have B5 := belowCall B4 b5
              clear B4 b5
              go_wp2_with fail
              go_ret
              exact ⟨by simp, B5⟩
          · have e1 : decide ((k : Int) < (b.size : Int)) = false := by simp; omega
            have HX := HF.out k (by omega)
            have E := sum_u64 _ _ _ HX
            generalize dbl y k = d at *
            clear HF HX
            go_wp2_with fail
            refine (CC _).mono ?_
            rintro e w4 ⟨rfl, b4⟩
            have B4 := belowCall B3 b4
            clear B3 b4
            go_wp2_with fail
            refine (CB _).mono ?_
            rintro e w5 ⟨rfl, b5⟩
            have B5 := belowCall B4 b5
            clear B4 b5
            go_wp2_with fail
            go_ret
            exact ⟨by simp, B5⟩
end Go.Proofs.Ytcdhaoaiglmboaa
