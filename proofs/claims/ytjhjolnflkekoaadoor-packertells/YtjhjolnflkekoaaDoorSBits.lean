/- The contracts of the document's comparison and roots. -/
import Derived.Test.YtjhjolnflkekoaaDoorSDig
import Derived.Test.YtjhjolnflkekoaaDoorSRootsT
namespace Go.Proofs.YtjhjolnflkekoaaDoor.S
open Go.RowKit
theorem want_in (n nt m : Nat) (h1 : nt ≤ m) (h2 : m < nt + 4) : Ref.want n nt m = (Ref.dg n).getD (m - nt) 0 := by unfold Ref.want; rw [if_pos ⟨h1, h2⟩]
theorem want_out (n nt m : Nat) (h : ¬ (nt ≤ m ∧ m < nt + 4)) : Ref.want n nt m = 0 := by unfold Ref.want; rw [if_neg h]
set_option maxRecDepth 20000 in
set_option maxHeartbeats 1000000 in
theorem above_any (a : List Nat) (n nt : Nat) (ha : a.length ≤ 100) (hn : n < 18446744073709551616) (hnt : nt ≤ 100) (va : Value) (w : World) (la : Lies w va (U64s a) 84) :
    Calls Tryd.prog 64 #[va, .int .u64 (n : Int), .int .i64 (nt : Int)] w fun e w' => e = .returned (.bool (Ref.ab a n nt a.length)) ∧ Below w.heap.size w w' := by
  obtain ⟨ga, ca, rfl, hA⟩ := la
  rw [U64s_size]
  go_enter Tryd.func64, Tryd.ntmps64
  go_wp2_with fail
  go_loopw [7] (fun vi wr => ∃ j : Nat, j ≤ a.length ∧ vi = .int .i64 ((j : Int) - 1) ∧ Ref.ab a n nt a.length = Ref.ab a n nt j ∧ Below w.heap.size w wr) (fun vi _ => (intOf vi + 1).toNat)
  case atStart => exact ⟨a.length, by omega, rfl, rfl, Below.refl _ _⟩
  case round =>
    obtain ⟨j, hj, rfl, HA, b1⟩ := hrel
    by_cases hj0 : j = 0
    · subst hj0
      have HA' : Hid _ := HA
      clear HA
      go_wp2_with fail
      go_ret
      exact ⟨by rw [HA'.out]; rfl, b1⟩
    · obtain ⟨m, rfl⟩ : ∃ m, j = m + 1 := ⟨j - 1, by omega⟩
      rw [show (((m + 1 : Nat) : Int) - 1) = (m : Int) by omega]
      have hm : m < a.length := by omega
      have i0 : (m : Int) < (a.length : Int) := by omega
      obtain ⟨x, hx⟩ : ∃ x, a.getD m 0 = x := ⟨_, rfl⟩
      have HC : Hid (∀ W, Below w.heap.size w W → W.cell? ⟨ga, m, none⟩ = some (.int .u64 (x : Int))) := fun W hW => by
        rw [← hx]; exact ((hA.below hW hA.lt).cell m).trans (U64s_get _ _ hm)
      rw [show Ref.ab a n nt (m + 1) = (if a.getD m 0 = Ref.want n nt m then Ref.ab a n nt m else decide (Ref.want n nt m < a.getD m 0)) from rfl, hx] at HA
      clear hx
      by_cases h1 : nt ≤ m
      · have d1 : decide ((nt : Int) ≤ (m : Int)) = true := by simp; omega
        by_cases h2 : m < nt + 4
        · have d2 : decide ((m : Int) < (nt : Int) + 4) = true := by simp; omega
          rw [want_in n nt m h1 h2] at HA
          have hHA : Hid _ := HA
          clear HA
          have s1 : (0 : Int) ≤ (m : Int) - (nt : Int) := by omega
          have s2 : (m : Int) - (nt : Int) < 4 := by omega
          have s3 : ((m : Int) - (nt : Int)).toNat = m - nt := by omega
          go_wp2_with fail
          refine (digits_any n hn _).mono ?_
          rintro e w2 ⟨v, rfl, ⟨g, cap, rfl, hD⟩, b2⟩
          have B2 := belowCall b1 b2
          have cA := HC.out _ B2
          have cD := (hD.cell (m - nt)).trans (U64s_get _ _ (by rw [Ref.dg_length]; omega))
          rw [U64s_size, Ref.dg_length]
          have HA := hHA.out
          clear hHA
          generalize (Ref.dg n).getD (m - nt) 0 = y at *
          by_cases hxy : x = y
          · have q1 : ((x : Int) != (y : Int)) = false := by rw [hxy]; simp
            rw [if_pos hxy] at HA
            clear hxy
            go_wp2_with fail
            go_roundw
            case rel => exact ⟨m, by omega, by go_num, HA, B2⟩
            case measure => show ((m : Int) - 1 + 1).toNat < ((m : Int) + 1).toNat; omega
          · have q1 : ((x : Int) != (y : Int)) = true := by rw [bne_iff_ne]; omega
            rw [if_neg hxy] at HA
            clear hxy
            have HA' : Hid _ := HA
            clear HA
            go_wp2_with fail
            go_ret
            exact ⟨by rw [HA'.out]; simp, B2⟩
        · have d2 : decide ((m : Int) < (nt : Int) + 4) = false := by simp; omega
          rw [want_out n nt m (by omega)] at HA
          have cA := HC.out _ b1
          by_cases hxy : x = 0
          · have q1 : ((x : Int) != 0) = false := by rw [hxy]; simp
            rw [if_pos hxy] at HA
            clear hxy
            go_wp2_with fail
            go_roundw
            case rel => exact ⟨m, by omega, by go_num, HA, b1⟩
            case measure => show ((m : Int) - 1 + 1).toNat < ((m : Int) + 1).toNat; omega
          · have q1 : ((x : Int) != 0) = true := by rw [bne_iff_ne]; omega
            rw [if_neg hxy] at HA
            clear hxy
            have HA' : Hid _ := HA
            clear HA
            go_wp2_with fail
            go_ret
            exact ⟨by rw [HA'.out]; simp, b1⟩
      · have d1 : decide ((nt : Int) ≤ (m : Int)) = false := by simp; omega
        rw [want_out n nt m (by omega)] at HA
        have cA := HC.out _ b1
        by_cases hxy : x = 0
        · have q1 : ((x : Int) != 0) = false := by rw [hxy]; simp
          rw [if_pos hxy] at HA
          clear hxy
          go_wp2_with fail
          go_roundw
          case rel => exact ⟨m, by omega, by go_num, HA, b1⟩
          case measure => show ((m : Int) - 1 + 1).toNat < ((m : Int) + 1).toNat; omega
        · have q1 : ((x : Int) != 0) = true := by rw [bne_iff_ne]; omega
          rw [if_neg hxy] at HA
          clear hxy
          have HA' : Hid _ := HA
          clear HA
          go_wp2_with fail
          go_ret
          exact ⟨by rw [HA'.out]; simp, b1⟩
theorem addAt_succ (k : Nat) : Ref.addAt (k + 1) = Ref.addAt k / 2 := by
  unfold Ref.addAt; rw [Nat.pow_succ, Nat.div_div_eq_div_mul]
theorem addAt_le (k : Nat) : Ref.addAt k ≤ 68719476736 := Nat.div_le_self _ _
theorem addAt_pos : ∀ k : Fin 37, 0 < Ref.addAt k.val := by decide
theorem addAt_end : Ref.addAt 37 = 0 := by decide
theorem bitsTo_lt (n root k : Nat) : Ref.bitsTo n root k < 18446744073709551616 := by
  induction k with
  | zero => simp only [Ref.bitsTo]; omega
  | succ k ih =>
    simp only [Ref.bitsTo, Ref.bit]
    split
    · exact ih
    · exact Nat.mod_lt _ (by decide)
set_option maxRecDepth 20000 in
set_option maxHeartbeats 1000000 in
theorem bitsOf_any (n root : Nat) (hn : n < 18446744073709551616) (w : World) :
    Calls Tryd.prog 58 #[.int .u64 (n : Int), .int .i64 (root : Int)] w fun e w' => e = .returned (.int .u32 ((Ref.bitsOf n root : Nat) : Int)) ∧ Below w.heap.size w w' := by
  have HL : Hid (∀ k, Ref.bitsTo n root k < 18446744073709551616) := bitsTo_lt n root
  have HE : Hid (Ref.bitsOf n root = Ref.bitsTo n root 37 % 4294967296) := rfl
  have HS : Hid (∀ k, Ref.bitsTo n root (k + 1) = if Ref.ab (Ref.cubed root (Ref.dg ((Ref.bitsTo n root k + Ref.addAt k) % 18446744073709551616))) n (Ref.nts root) (Ref.cubed root (Ref.dg ((Ref.bitsTo n root k + Ref.addAt k) % 18446744073709551616))).length then Ref.bitsTo n root k else (Ref.bitsTo n root k + Ref.addAt k) % 18446744073709551616) := fun k => rfl
  have H0 : Hid (Ref.bitsTo n root 0 = 0) := rfl
  generalize Ref.bitsTo n root = f at *
  go_enter Tryd.func58, Tryd.ntmps58
  go_wp2_with fail
  go_loopw [5, 6] (fun vx va wr => ∃ k : Nat, k ≤ 37 ∧ va = .int .u64 ((Ref.addAt k : Nat) : Int) ∧ vx = .int .u64 ((f k : Nat) : Int) ∧ Below w.heap.size w wr) (fun _ va _ => (intOf va).toNat)
  case atStart => exact ⟨0, by omega, rfl, by rw [H0.out]; rfl, Below.refl _ _⟩
  case round =>
    obtain ⟨k, hk, rfl, rfl, b1⟩ := hrel
    by_cases hlt : k < 37
    · have hx := HL.out k
      have hs := HS.out k
      have ha := addAt_pos ⟨k, hlt⟩
      have ha2 := addAt_le k
      have hs2 := addAt_succ k
      simp only at ha
      generalize f k = x at *
      generalize Ref.addAt k = d at *
      have q0 : decide ((0 : Int) < (d : Int)) = true := by simp; omega
      have hD : (x + d) % 18446744073709551616 < 18446744073709551616 := Nat.mod_lt _ (by decide)
      have hw : IntKind.u64.wrap ((x : Int) + (d : Int)) = (((x + d) % 18446744073709551616 : Nat) : Int) := by rw [← Int.natCast_add, wrap_u64_nat]
      generalize (x + d) % 18446744073709551616 = y at *
      have hs' : Hid _ := hs
      have hs2' : Hid _ := hs2
      clear hs hs2
      go_wp2_with fail
      refine (digits_any y hD _).mono ?_
      rintro e w2 ⟨v2, rfl, l2, b2⟩
      have B2 := belowCall b1 b2
      clear b1 b2
      go_wp2_with fail
      refine (times_any (Ref.dg y) (Ref.dg y) (by rw [Ref.dg_length]; decide) (by rw [Ref.dg_length]; decide) _ _ _ l2 l2).mono ?_
      rintro e w3 ⟨v3, rfl, l3, b3⟩
      have l4 := l2.below b3
      have B3 := belowCall B2 b3
      clear B2 b3 l2
      by_cases r3 : root = 3
      · have r0 : ((root : Int) == 3) = true := by rw [r3]; rfl
        have hs'' := hs'.out
        rw [show Ref.cubed root (Ref.dg y) = Ref.tms (Ref.tms (Ref.dg y) (Ref.dg y)) (Ref.dg y) by unfold Ref.cubed; rw [if_pos r3], show Ref.nts root = 6 by unfold Ref.nts; rw [if_pos r3]] at hs''
        clear hs' r3
        go_wp2_with fail
        refine (times_any (Ref.tms (Ref.dg y) (Ref.dg y)) (Ref.dg y) (by rw [Ref.tms_length, Ref.dg_length]; decide) (by rw [Ref.dg_length]; decide) _ _ _ l3 l4).mono ?_
        rintro e w4 ⟨v4, rfl, l5, b4⟩
        have B4 := belowCall B3 b4
        clear B3 b4 l3 l4
        go_wp2_with fail
        refine (above_any (Ref.tms (Ref.tms (Ref.dg y) (Ref.dg y)) (Ref.dg y)) n 6 (by rw [Ref.tms_length, Ref.tms_length, Ref.dg_length]; decide) hn (by decide) _ _ l5).mono ?_
        rintro e w5 ⟨rfl, b5⟩
        have B5 := belowCall B4 b5
        clear B4 b5 l5
        cases hz : Ref.ab (Ref.tms (Ref.tms (Ref.dg y) (Ref.dg y)) (Ref.dg y)) n 6 (Ref.tms (Ref.tms (Ref.dg y) (Ref.dg y)) (Ref.dg y)).length
        · rw [hz] at hs''
          have hs3 : Hid _ := hs''
          clear hs'' hz
          go_wp2_with fail
          exact ⟨⟨k + 1, by omega, by rw [hs2'.out]; simp, by rw [hs3.out]; simp, B5⟩, by simp [intOf]; omega⟩
        · rw [hz] at hs''
          have hs3 : Hid _ := hs''
          clear hs'' hz
          go_wp2_with fail
          exact ⟨⟨k + 1, by omega, by rw [hs2'.out]; simp, by rw [hs3.out]; simp, B5⟩, by simp [intOf]; omega⟩
      · have r0 : ((root : Int) == 3) = false := by rw [beq_eq_false_iff_ne]; omega
        have hs'' := hs'.out
        rw [show Ref.cubed root (Ref.dg y) = Ref.tms (Ref.dg y) (Ref.dg y) by unfold Ref.cubed; rw [if_neg r3], show Ref.nts root = 4 by unfold Ref.nts; rw [if_neg r3]] at hs''
        clear hs' r3
        go_wp2_with fail
        refine (above_any (Ref.tms (Ref.dg y) (Ref.dg y)) n 4 (by rw [Ref.tms_length, Ref.dg_length]; decide) hn (by decide) _ _ l3).mono ?_
        rintro e w5 ⟨rfl, b5⟩
        have B5 := belowCall B3 b5
        clear B3 b5 l3 l4
        cases hz : Ref.ab (Ref.tms (Ref.dg y) (Ref.dg y)) n 4 (Ref.tms (Ref.dg y) (Ref.dg y)).length
        · rw [hz] at hs''
          have hs3 : Hid _ := hs''
          clear hs'' hz
          go_wp2_with fail
          exact ⟨⟨k + 1, by omega, by rw [hs2'.out]; simp, by rw [hs3.out]; simp, B5⟩, by simp [intOf]; omega⟩
        · rw [hz] at hs''
          have hs3 : Hid _ := hs''
          clear hs'' hz
          go_wp2_with fail
          exact ⟨⟨k + 1, by omega, by rw [hs2'.out]; simp, by rw [hs3.out]; simp, B5⟩, by simp [intOf]; omega⟩
    · obtain rfl : k = 37 := by omega
      have hx := HL.out 37
      rw [addAt_end]
      generalize f 37 = x at *
      go_wp2_with fail
      go_ret
      exact ⟨by rw [HE.out]; exact ret_int (by omega), b1⟩
end Go.Proofs.YtjhjolnflkekoaaDoor.S
