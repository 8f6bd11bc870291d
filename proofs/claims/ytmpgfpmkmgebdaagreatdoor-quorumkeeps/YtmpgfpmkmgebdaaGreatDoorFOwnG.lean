/- The contracts of the document's comparison and roots. -/
import Derived.Test.YtmpgfpmkmgebdaaGreatDoorFRootsT
import Derived.Lib.ConvBytes
namespace Go.Proofs.YtmpgfpmkmgebdaaGreatDoor.F
open Go.RowKit
theorem want_in (n nt m : Nat) (h1 : nt ≤ m) (h2 : m < nt + 4) : Ref.want n nt m = (Ref.dg n).getD (m - nt) 0 := by unfold Ref.want; rw [if_pos ⟨h1, h2⟩]
theorem want_out (n nt m : Nat) (h : ¬ (nt ≤ m ∧ m < nt + 4)) : Ref.want n nt m = 0 := by unfold Ref.want; rw [if_neg h]
set_option maxRecDepth 20000 in
set_option maxHeartbeats 1000000 in
theorem above_any (a : List Nat) (n nt : Nat) (ha : a.length ≤ 100) (hn : n < 18446744073709551616) (hnt : nt ≤ 100) (va : Value) (w : World) (la : Lies w va (U64s a) 201) :
    Calls Tryz.prog 175 #[va, .int .u64 (n : Int), .int .i64 (nt : Int)] w fun e w' => e = .returned (.bool (Ref.ab a n nt a.length)) ∧ Below w.heap.size w w' := by
  obtain ⟨ga, ca, rfl, hA⟩ := la
  rw [U64s_size]
  go_enter Tryz.func175, Tryz.ntmps175
  go_wp2_with fail
  go_loopw [7] (fun vi wr => ∃ j : Nat, j ≤ a.length ∧ vi = .int .i64 ((j : Int) - 1) ∧ Ref.ab a n nt a.length = Ref.ab a n nt j ∧ Below w.heap.size w wr) (fun vi _ => (intOf vi + 1).toNat)
  case atStart => exact ⟨a.length, by omega, rfl, rfl, Below.refl _ _⟩
  case round =>
    obtain ⟨j, hj, rfl, HA, b1⟩ := hrel
    by_cases hj0 : j = 0
    · subst hj0
      have HA' : Hid _ := HA
      clear HA
      go_wp2_with fail
      go_ret
      exact ⟨by rw [HA'.out]; rfl, b1⟩
    · obtain ⟨m, rfl⟩ : ∃ m, j = m + 1 := ⟨j - 1, by omega⟩
      rw [show (((m + 1 : Nat) : Int) - 1) = (m : Int) by omega]
      have hm : m < a.length := by omega
      have i0 : (m : Int) < (a.length : Int) := by omega
      obtain ⟨x, hx⟩ : ∃ x, a.getD m 0 = x := ⟨_, rfl⟩
      have HC : Hid (∀ W, Below w.heap.size w W → W.cell? ⟨ga, m, none⟩ = some (.int .u64 (x : Int))) := fun W hW => by
        rw [← hx]; exact ((hA.below hW hA.lt).cell m).trans (U64s_get _ _ hm)
      rw [show Ref.ab a n nt (m + 1) = (if a.getD m 0 = Ref.want n nt m then Ref.ab a n nt m else decide (Ref.want n nt m < a.getD m 0)) from rfl, hx] at HA
      clear hx
      by_cases h1 : nt ≤ m
      · have d1 : decide ((nt : Int) ≤ (m : Int)) = true := by simp; omega
        by_cases h2 : m < nt + 4
        · have d2 : decide ((m : Int) < (nt : Int) + 4) = true := by simp; omega
          rw [want_in n nt m h1 h2] at HA
          have hHA : Hid _ := HA
          clear HA
          have s1 : (0 : Int) ≤ (m : Int) - (nt : Int) := by omega
          have s2 : (m : Int) - (nt : Int) < 4 := by omega
          have s3 : ((m : Int) - (nt : Int)).toNat = m - nt := by omega
          go_wp2_with fail
          refine (digits_any n hn _).mono ?_
          rintro e w2 ⟨v, rfl, ⟨g, cap, rfl, hD⟩, b2⟩
          have B2 := belowCall b1 b2
          have cA := HC.out _ B2
          have cD := (hD.cell (m - nt)).trans (U64s_get _ _ (by rw [Ref.dg_length]; omega))
          rw [U64s_size, Ref.dg_length]
          have HA := hHA.out
          clear hHA
          generalize (Ref.dg n).getD (m - nt) 0 = y at *
          by_cases hxy : x = y
          · have q1 : ((x : Int) != (y : Int)) = false := by rw [hxy]; simp
            rw [if_pos hxy] at HA
            clear hxy
            go_wp2_with fail
            go_roundw
            case rel => exact ⟨m, by omega, by go_num, HA, B2⟩
            case measure => show ((m : Int) - 1 + 1).toNat < ((m : Int) + 1).toNat; omega
          · have q1 : ((x : Int) != (y : Int)) = true := by rw [bne_iff_ne]; omega
            rw [if_neg hxy] at HA
            clear hxy
            have HA' : Hid _ := HA
            clear HA
            go_wp2_with fail
            go_ret
            exact ⟨by rw [HA'.out]; simp, B2⟩
        · have d2 : decide ((m : Int) < (nt : Int) + 4) = false := by simp; omega
          rw [want_out n nt m (by omega)] at HA
          have cA := HC.out _ b1
          by_cases hxy : x = 0
          · have q1 : ((x : Int) != 0) = false := by rw [hxy]; simp
            rw [if_pos hxy] at HA
            clear hxy
            go_wp2_with fail
            go_roundw
            case rel => exact ⟨m, by omega, by go_num, HA, b1⟩
            case measure => show ((m : Int) - 1 + 1).toNat < ((m : Int) + 1).toNat; omega
          · have q1 : ((x : Int) != 0) = true := by rw [bne_iff_ne]; omega
            rw [if_neg hxy] at HA
            clear hxy
            have HA' : Hid _ := HA
            clear HA
            go_wp2_with fail
            go_ret
            exact ⟨by rw [HA'.out]; simp, b1⟩
      · have d1 : decide ((nt : Int) ≤ (m : Int)) = false := by simp; omega
        rw [want_out n nt m (by omega)] at HA
        have cA := HC.out _ b1
        by_cases hxy : x = 0
        · have q1 : ((x : Int) != 0) = false := by rw [hxy]; simp
          rw [if_pos hxy] at HA
          clear hxy
          go_wp2_with fail
          go_roundw
          case rel => exact ⟨m, by omega, by go_num, HA, b1⟩
          case measure => show ((m : Int) - 1 + 1).toNat < ((m : Int) + 1).toNat; omega
        · have q1 : ((x : Int) != 0) = true := by rw [bne_iff_ne]; omega
          rw [if_neg hxy] at HA
          clear hxy
          have HA' : Hid _ := HA
          clear HA
          go_wp2_with fail
          go_ret
          exact ⟨by rw [HA'.out]; simp, b1⟩
theorem addAt_succ (k : Nat) : Ref.addAt (k + 1) = Ref.addAt k / 2 := by
  unfold Ref.addAt; rw [Nat.pow_succ, Nat.div_div_eq_div_mul]
theorem addAt_le (k : Nat) : Ref.addAt k ≤ 68719476736 := Nat.div_le_self _ _
theorem addAt_pos : ∀ k : Fin 37, 0 < Ref.addAt k.val := by decide
theorem addAt_end : Ref.addAt 37 = 0 := by decide
theorem bitsTo_lt (n root k : Nat) : Ref.bitsTo n root k < 18446744073709551616 := by
  induction k with
  | zero => simp only [Ref.bitsTo]; omega
  | succ k ih =>
    simp only [Ref.bitsTo, Ref.bit]
    split
    · exact ih
    · exact Nat.mod_lt _ (by decide)
set_option maxRecDepth 20000 in
set_option maxHeartbeats 1000000 in
theorem bitsOf_any (n root : Nat) (hn : n < 18446744073709551616) (w : World) :
    Calls Tryz.prog 155 #[.int .u64 (n : Int), .int .i64 (root : Int)] w fun e w' => e = .returned (.int .u32 ((Ref.bitsOf n root : Nat) : Int)) ∧ Below w.heap.size w w' := by
  have HL : Hid (∀ k, Ref.bitsTo n root k < 18446744073709551616) := bitsTo_lt n root
  have HE : Hid (Ref.bitsOf n root = Ref.bitsTo n root 37 % 4294967296) := rfl
  have HS : Hid (∀ k, Ref.bitsTo n root (k + 1) = if Ref.ab (Ref.cubed root (Ref.dg ((Ref.bitsTo n root k + Ref.addAt k) % 18446744073709551616))) n (Ref.nts root) (Ref.cubed root (Ref.dg ((Ref.bitsTo n root k + Ref.addAt k) % 18446744073709551616))).length then Ref.bitsTo n root k else (Ref.bitsTo n root k + Ref.addAt k) % 18446744073709551616) := fun k => rfl
  have H0 : Hid (Ref.bitsTo n root 0 = 0) := rfl
  generalize Ref.bitsTo n root = f at *
  go_enter Tryz.func155, Tryz.ntmps155
  go_wp2_with fail
  go_loopw [5, 6] (fun vx va wr => ∃ k : Nat, k ≤ 37 ∧ va = .int .u64 ((Ref.addAt k : Nat) : Int) ∧ vx = .int .u64 ((f k : Nat) : Int) ∧ Below w.heap.size w wr) (fun _ va _ => (intOf va).toNat)
  case atStart => exact ⟨0, by omega, rfl, by rw [H0.out]; rfl, Below.refl _ _⟩
  case round =>
    obtain ⟨k, hk, rfl, rfl, b1⟩ := hrel
    by_cases hlt : k < 37
    · have hx := HL.out k
      have hs := HS.out k
      have ha := addAt_pos ⟨k, hlt⟩
      have ha2 := addAt_le k
      have hs2 := addAt_succ k
      simp only at ha
      generalize f k = x at *
      generalize Ref.addAt k = d at *
      have q0 : decide ((0 : Int) < (d : Int)) = true := by simp; omega
      have hD : (x + d) % 18446744073709551616 < 18446744073709551616 := Nat.mod_lt _ (by decide)
      have hw : IntKind.u64.wrap ((x : Int) + (d : Int)) = (((x + d) % 18446744073709551616 : Nat) : Int) := by rw [← Int.natCast_add, wrap_u64_nat]
      generalize (x + d) % 18446744073709551616 = y at *
      have hs' : Hid _ := hs
      have hs2' : Hid _ := hs2
      clear hs hs2
      go_wp2_with fail
      refine (digits_any y hD _).mono ?_
      rintro e w2 ⟨v2, rfl, l2, b2⟩
      have B2 := belowCall b1 b2
      clear b1 b2
      go_wp2_with fail
      refine (times_any (Ref.dg y) (Ref.dg y) (by rw [Ref.dg_length]; decide) (by rw [Ref.dg_length]; decide) _ _ _ l2 l2).mono ?_
      rintro e w3 ⟨v3, rfl, l3, b3⟩
      have l4 := l2.below b3
      have B3 := belowCall B2 b3
      clear B2 b3 l2
      by_cases r3 : root = 3
      · have r0 : ((root : Int) == 3) = true := by rw [r3]; rfl
        have hs'' := hs'.out
        rw [show Ref.cubed root (Ref.dg y) = Ref.tms (Ref.tms (Ref.dg y) (Ref.dg y)) (Ref.dg y) by unfold Ref.cubed; rw [if_pos r3], show Ref.nts root = 6 by unfold Ref.nts; rw [if_pos r3]] at hs''
        clear hs' r3
        go_wp2_with fail
        refine (times_any (Ref.tms (Ref.dg y) (Ref.dg y)) (Ref.dg y) (by rw [Ref.tms_length, Ref.dg_length]; decide) (by rw [Ref.dg_length]; decide) _ _ _ l3 l4).mono ?_
        rintro e w4 ⟨v4, rfl, l5, b4⟩
        have B4 := belowCall B3 b4
        clear B3 b4 l3 l4
        go_wp2_with fail
        refine (above_any (Ref.tms (Ref.tms (Ref.dg y) (Ref.dg y)) (Ref.dg y)) n 6 (by rw [Ref.tms_length, Ref.tms_length, Ref.dg_length]; decide) hn (by decide) _ _ l5).mono ?_
        rintro e w5 ⟨rfl, b5⟩
        have B5 := belowCall B4 b5
        clear B4 b5 l5
        cases hz : Ref.ab (Ref.tms (Ref.tms (Ref.dg y) (Ref.dg y)) (Ref.dg y)) n 6 (Ref.tms (Ref.tms (Ref.dg y) (Ref.dg y)) (Ref.dg y)).length
        · rw [hz] at hs''
          have hs3 : Hid _ := hs''
          clear hs'' hz
          go_wp2_with fail
          exact ⟨⟨k + 1, by omega, by rw [hs2'.out]; simp, by rw [hs3.out]; simp, B5⟩, by simp [intOf]; omega⟩
        · rw [hz] at hs''
          have hs3 : Hid _ := hs''
          clear hs'' hz
          go_wp2_with fail
          exact ⟨⟨k + 1, by omega, by rw [hs2'.out]; simp, by rw [hs3.out]; simp, B5⟩, by simp [intOf]; omega⟩
      · have r0 : ((root : Int) == 3) = false := by rw [beq_eq_false_iff_ne]; omega
        have hs'' := hs'.out
        rw [show Ref.cubed root (Ref.dg y) = Ref.tms (Ref.dg y) (Ref.dg y) by unfold Ref.cubed; rw [if_neg r3], show Ref.nts root = 4 by unfold Ref.nts; rw [if_neg r3]] at hs''
        clear hs' r3
        go_wp2_with fail
        refine (above_any (Ref.tms (Ref.dg y) (Ref.dg y)) n 4 (by rw [Ref.tms_length, Ref.dg_length]; decide) hn (by decide) _ _ l3).mono ?_
        rintro e w5 ⟨rfl, b5⟩
        have B5 := belowCall B3 b5
        clear B3 b5 l3 l4
        cases hz : Ref.ab (Ref.tms (Ref.dg y) (Ref.dg y)) n 4 (Ref.tms (Ref.dg y) (Ref.dg y)).length
        · rw [hz] at hs''
          have hs3 : Hid _ := hs''
          clear hs'' hz
          go_wp2_with fail
          exact ⟨⟨k + 1, by omega, by rw [hs2'.out]; simp, by rw [hs3.out]; simp, B5⟩, by simp [intOf]; omega⟩
        · rw [hz] at hs''
          have hs3 : Hid _ := hs''
          clear hs'' hz
          go_wp2_with fail
          exact ⟨⟨k + 1, by omega, by rw [hs2'.out]; simp, by rw [hs3.out]; simp, B5⟩, by simp [intOf]; omega⟩
    · obtain rfl : k = 37 := by omega
      have hx := HL.out 37
      rw [addAt_end]
      generalize f 37 = x at *
      go_wp2_with fail
      go_ret
      exact ⟨by rw [HE.out]; exact ret_int (by omega), b1⟩
end Go.Proofs.YtmpgfpmkmgebdaaGreatDoor.F
/- The contract of the document's Roots. -/
namespace Go.Proofs.YtmpgfpmkmgebdaaGreatDoor.F
open Go.RowKit
/-- a list that can be read: where its cells lie, and that they are these -/
def Reads (w : World) (v : Value) (xs : List Value) : Prop := ∃ g o cap, v = .slice (some ⟨g, o, none⟩) xs.length cap ∧ xs.length ≤ cap ∧ g < w.heap.size ∧ ∀ j, j < xs.length → w.cell? ⟨g, o + j, none⟩ = xs[j]?
theorem Reads.below {w w' : World} {v : Value} {xs : List Value} (h : Reads w v xs) (hb : Below w.heap.size w w') : Reads w' v xs := by
  obtain ⟨g, o, cap, h1, h2, h3, h4⟩ := h
  refine ⟨g, o, cap, h1, h2, Nat.lt_of_lt_of_le h3 hb.size, fun j hj => ?_⟩
  rw [← h4 j hj]
  unfold World.cell?
  rw [hb.block g h3]
theorem Owns.reads {e : TypeId} {base : Nat} {v : Value} {xs : List Value} {w : World} (h : Owns e base v xs w) (hp : 0 < xs.length) : Reads w v xs := by
  obtain ⟨g, cap, rfl, h2, _, _, h5, _⟩ := h.form hp
  exact ⟨g, 0, cap, rfl, h2, h5, fun j hj => by rw [Nat.zero_add]; exact h.cell j hj⟩
theorem Owns.len {e : TypeId} {base : Nat} {v : Value} {xs : List Value} {w : World} (h : Owns e base v xs w) : ∃ sp cap, v = .slice sp xs.length cap := by
  obtain ⟨h1, h2⟩ := h
  rcases h2 with ⟨rfl, h0⟩ | ⟨g, cap, cur, hv, _⟩
  · exact ⟨none, 0, by rw [h0]⟩
  · exact ⟨_, cap, hv⟩
theorem U32s_app1 (l : List Nat) (a : Nat) (z : Int) (hz : z = (a : Int)) : (U32s l).toList ++ #[Value.int .u32 z].toList = (U32s (l ++ [a])).toList := by subst hz; simp [U32s]
theorem take_app (l : List Nat) (c : Nat) (h : c < l.length) : l.take c ++ [l.getD c 0] = l.take (c + 1) := by
  rw [List.take_succ_eq_append_getElem h, List.getD_eq_getElem?_getD, List.getElem?_eq_getElem h]; rfl
theorem apart_ne {v2 v3 : Value} (hap : ∀ k, v2.ownBlock = some k → v3.ownBlock ≠ some k) : v2.ownBlock = none ∨ v2.ownBlock ≠ v3.ownBlock := by
  cases h : v2.ownBlock with
  | none => exact .inl rfl
  | some k => exact .inr (fun e => hap k h e.symm)
theorem apart_flip {v2 v3 : Value} (hap : ∀ k, v2.ownBlock = some k → v3.ownBlock ≠ some k) : ∀ k, v3.ownBlock = some k → v2.ownBlock ≠ some k := fun k h e => hap k e h
theorem apart_new {e : TypeId} {base : Nat} {xs : List Value} {W : World} {v2 v3 : Value} {g n cap N : Nat} (_ : Owns e base (.slice (some ⟨g, 0, none⟩) n cap) xs W) (hap : ∀ k, v2.ownBlock = some k → v3.ownBlock ≠ some k) (hor : v3.ownBlock = some g ∨ g = N) (hlt : ∀ k, v2.ownBlock = some k → k < N) : ∀ k, v2.ownBlock = some k → (Value.slice (some ⟨g, 0, none⟩) n cap).ownBlock ≠ some k := by
  intro k hk e
  have e' : g = k := by simpa [Value.ownBlock] using e
  subst e'
  rcases hor with h | h
  · exact hap g hk h
  · have := hlt g hk; omega
theorem lp_stop (m f d : Nat) (t : Bool) (h : ¬ (d * d ≤ m ∧ t = true)) : Ref.lp m f d t = t := by
  cases f with
  | zero => rfl
  | succ f => rw [Ref.lp, if_neg h]
theorem len_take (l : List Nat) (c : Nat) : (U32s (l.take c)).toList.length = min c l.length := by simp [U32s]
set_option maxRecDepth 20000 in
set_option maxHeartbeats 2000000 in
theorem roots_any (w : World) :
    Calls Tryz.prog 139 #[] w fun e w' => ∃ v2 v3, e = .returned (.tuple #[v2, v3]) ∧ Reads w' v2 (U32s Ref.initL).toList ∧ Reads w' v3 (U32s Sha.cube).toList ∧ Below w.heap.size w w' := by
  go_enter Tryz.func139, Tryz.ntmps139
  go_wp2_with fail
  go_loopw [2, 3, 4] (fun v2 v3 v4 wr => ∃ (m : Nat), 2 ≤ m ∧ m ≤ 312 ∧ v4 = .int .u64 (m : Int) ∧ Owns 193 w.heap.size v2 (U32s (Ref.initL.take (Ref.cnt m))).toList wr ∧ Owns 193 w.heap.size v3 (U32s (Sha.cube.take (Ref.cnt m))).toList wr ∧ (∀ k, v2.ownBlock = some k → v3.ownBlock ≠ some k) ∧ Below w.heap.size w wr) (fun _ _ v4 _ => 400 - (intOf v4).toNat)
  case atStart => exact ⟨2, by omega, by omega, rfl, by rw [Ref.cnt_two]; exact Owns.nil _ _ _, by rw [Ref.cnt_two]; exact Owns.nil _ _ _, (fun k hk => by cases hk), Below.refl _ _⟩
  case round =>
    obtain ⟨m, hm2, hm, rfl, o2, o3, hap, b1⟩ := hrel
    obtain ⟨sp2, c2, e2⟩ := o2.len
    obtain ⟨sp3, c3, e3⟩ := o3.len
    rw [len_take] at e2 e3
    rw [show Ref.initL.length = 8 from rfl] at e2
    rw [show Sha.cube.length = 64 from rfl] at e3
    by_cases hlt : m < 312
    · have hc := Ref.cnt_low ⟨m, hlt⟩
      simp only at hc
      rw [Nat.min_eq_left (by omega)] at e3
      subst e2 e3
      have hci : (Ref.cnt m : Int) < 64 := by omega
      have HF : Hid _ := Ref.cnt_facts ⟨m, hlt⟩
      generalize hcn : Ref.cnt m = c at *
      go_wp2_with fail
      go_loopw [5, 6] (fun vi vd wr' => ∃ (d f : Nat) (t : Bool), 2 ≤ d ∧ d + f = 42 ∧ vd = .int .u64 (d : Int) ∧ vi = .bool t ∧ Ref.lp m f d t = Ref.isP m ∧ wr' = wr) (fun _ vd _ => 42 - (intOf vd).toNat)
      case atStart => exact ⟨2, 40, true, by omega, by omega, rfl, rfl, rfl, rfl⟩
      case round =>
        obtain ⟨d, f, t, hd2, hdf, rfl, rfl, hlp, rfl⟩ := hrel
        have hdd0 := Nat.mul_le_mul (show d ≤ 42 by omega) (show d ≤ 42 by omega)
        have hdd : IntKind.u64.wrap ((d : Int) * (d : Int)) = ((d * d : Nat) : Int) := by rw [← Int.natCast_mul, wrap_u64_nat, Nat.mod_eq_of_lt (by omega)]
        clear hdd0
        by_cases hg : d * d ≤ m ∧ t = true
        · obtain ⟨hg1, rfl⟩ := hg
          have hd40 : d ≤ 17 := by
            rcases Nat.lt_or_ge 17 d with h | h
            · have := Nat.mul_le_mul (show 18 ≤ d by omega) (show 18 ≤ d by omega); omega
            · exact h
          obtain ⟨f', rfl⟩ : ∃ f', f = f' + 1 := ⟨f - 1, by omega⟩
          rw [Ref.lp, if_pos ⟨hg1, rfl⟩] at hlp
          have Hlp : Hid _ := hlp
          have hd0 : (d : Int) ≠ 0 := by omega
          have q1 : ((m : Int) % (d : Int) != 0) = decide (m % d ≠ 0) := by
            rw [← Int.natCast_emod]
            by_cases h : m % d = 0
            · rw [h]; simp
            · rw [decide_eq_true h, bne_iff_ne]; omega
          clear hlp hap o2 o3 HF hcn
          generalize decide (m % d ≠ 0) = t at *
          generalize hq : d * d = dd at *
          clear hq
          go_wp2_with fail
          exact ⟨⟨d + 1, f', t, by omega, by omega, rfl, rfl, Hlp.out, trivial⟩, by simp [intOf]; omega⟩
        · have ht := lp_stop m f d t hg
          rw [hlp] at ht
          have hF := HF.out
          rw [ht] at hF
          clear hlp HF
          cases t
          · have hc1 : Hid (Ref.cnt (m + 1) = c) := hF.2 rfl
            clear hF ht hcn
            have HO2 : Hid _ := o2
            have HO3 : Hid _ := o3
            have HAP : Hid _ := hap
            clear o2 o3 hap
            by_cases hg1 : d * d ≤ m
            · generalize hq : d * d = dd at *
              clear hq
              go_wp2_with fail
              go_roundw
              case rel => exact ⟨m + 1, by omega, by omega, by go_num, by rw [hc1.out]; exact HO2.out, by rw [hc1.out]; exact HO3.out, HAP.out, b1⟩
              case measure => simp [intOf]; omega
            · generalize hq : d * d = dd at *
              clear hq
              go_wp2_with fail
              go_roundw
              case rel => exact ⟨m + 1, by omega, by omega, by go_num, by rw [hc1.out]; exact HO2.out, by rw [hc1.out]; exact HO3.out, HAP.out, b1⟩
              case measure => simp [intOf]; omega
          · obtain ⟨hpr, hc1, _⟩ := hF.1 rfl hm2
            have hc1 : Hid (Ref.cnt (m + 1) = c + 1) := hc1
            have hg1 : ¬ d * d ≤ m := fun h => hg ⟨h, rfl⟩
            have hcu : Hid (Sha.cube.take c ++ [Ref.bitsOf m 3] = Sha.cube.take (c + 1)) := by
              unfold Hid; rw [← take_app Sha.cube c hc, ← Ref.cu_all c hc, hpr]
            have hl3 : Hid ((U32s (Sha.cube.take c)).toList.length + 1 ≤ 1000000000000) := by unfold Hid; rw [len_take]; omega
            have hl2 : Hid ((U32s (Ref.initL.take c)).toList.length + 1 ≤ 1000000000000) := by unfold Hid; rw [len_take]; omega
            clear hF ht hg hcn
            generalize hq : d * d = dd at *
            clear hq
            by_cases h8 : c < 8
            · have hsq : Hid (Ref.initL.take c ++ [Ref.bitsOf m 2] = Ref.initL.take (c + 1)) := by
                unfold Hid; rw [← take_app Ref.initL c h8, ← Ref.sq_all c h8, hpr]
              have hmin : min c 8 = c := by omega
              clear hpr
              rw [hmin] at o2 hap ⊢
              have q8 : (c : Int) < 8 := by omega
              go_wp2_with fail
              refine (bitsOf_any m 2 (by omega) _).mono ?_
              rintro e w3 ⟨rfl, b3⟩
              have P2 := o2.below b3
              have P3 := o3.below b3
              have B3 := belowCall b1 b3
              go_wp2_with (refine wpList_app el40 rfl (.tmp 31) (.tmp 34) rfl w.heap.size _ _ rfl (by exact P2.alloc _) _ _ #[_] rfl (by exact Has.new _ _ _ _ rfl) (by simp [Value.oneCell']) (by simp) hl2.out (Nat.le_trans B3.size (by simp)) ?_; intro g2 cap2 w4 ho2 hg2 hor2 hb4)
              have P3' := (P3.alloc _).kept hg2 (apart_ne (apart_flip hap))
              have AP2 := apart_flip (apart_new ho2 (apart_flip hap) hor2 (fun k hk => ((P3.alloc _).base_le k hk).2))
              have B4 := (belowAlloc B3 _).trans hb4
              rw [U32s_app1 _ _ _ rfl, hsq.out] at ho2
              clear P2 P3 o2 o3 hap b1 b3 B3 hb4 hor2 hg2
              go_wp2_with fail
              refine (bitsOf_any m 3 (by omega) _).mono ?_
              rintro e w5 ⟨rfl, b5⟩
              have O3 := P3'.below b5
              have O2 := ho2.below b5
              have B5 := belowCall B4 b5
              go_wp2_with (refine wpList_app el40 rfl (.tmp 36) (.tmp 39) rfl w.heap.size _ _ rfl (by exact O3.alloc _) _ _ #[_] rfl (by exact Has.new _ _ _ _ rfl) (by simp [Value.oneCell']) (by simp) hl3.out (Nat.le_trans B5.size (by simp)) ?_; intro g cap w6 ho hg hor hb6)
              have O2' := (O2.alloc _).kept hg (apart_ne AP2)
              have AP := apart_new ho AP2 hor (fun k hk => ((O2.alloc _).base_le k hk).2)
              have B6 := (belowAlloc B5 _).trans hb6
              rw [U32s_app1 _ _ _ rfl, hcu.out] at ho
              go_roundw
              case rel => exact ⟨m + 1, by omega, by omega, by go_num, by rw [hc1.out]; exact O2', by rw [hc1.out]; exact ho, AP, B6⟩
              case measure => simp [intOf]; omega
            · have hmin : min c 8 = 8 := by omega
              have hsame : Ref.initL.take c = Ref.initL.take (c + 1) := by
                rw [List.take_of_length_le (show Ref.initL.length ≤ c by show 8 ≤ c; omega), List.take_of_length_le (show Ref.initL.length ≤ c + 1 by show 8 ≤ c + 1; omega)]
              rw [hsame] at o2
              rw [hmin] at o2 hap ⊢
              clear hpr hsame
              go_wp2_with fail
              refine (bitsOf_any m 3 (by omega) _).mono ?_
              rintro e w5 ⟨rfl, b5⟩
              have O3 := o3.below b5
              have O2 := o2.below b5
              have B5 := belowCall b1 b5
              go_wp2_with (refine wpList_app el40 rfl (.tmp 36) (.tmp 39) rfl w.heap.size _ _ rfl (by exact O3.alloc _) _ _ #[_] rfl (by exact Has.new _ _ _ _ rfl) (by simp [Value.oneCell']) (by simp) hl3.out (Nat.le_trans B5.size (by simp)) ?_; intro g cap w6 ho hg hor hb6)
              have O2' := (O2.alloc _).kept hg (apart_ne hap)
              have AP := apart_new ho hap hor (fun k hk => ((O2.alloc _).base_le k hk).2)
              have B6 := (belowAlloc B5 _).trans hb6
              rw [U32s_app1 _ _ _ rfl, hcu.out] at ho
              go_roundw
              case rel => exact ⟨m + 1, by omega, by omega, by go_num, by rw [hc1.out]; exact O2', by rw [hc1.out]; exact ho, AP, B6⟩
              case measure => simp [intOf]; omega
    · obtain rfl : m = 312 := by omega
      have hce := Ref.cnt_end
      rw [hce] at o2 o3 e2 e3
      have r2 := o2.reads (by rw [len_take]; decide)
      have r3 := o3.reads (by rw [len_take]; decide)
      rw [show Ref.initL.take 64 = Ref.initL from rfl] at r2
      rw [show Sha.cube.take 64 = Sha.cube from rfl] at r3
      have R2 : Hid _ := r2
      have R3 : Hid _ := r3
      subst e2 e3
      clear r2 r3 o2 o3 hap hce
      go_wp2_with fail
      go_ret2
      exact ⟨_, _, rfl, R2.out, R3.out, b1⟩
end Go.Proofs.YtmpgfpmkmgebdaaGreatDoor.F
/- Lists of bytes that a call made out of a string: what they hold, whatever mark their row bears behind its end; the law of append. -/
namespace Go.Proofs.YtmpgfpmkmgebdaaGreatDoor.F
open Go.RowKit
/-- the list v, made by the call itself, holds these cells; no cell of its row is frozen -/
def OwnsG (e : TypeId) (base : Nat) (v : Value) (xs : List Value) (w : World) : Prop :=
  (v = .slice none 0 0 ∧ xs = []) ∨ ∃ g cap cur fz, v = .slice (some ⟨g, 0, none⟩) xs.length cap ∧ base ≤ g ∧ w.heap[g]? = some (.cells cur e fz) ∧ (∀ j, j < cap → (decide (fz.1 ≤ j) && decide (j < fz.2)) = false) ∧ xs.length ≤ cap ∧ cap ≤ maxLen ∧ cur.size = cap ∧ cur.toList.take xs.length = xs
theorem OwnsG.of {e : TypeId} {base : Nat} {v : Value} {xs : List Value} {w : World} (h : Owns e base v xs w) : OwnsG e base v xs w := by
  obtain ⟨h1, h2⟩ := h
  rcases h2 with ⟨h2, h3⟩ | ⟨g, cap, cur, hv, hg, hh, h3, h4, h5, h6⟩
  · exact .inl ⟨h2, List.eq_nil_of_length_eq_zero h3⟩
  · exact .inr ⟨g, cap, cur, (0, 0), hv, hg, hh, fun j _ => by simp, h3, h4, by simpa using h5, by simpa using h6⟩
theorem OwnsG.below {e : TypeId} {base : Nat} {v : Value} {xs : List Value} {w w' : World} (h : OwnsG e base v xs w) (hb : Below w.heap.size w w') : OwnsG e base v xs w' := by
  rcases h with h | ⟨g, cap, cur, fz, hv, hg, hh, h3⟩
  · exact .inl h
  · exact .inr ⟨g, cap, cur, fz, hv, hg, by rw [hb.block g (Array.getElem?_eq_some_iff.1 hh).1]; exact hh, h3⟩
theorem OwnsG.alloc {e : TypeId} {base : Nat} {v : Value} {xs : List Value} {w : World} (h : OwnsG e base v xs w) (o : Obj) : OwnsG e base v xs (w.alloc o) :=
  h.below ((Below.refl _ _).alloc (Nat.le_refl _) _)
theorem OwnsG.cell {e : TypeId} {base g cap n : Nat} {xs : List Value} {w : World} (h : OwnsG e base (.slice (some ⟨g, 0, none⟩) n cap) xs w) (j : Nat) (hj : j < xs.length) : w.cell? ⟨g, j, none⟩ = xs[j]? := by
  rcases h with ⟨h0, _⟩ | ⟨g', cap', cur, fz, hv, hg, hh, hf, h3, h4, h5, h6⟩
  · simp at h0
  · simp only [Value.slice.injEq, Option.some.injEq, Addr.mk.injEq] at hv
    obtain ⟨⟨rfl, _⟩, _, rfl⟩ := hv
    have hc : w.cell? ⟨g, j, none⟩ = cur[j]? := by simp [World.cell?, hh]
    rw [hc]
    have h7 : xs[j]? = (cur.toList.take xs.length)[j]? := by rw [h6]
    rw [h7, List.getElem?_take, if_pos hj]; simp
theorem OwnsG.form {e : TypeId} {base : Nat} {v : Value} {xs : List Value} {w : World} (h : OwnsG e base v xs w) (hp : 0 < xs.length) : ∃ g cap, v = .slice (some ⟨g, 0, none⟩) xs.length cap ∧ xs.length ≤ cap ∧ cap ≤ maxLen ∧ base ≤ g ∧ g < w.heap.size := by
  rcases h with ⟨_, h0⟩ | ⟨g, cap, cur, fz, hv, hg, hh, hf, h3, h4, _⟩
  · subst h0; simp at hp
  · exact ⟨g, cap, hv, h3, h4, hg, (Array.getElem?_eq_some_iff.1 hh).1⟩
theorem heap_setCells (b : Nat) (t : TypeId) (fz : Nat × Nat) : ∀ (vs : List Value) (o : Nat) (cs : List Value) (w : World), w.heap[b]? = some (.cells cs.toArray t fz) → o + vs.length ≤ cs.length → (w.setCells b o vs).heap[b]? = some (.cells (cs.take o ++ vs ++ cs.drop (o + vs.length)).toArray t fz)
  | [], o, cs, w, h, _ => by simpa [World.setCells] using h
  | v :: r, o, cs, w, h, hl => by
    rw [World.setCells]
    have h1 : (w.setCell ⟨b, o, none⟩ v).heap[b]? = some (.cells (cs.set o v).toArray t fz) := by
      simp [World.setCell, Array.getElem?_modify, h]
    have h2 := heap_setCells b t fz r (o + 1) (cs.set o v) _ h1 (by simp at hl ⊢; omega)
    have e : (cs.set o v).take (o + 1) ++ r ++ (cs.set o v).drop (o + 1 + r.length) = cs.take o ++ (v :: r) ++ cs.drop (o + (v :: r).length) := by
      have ho : o < cs.length := by simp at hl; omega
      have e1 : (cs.set o v).take (o + 1) = cs.take o ++ [v] := by
        rw [List.take_succ_eq_append_getElem (by simpa using ho), List.take_set_of_le (Nat.le_refl _)]
        simp
      have e2 : (cs.set o v).drop (o + 1 + r.length) = cs.drop (o + (v :: r).length) := by
        rw [List.drop_set_of_lt (by omega)]; congr 1; simp; omega
      rw [e1, e2]; simp
    rw [e] at h2; exact h2
theorem heap_setCells_other (b k : Nat) (hk : k ≠ b) : ∀ (vs : List Value) (o : Nat) (w : World), (w.setCells b o vs).heap[k]? = w.heap[k]?
  | [], _, _ => rfl
  | v :: r, o, w => by
    rw [World.setCells, heap_setCells_other b k hk r (o + 1), Below.heap_setCell _ _ _ _ hk]
theorem setCells_size (b : Nat) : ∀ (vs : List Value) (o : Nat) (w : World), (w.setCells b o vs).heap.size = w.heap.size ∧ (w.setCells b o vs).os = w.os ∧ (w.setCells b o vs).tape = w.tape ∧ (w.setCells b o vs).output = w.output
  | [], _, _ => ⟨rfl, rfl, rfl, rfl⟩
  | v :: r, o, w => by
    rw [World.setCells]
    obtain ⟨a, b', c, d⟩ := setCells_size b r (o + 1) (w.setCell ⟨b, o, none⟩ v)
    exact ⟨a.trans (World.size_setCell _ _ _), b', c, d⟩
/-- append onto such a list -/
theorem run_append_ownG {t e : TypeId} {z : Value} {bytes : Nat} (E : Elem t e z bytes) (w : World) (ty : TypeId) (base : Nat) (v : Value) (xs : List Value) (hown : OwnsG e base v xs w)
    (b c : Nat) (news : Array Value) (hnews : Has w b news e) (h1 : ∀ u ∈ news.toList, u.oneCell' = true) (h63 : xs.length + news.size ≤ 1000000000000) (hbase : base ≤ w.heap.size) :
    ∃ v' w', (Builtin.append_ #[t, t] ty #[v, .slice (some ⟨b, 0, none⟩) news.size c]).run Tryz.prog w = .ok v' w' ∧ OwnsG e base v' (xs ++ news.toList) w' ∧ Below base w w' := by
  obtain ⟨i, hi, hz0, hz1, hz2⟩ := E.info
  have hbd := E.hb
  have hbytes : (xs.length + news.size) * bytes ≤ 140737488355328 := Nat.le_trans (Nat.mul_le_mul h63 hbd) (by decide)
  have hnb := World.news_of_block hnews
  rcases hown with ⟨rfl, rfl⟩ | ⟨g, cap, cur, fz, rfl, hbg, hg, hfz, hnc, hcm, hcs, htake⟩
  · obtain ⟨v', w', r1, r2, r3, _⟩ := run_append_own (P := Tryz.prog) w base t ty e i z 1 bytes E.ht hi hz0 hz1 hz2 E.hz (by decide) (.slice none 0 0) 0 [] (World.ownsRow_nil w base e 1) ⟨b, 0, none⟩ news.size c news.toList (by simp) hnb h1 (by unfold maxLen; simp at h63; omega) (by simpa using hbytes) hbase
    refine ⟨v', w', r1, OwnsG.of ?_, (Below.refl base w).grown r3 hbase (fun k hk => by simp [Value.ownBlock] at hk)⟩
    show w'.ownsRow base e 1 v' ([] ++ news.toList).length ([] ++ news.toList)
    simpa using r2
  · by_cases hroom : xs.length + news.size ≤ cap
    · have hf := run_firstCells_some (P := Tryz.prog) w i.size news.size ⟨b, 0, none⟩ news.size c news.toList (by simp [hz1]) hnb
      have hst := run_storeCells_cells (P := Tryz.prog) g xs.length news.toList 0 w
        (fun j hj => by have hj' : j < news.size := by simpa using hj
                        simp [World.cell?, hg]; omega)
        (fun j hj => by have hj' : j < news.size := by simpa using hj
                        have := hfz (xs.length + 0 + j) (by omega)
                        simpa [World.frozen?, hg] using this) h1
      simp only [Nat.add_zero] at hst
      rw [hz1] at hf
      refine ⟨.slice (some ⟨g, 0, none⟩) (xs.length + news.size) cap, w.setCells g xs.length news.toList, ?_, ?_, ?_⟩
      · simp [Builtin.append_, run_underlying E.ht, sizeOf, typeInfo, hi, Builtin.lenOf, hroom, hf, Addr.add_lit, hz1, hst]
      · have hh := heap_setCells g e fz news.toList xs.length cur.toList w (by simpa using hg) (by simp [hcs]; omega)
        refine .inr ⟨g, cap, _, fz, by simp, hbg, hh, hfz, by simpa using hroom, hcm, by simp [hcs]; omega, ?_⟩
        rw [htake]
        exact List.take_left
      · obtain ⟨a1, a2, a3, a4⟩ := setCells_size g news.toList xs.length w
        exact ⟨a2, a3, a4, Nat.le_of_eq a1.symm, fun k hk => heap_setCells_other g k (by omega) _ _ _⟩
    · have holds : ∀ j u, xs[j]? = some u → w.cell? ((⟨g, 0, none⟩ : Addr).add j) = some u := fun j u hu => by
        have hj : j < xs.length := (List.getElem?_eq_some_iff.1 hu).1
        have hc := OwnsG.cell (e := e) (base := base) (n := xs.length) (cap := cap) (.inr ⟨g, cap, cur, fz, rfl, hbg, hg, hfz, hnc, hcm, hcs, htake⟩) j hj
        rw [Addr.add_mid, Nat.zero_add, hc]; exact hu
      have hr := run_append_grow (P := Tryz.prog) w t ty e i z E.ht hi hz0 ⟨g, 0, none⟩ xs.length cap xs (by simp [hz1]) holds ⟨b, 0, none⟩ news.size c news.toList (by simp [hz1]) hnb (by omega) (by omega) (growslice_fits (by omega) (by rw [hz2]; exact hbytes))
      have hge := grownCap_ge w (xs.length + news.size) cap e
      have hcm2 : grownCap w (xs.length + news.size) cap e ≤ maxLen := grownCap_le_maxLen w (xs.length + news.size) cap e (by unfold maxLen; omega)
      refine ⟨_, _, hr, .inr ⟨w.heap.size, _, _, (0, 0), by simp, hbase, heap_alloc_new w.drew _, fun j _ => by simp, by simpa using hge, hcm2, ?_, ?_⟩, ⟨rfl, rfl, rfl, by simp, fun k hk => heap_alloc_old w.drew _ (show k < w.drew.heap.size by have : w.drew.heap.size = w.heap.size := rfl; omega)⟩⟩
      · simp [size_zeroCells, E.hz]; omega
      · simp only [Array.toList_append, List.append_assoc]
        rw [← List.append_assoc]
        exact List.take_left
end Go.Proofs.YtmpgfpmkmgebdaaGreatDoor.F
