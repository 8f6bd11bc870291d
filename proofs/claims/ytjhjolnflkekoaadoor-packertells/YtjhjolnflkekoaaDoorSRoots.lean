/- The contract of the document's Roots. -/
import Derived.Test.YtjhjolnflkekoaaDoorSBits
namespace Go.Proofs.YtjhjolnflkekoaaDoor.S
open Go.RowKit
/-- a list that can be read: where its cells lie, and that they are these -/
def Reads (w : World) (v : Value) (xs : List Value) : Prop := ∃ g o cap, v = .slice (some ⟨g, o, none⟩) xs.length cap ∧ xs.length ≤ cap ∧ g < w.heap.size ∧ ∀ j, j < xs.length → w.cell? ⟨g, o + j, none⟩ = xs[j]?
theorem Reads.below {w w' : World} {v : Value} {xs : List Value} (h : Reads w v xs) (hb : Below w.heap.size w w') : Reads w' v xs := by
  obtain ⟨g, o, cap, h1, h2, h3, h4⟩ := h
  refine ⟨g, o, cap, h1, h2, Nat.lt_of_lt_of_le h3 hb.size, fun j hj => ?_⟩
  rw [← h4 j hj]
  unfold World.cell?
  rw [hb.block g h3]
theorem Owns.reads {e : TypeId} {base : Nat} {v : Value} {xs : List Value} {w : World} (h : Owns e base v xs w) (hp : 0 < xs.length) : Reads w v xs := by
  obtain ⟨g, cap, rfl, h2, _, _, h5, _⟩ := h.form hp
  exact ⟨g, 0, cap, rfl, h2, h5, fun j hj => by rw [Nat.zero_add]; exact h.cell j hj⟩
theorem Owns.len {e : TypeId} {base : Nat} {v : Value} {xs : List Value} {w : World} (h : Owns e base v xs w) : ∃ sp cap, v = .slice sp xs.length cap := by
  obtain ⟨h1, h2⟩ := h
  rcases h2 with ⟨rfl, h0⟩ | ⟨g, cap, cur, hv, _⟩
  · exact ⟨none, 0, by rw [h0]⟩
  · exact ⟨_, cap, hv⟩
theorem U32s_app1 (l : List Nat) (a : Nat) (z : Int) (hz : z = (a : Int)) : (U32s l).toList ++ #[Value.int .u32 z].toList = (U32s (l ++ [a])).toList := by subst hz; simp [U32s]
theorem take_app (l : List Nat) (c : Nat) (h : c < l.length) : l.take c ++ [l.getD c 0] = l.take (c + 1) := by
  rw [List.take_succ_eq_append_getElem h, List.getD_eq_getElem?_getD, List.getElem?_eq_getElem h]; rfl
theorem apart_ne {v2 v3 : Value} (hap : ∀ k, v2.ownBlock = some k → v3.ownBlock ≠ some k) : v2.ownBlock = none ∨ v2.ownBlock ≠ v3.ownBlock := by
  cases h : v2.ownBlock with
  | none => exact .inl rfl
  | some k => exact .inr (fun e => hap k h e.symm)
theorem apart_flip {v2 v3 : Value} (hap : ∀ k, v2.ownBlock = some k → v3.ownBlock ≠ some k) : ∀ k, v3.ownBlock = some k → v2.ownBlock ≠ some k := fun k h e => hap k e h
theorem apart_new {e : TypeId} {base : Nat} {xs : List Value} {W : World} {v2 v3 : Value} {g n cap N : Nat} (_ : Owns e base (.slice (some ⟨g, 0, none⟩) n cap) xs W) (hap : ∀ k, v2.ownBlock = some k → v3.ownBlock ≠ some k) (hor : v3.ownBlock = some g ∨ g = N) (hlt : ∀ k, v2.ownBlock = some k → k < N) : ∀ k, v2.ownBlock = some k → (Value.slice (some ⟨g, 0, none⟩) n cap).ownBlock ≠ some k := by
  intro k hk e
  have e' : g = k := by simpa [Value.ownBlock] using e
  subst e'
  rcases hor with h | h
  · exact hap g hk h
  · have := hlt g hk; omega
theorem lp_stop (m f d : Nat) (t : Bool) (h : ¬ (d * d ≤ m ∧ t = true)) : Ref.lp m f d t = t := by
  cases f with
  | zero => rfl
  | succ f => rw [Ref.lp, if_neg h]
theorem len_take (l : List Nat) (c : Nat) : (U32s (l.take c)).toList.length = min c l.length := by simp [U32s]
set_option maxRecDepth 20000 in
set_option maxHeartbeats 2000000 in
theorem roots_any (w : World) :
    Calls Tryd.prog 52 #[] w fun e w' => ∃ v2 v3, e = .returned (.tuple #[v2, v3]) ∧ Reads w' v2 (U32s Ref.initL).toList ∧ Reads w' v3 (U32s Sha.cube).toList ∧ Below w.heap.size w w' := by
  go_enter Tryd.func52, Tryd.ntmps52
  go_wp2_with fail
  go_loopw [2, 3, 4] (fun v2 v3 v4 wr => ∃ (m : Nat), 2 ≤ m ∧ m ≤ 312 ∧ v4 = .int .u64 (m : Int) ∧ Owns 64 w.heap.size v2 (U32s (Ref.initL.take (Ref.cnt m))).toList wr ∧ Owns 64 w.heap.size v3 (U32s (Sha.cube.take (Ref.cnt m))).toList wr ∧ (∀ k, v2.ownBlock = some k → v3.ownBlock ≠ some k) ∧ Below w.heap.size w wr) (fun _ _ v4 _ => 400 - (intOf v4).toNat)
  case atStart => exact ⟨2, by omega, by omega, rfl, by rw [Ref.cnt_two]; exact Owns.nil _ _ _, by rw [Ref.cnt_two]; exact Owns.nil _ _ _, (fun k hk => by cases hk), Below.refl _ _⟩
  case round =>
    obtain ⟨m, hm2, hm, rfl, o2, o3, hap, b1⟩ := hrel
    obtain ⟨sp2, c2, e2⟩ := o2.len
    obtain ⟨sp3, c3, e3⟩ := o3.len
    rw [len_take] at e2 e3
    rw [show Ref.initL.length = 8 from rfl] at e2
    rw [show Sha.cube.length = 64 from rfl] at e3
    by_cases hlt : m < 312
    · have hc := Ref.cnt_low ⟨m, hlt⟩
      simp only at hc
      rw [Nat.min_eq_left (by omega)] at e3
      subst e2 e3
      have hci : (Ref.cnt m : Int) < 64 := by omega
      have HF : Hid _ := Ref.cnt_facts ⟨m, hlt⟩
      generalize hcn : Ref.cnt m = c at *
      go_wp2_with fail
      go_loopw [5, 6] (fun vi vd wr' => ∃ (d f : Nat) (t : Bool), 2 ≤ d ∧ d + f = 42 ∧ vd = .int .u64 (d : Int) ∧ vi = .bool t ∧ Ref.lp m f d t = Ref.isP m ∧ wr' = wr) (fun _ vd _ => 42 - (intOf vd).toNat)
      case atStart => exact ⟨2, 40, true, by omega, by omega, rfl, rfl, rfl, rfl⟩
      case round =>
        obtain ⟨d, f, t, hd2, hdf, rfl, rfl, hlp, rfl⟩ := hrel
        have hdd0 := Nat.mul_le_mul (show d ≤ 42 by omega) (show d ≤ 42 by omega)
        have hdd : IntKind.u64.wrap ((d : Int) * (d : Int)) = ((d * d : Nat) : Int) := by rw [← Int.natCast_mul, wrap_u64_nat, Nat.mod_eq_of_lt (by omega)]
        clear hdd0
        by_cases hg : d * d ≤ m ∧ t = true
        · obtain ⟨hg1, rfl⟩ := hg
          have hd40 : d ≤ 17 := by
            rcases Nat.lt_or_ge 17 d with h | h
            · have := Nat.mul_le_mul (show 18 ≤ d by omega) (show 18 ≤ d by omega); omega
            · exact h
          obtain ⟨f', rfl⟩ : ∃ f', f = f' + 1 := ⟨f - 1, by omega⟩
          rw [Ref.lp, if_pos ⟨hg1, rfl⟩] at hlp
          have Hlp : Hid _ := hlp
          have hd0 : (d : Int) ≠ 0 := by omega
          have q1 : ((m : Int) % (d : Int) != 0) = decide (m % d ≠ 0) := by
            rw [← Int.natCast_emod]
            by_cases h : m % d = 0
            · rw [h]; simp
            · rw [decide_eq_true h, bne_iff_ne]; omega
          clear hlp hap o2 o3 HF hcn
          generalize decide (m % d ≠ 0) = t at *
          generalize hq : d * d = dd at *
          clear hq
          go_wp2_with fail
          exact ⟨⟨d + 1, f', t, by omega, by omega, rfl, rfl, Hlp.out, trivial⟩, by simp [intOf]; omega⟩
        · have ht := lp_stop m f d t hg
          rw [hlp] at ht
          have hF := HF.out
          rw [ht] at hF
          clear hlp HF
          cases t
          · have hc1 : Hid (Ref.cnt (m + 1) = c) := hF.2 rfl
            clear hF ht hcn
            have HO2 : Hid _ := o2
            have HO3 : Hid _ := o3
            have HAP : Hid _ := hap
            clear o2 o3 hap
            by_cases hg1 : d * d ≤ m
            · generalize hq : d * d = dd at *
              clear hq
              go_wp2_with fail
              go_roundw
              case rel => exact ⟨m + 1, by omega, by omega, by go_num, by rw [hc1.out]; exact HO2.out, by rw [hc1.out]; exact HO3.out, HAP.out, b1⟩
              case measure => simp [intOf]; omega
            · generalize hq : d * d = dd at *
              clear hq
              go_wp2_with fail
              go_roundw
              case rel => exact ⟨m + 1, by omega, by omega, by go_num, by rw [hc1.out]; exact HO2.out, by rw [hc1.out]; exact HO3.out, HAP.out, b1⟩
              case measure => simp [intOf]; omega
          · obtain ⟨hpr, hc1, _⟩ := hF.1 rfl hm2
            have hc1 : Hid (Ref.cnt (m + 1) = c + 1) := hc1
            have hg1 : ¬ d * d ≤ m := fun h => hg ⟨h, rfl⟩
            have hcu : Hid (Sha.cube.take c ++ [Ref.bitsOf m 3] = Sha.cube.take (c + 1)) := by
              unfold Hid; rw [← take_app Sha.cube c hc, ← Ref.cu_all c hc, hpr]
            have hl3 : Hid ((U32s (Sha.cube.take c)).toList.length + 1 ≤ 1000000000000) := by unfold Hid; rw [len_take]; omega
            have hl2 : Hid ((U32s (Ref.initL.take c)).toList.length + 1 ≤ 1000000000000) := by unfold Hid; rw [len_take]; omega
            clear hF ht hg hcn
            generalize hq : d * d = dd at *
            clear hq
            by_cases h8 : c < 8
            · have hsq : Hid (Ref.initL.take c ++ [Ref.bitsOf m 2] = Ref.initL.take (c + 1)) := by
                unfold Hid; rw [← take_app Ref.initL c h8, ← Ref.sq_all c h8, hpr]
              have hmin : min c 8 = c := by omega
              clear hpr
              rw [hmin] at o2 hap ⊢
              have q8 : (c : Int) < 8 := by omega
              go_wp2_with fail
              refine (bitsOf_any m 2 (by omega) _).mono ?_
              rintro e w3 ⟨rfl, b3⟩
              have P2 := o2.below b3
              have P3 := o3.below b3
              have B3 := belowCall b1 b3
              go_wp2_with (refine wpList_app el40 rfl (.tmp 31) (.tmp 34) rfl w.heap.size _ _ rfl (by exact P2.alloc _) _ _ #[_] rfl (by exact Has.new _ _ _ _ rfl) (by simp [Value.oneCell']) (by simp) hl2.out (Nat.le_trans B3.size (by simp)) ?_; intro g2 cap2 w4 ho2 hg2 hor2 hb4)
              have P3' := (P3.alloc _).kept hg2 (apart_ne (apart_flip hap))
              have AP2 := apart_flip (apart_new ho2 (apart_flip hap) hor2 (fun k hk => ((P3.alloc _).base_le k hk).2))
              have B4 := (belowAlloc B3 _).trans hb4
              rw [U32s_app1 _ _ _ rfl, hsq.out] at ho2
              clear P2 P3 o2 o3 hap b1 b3 B3 hb4 hor2 hg2
              go_wp2_with fail
              refine (bitsOf_any m 3 (by omega) _).mono ?_
              rintro e w5 ⟨rfl, b5⟩
              have O3 := P3'.below b5
              have O2 := ho2.below b5
              have B5 := belowCall B4 b5
              go_wp2_with (refine wpList_app el40 rfl (.tmp 36) (.tmp 39) rfl w.heap.size _ _ rfl (by exact O3.alloc _) _ _ #[_] rfl (by exact Has.new _ _ _ _ rfl) (by simp [Value.oneCell']) (by simp) hl3.out (Nat.le_trans B5.size (by simp)) ?_; intro g cap w6 ho hg hor hb6)
              have O2' := (O2.alloc _).kept hg (apart_ne AP2)
              have AP := apart_new ho AP2 hor (fun k hk => ((O2.alloc _).base_le k hk).2)
              have B6 := (belowAlloc B5 _).trans hb6
              rw [U32s_app1 _ _ _ rfl, hcu.out] at ho
              go_roundw
              case rel => exact ⟨m + 1, by omega, by omega, by go_num, by rw [hc1.out]; exact O2', by rw [hc1.out]; exact ho, AP, B6⟩
              case measure => simp [intOf]; omega
            · have hmin : min c 8 = 8 := by omega
              have hsame : Ref.initL.take c = Ref.initL.take (c + 1) := by
                rw [List.take_of_length_le (show Ref.initL.length ≤ c by show 8 ≤ c; omega), List.take_of_length_le (show Ref.initL.length ≤ c + 1 by show 8 ≤ c + 1; omega)]
              rw [hsame] at o2
              rw [hmin] at o2 hap ⊢
              clear hpr hsame
              go_wp2_with fail
              refine (bitsOf_any m 3 (by omega) _).mono ?_
              rintro e w5 ⟨rfl, b5⟩
              have O3 := o3.below b5
              have O2 := o2.below b5
              have B5 := belowCall b1 b5
              go_wp2_with (refine wpList_app el40 rfl (.tmp 36) (.tmp 39) rfl w.heap.size _ _ rfl (by exact O3.alloc _) _ _ #[_] rfl (by exact Has.new _ _ _ _ rfl) (by simp [Value.oneCell']) (by simp) hl3.out (Nat.le_trans B5.size (by simp)) ?_; intro g cap w6 ho hg hor hb6)
              have O2' := (O2.alloc _).kept hg (apart_ne hap)
              have AP := apart_new ho hap hor (fun k hk => ((O2.alloc _).base_le k hk).2)
              have B6 := (belowAlloc B5 _).trans hb6
              rw [U32s_app1 _ _ _ rfl, hcu.out] at ho
              go_roundw
              case rel => exact ⟨m + 1, by omega, by omega, by go_num, by rw [hc1.out]; exact O2', by rw [hc1.out]; exact ho, AP, B6⟩
              case measure => simp [intOf]; omega
    · obtain rfl : m = 312 := by omega
      have hce := Ref.cnt_end
      rw [hce] at o2 o3 e2 e3
      have r2 := o2.reads (by rw [len_take]; decide)
      have r3 := o3.reads (by rw [len_take]; decide)
      rw [show Ref.initL.take 64 = Ref.initL from rfl] at r2
      rw [show Sha.cube.take 64 = Sha.cube from rfl] at r3
      have R2 : Hid _ := r2
      have R3 : Hid _ := r3
      subst e2 e3
      clear r2 r3 o2 o3 hap hce
      go_wp2_with fail
      go_ret2
      exact ⟨_, _, rfl, R2.out, R3.out, b1⟩
end Go.Proofs.YtjhjolnflkekoaaDoor.S
