/- The document's Unhex: its contract. -/
import Derived.Test.YtnhakbpalfcmfaaDoorRefHex
namespace Go.Proofs.YtnhakbpalfcmfaaDoor
open Go.RowKit
theorem U8s_app1 (l : List Nat) (a : Nat) (z : Int) (hz : z = (a : Int)) : (U8s l).toList ++ #[Value.int .u8 z].toList = (U8s (l ++ [a])).toList := by subst hz; simp [U8s]
theorem num_le (c : Nat) : Sha.num c ≤ 16 := by unfold Sha.num; split; omega; split <;> omega
set_option maxRecDepth 20000 in
set_option maxHeartbeats 1000000 in
theorem refUnhex_any (s : ByteArray) (hs : s.size ≤ 900000000000) (w : World) :
    Calls Tryd.prog 25 #[.string s] w fun e w' => ((Sha.isHex (bs s) ∧ e = .returned (.tuple #[.string (ofBs (Sha.unhex (bs s))), .int .i64 0])) ∨ (¬ Sha.isHex (bs s) ∧ e = .returned (.tuple #[.string ⟨#[]⟩, .int .i64 4]))) ∧ Below w.heap.size w w' := by
  by_cases hodd : s.size % 2 = 0
  · have d0 : ((s.size : Int) % 2 == 1) = false := by rw [beq_eq_false_iff_ne]; omega
    go_enter Tryd.func25, Tryd.ntmps25
    go_wp2_with fail
    go_loopw [4, 5] (fun vo v wr => ∃ k : Nat, 2 * k ≤ s.size ∧ v = .int .i64 (2 * (k : Int)) ∧ (∀ j, j < 2 * k → Sha.num ((bs s).getD j 0) < 16) ∧ Owns 5 w.heap.size vo (U8s (Sha.unhexTo (bs s) k)).toList wr ∧ Below w.heap.size w wr) (fun _ v _ => s.size - (intOf v).toNat)
    case atStart => exact ⟨0, by omega, rfl, fun j hj => by omega, Owns.nil _ _ _, Below.refl _ _⟩
    case round =>
      obtain ⟨k, hk, rfl, hall, h1, b1⟩ := hrel
      have Hall : Hid _ := hall
      clear hall
      by_cases hlt : 2 * k < s.size
      · have G0 : Hid ((bs s).getD (2 * k) 0 = s[2 * k].toNat) := bs_getD s _ (by omega)
        have G1 : Hid ((bs s).getD (2 * k + 1) 0 = s[2 * k + 1].toNat) := bs_getD s _ (by omega)
        have i0 : (0 : Int) ≤ 2 * (k : Int) := by omega
        have i1 : 2 * (k : Int) < (s.size : Int) := by omega
        have i2 : 2 * (k : Int) + 1 < (s.size : Int) := by omega
        have i3 : (0 : Int) ≤ 2 * (k : Int) + 1 := by omega
        have n0 := num_le s[2 * k].toNat
        have n1 := num_le s[2 * k + 1].toNat
        by_cases v0 : Sha.num s[2 * k].toNat < 16
        · by_cases v1 : Sha.num s[2 * k + 1].toNat < 16
          · have HU : Hid (Sha.unhexTo (bs s) (k + 1) = Sha.unhexTo (bs s) k ++ [Sha.num s[2 * k].toNat * 16 + Sha.num s[2 * k + 1].toNat]) := by
              unfold Hid; rw [Sha.unhexTo_succ, G0.out, G1.out]
            have HA : Hid (∀ j, j < 2 * (k + 1) → Sha.num ((bs s).getD j 0) < 16) := by
              intro j hj
              by_cases a : j < 2 * k
              · exact Hall.out j a
              · by_cases b : j = 2 * k
                · subst b; rw [G0.out]; exact v0
                · obtain rfl : j = 2 * k + 1 := by omega
                  rw [G1.out]; exact v1
            have hll : Hid ((U8s (Sha.unhexTo (bs s) k)).toList.length + 1 ≤ 1000000000000) := by
              unfold Hid; rw [Array.length_toList, U8s_size, Sha.unhexTo_length]; omega
            go_wp2_with fail
            refine (refNumber_any _ _).mono ?_
            rintro e w2 ⟨rfl, rfl⟩
            go_wp2_with fail
            refine (refNumber_any _ _).mono ?_
            rintro e w3 ⟨rfl, rfl⟩
            generalize Sha.num s[2 * k].toNat = p at *
            generalize Sha.num s[2 * k + 1].toNat = q at *
            go_wp2_with (refine wpList_app el5 rfl (.tmp 33) (.tmp 38) rfl w.heap.size u4 (U8s (Sha.unhexTo (bs s) k)).toList rfl (by exact h1.alloc _) _ _ #[_] rfl (by exact Has.new _ _ _ _ rfl) (by simp [Value.oneCell']) (by simp) hll.out (Nat.le_trans b1.size (by simp)) ?_; intro g cap w4 ho hg _ hb2)
            rw [U8s_app1 _ (p * 16 + q) _ (by omega), ← HU.out] at ho
            exact ⟨⟨k + 1, by omega, by go_num, HA.out, ho, (belowAlloc b1 _).trans hb2⟩, by simp [intOf]; omega⟩
          · have HN : Hid (¬ Sha.isHex (bs s)) := fun h => v1 (by rw [← G1.out]; exact h.2 _ (by rw [bs_length]; omega))
            have e1 : Sha.num s[2 * k + 1].toNat = 16 := by omega
            go_wp2_with fail
            refine (refNumber_any _ _).mono ?_
            rintro e w2 ⟨rfl, rfl⟩
            go_wp2_with fail
            refine (refNumber_any _ _).mono ?_
            rintro e w3 ⟨rfl, rfl⟩
            generalize Sha.num s[2 * k].toNat = p at *
            rw [e1]
            clear e1 v1
            go_wp2_with fail
            go_light
            go_ret2
            exact ⟨.inr ⟨HN.out, rfl⟩, b1⟩
        · have HN : Hid (¬ Sha.isHex (bs s)) := fun h => v0 (by rw [← G0.out]; exact h.2 _ (by rw [bs_length]; omega))
          have e0 : Sha.num s[2 * k].toNat = 16 := by omega
          go_wp2_with fail
          refine (refNumber_any _ _).mono ?_
          rintro e w2 ⟨rfl, rfl⟩
          rw [e0]
          clear e0 v0
          go_wp2_with fail
          refine (refNumber_any _ _).mono ?_
          rintro e w3 ⟨rfl, rfl⟩
          generalize Sha.num s[2 * k + 1].toNat = p at *
          go_wp2_with fail
          go_light
          go_ret2
          exact ⟨.inr ⟨HN.out, rfl⟩, b1⟩
      · have hke : 2 * k = s.size := by omega
        have HY : Hid (Sha.isHex (bs s)) := ⟨by rw [bs_length]; exact hodd, fun j hj => Hall.out j (by rw [bs_length] at hj; omega)⟩
        have HU : Hid (Sha.unhexTo (bs s) k = Sha.unhex (bs s)) := by unfold Hid Sha.unhex; rw [bs_length, ← hke]; congr 1; omega
        have hcv := conv_own h1
        have HK : Hid _ := hke
        clear hke
        go_wp2_with fail
        go_ret2
        exact ⟨.inl ⟨HY.out, by rw [← HU.out]; rfl⟩, b1⟩
  · have d0 : ((s.size : Int) % 2 == 1) = true := by rw [beq_iff_eq]; omega
    go_enter Tryd.func25, Tryd.ntmps25
    go_wp2_with fail
    go_ret2
    exact ⟨.inr ⟨fun h => hodd (by have := h.1; rw [bs_length] at this; exact this), rfl⟩, Below.refl _ _⟩
end Go.Proofs.YtnhakbpalfcmfaaDoor
