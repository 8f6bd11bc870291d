/- The contract of Unhex; of what was there nothing changes. -/
import Derived.Test.YtnhakbpalfcmfaaDoorHex
import Derived.Deep.QuietTactic
import Derived.BigQuiet
namespace Go.Proofs.YtnhakbpalfcmfaaDoor
open Go.RowKit
namespace Sha
/-- the number of a hex's digit; 16: it is none -/
def num (c : Nat) : Nat := if 48 ≤ c ∧ c ≤ 57 then c - 48 else if 97 ≤ c ∧ c ≤ 102 then c - 87 else 16
def idx (c : Nat) : Int := if num c < 16 then (num c : Int) else -1
def isHex (l : List Nat) : Prop := l.length % 2 = 0 ∧ ∀ j, j < l.length → num (l.getD j 0) < 16
def unhexTo (l : List Nat) (k : Nat) : List Nat := (List.range k).map fun i => num (l.getD (2 * i) 0) * 16 + num (l.getD (2 * i + 1) 0)
def unhex (l : List Nat) : List Nat := unhexTo l (l.length / 2)
theorem unhexTo_succ (l : List Nat) (k : Nat) : unhexTo l (k + 1) = unhexTo l k ++ [num (l.getD (2 * k) 0) * 16 + num (l.getD (2 * k + 1) 0)] := by
  simp [unhexTo, List.range_succ]
end Sha
theorem idx_all : ∀ n : Fin 256, Lib.indexByte [48, 49, 50, 51, 52, 53, 54, 55, 56, 57, 97, 98, 99, 100, 101, 102] (n.val).toUInt8 = Sha.idx n.val := by decide +kernel
theorem idx_any (c : Nat) (hc : c < 256) (w : World) :
    Calls Tryd.prog 41 #[.string ⟨#[48, 49, 50, 51, 52, 53, 54, 55, 56, 57, 97, 98, 99, 100, 101, 102]⟩, .int .u8 (c : Int)] w fun e w' => e = .returned (.int .i64 (Sha.idx c)) ∧ w' = w := by
  refine (Tryd.strings_IndexByte _ _ w).mono ?_
  rintro e w' ⟨rfl, rfl⟩
  refine ⟨?_, rfl⟩
  rw [← idx_all ⟨c, hc⟩]
  simp
theorem or_close (a b : Nat) (ha : a < 16) (hb : b < 16) : bits BinOp.or IntKind.i64 ((a : Int) * 16) (b : Int) % 256 = ((a * 16 + b : Nat) : Int) := by
  have : ∀ x y : Fin 16, bits BinOp.or IntKind.i64 ((x.val : Int) * 16) (y.val : Int) % 256 = ((x.val * 16 + y.val : Nat) : Int) := by decide +kernel
  exact this ⟨a, ha⟩ ⟨b, hb⟩
theorem bs_getD (s : ByteArray) (k : Nat) (h : k < s.size) : (bs s).getD k 0 = s[k].toNat := by
  rw [List.getD_eq_getElem?_getD, List.getElem?_eq_getElem (by rw [bs_length]; exact h)]
  simp [bs]
  rfl
set_option maxRecDepth 20000 in
set_option maxHeartbeats 1000000 in
theorem unhex_any (s : ByteArray) (hs : s.size ≤ 900000000000) (w : World) :
    Calls Tryd.prog 23 #[.string s] w fun e w' => ((Sha.isHex (bs s) ∧ e = .returned (.tuple #[.string (ofBs (Sha.unhex (bs s))), .int .i64 0])) ∨ (¬ Sha.isHex (bs s) ∧ e = .returned (.tuple #[.string ⟨#[]⟩, .int .i64 4]))) ∧ Below w.heap.size w w' := by
  by_cases hodd : s.size % 2 = 0
  · have d0 : ((s.size : Int) % 2 != 0) = false := by rw [bne_eq_false_iff_eq]; omega
    go_enter Tryd.func23, Tryd.ntmps23
    go_wp2_with fail
    refine (room_any w.heap.size (s.size / 2) _ _ (by omega) (Has.new w w.heap.size _ 66 rfl) (by omega)).mono ?_
    rintro e w1 ⟨rfl, h1, b1⟩
    have b1' : Below w.heap.size w w1 := ((Below.refl _ _).alloc (Nat.le_refl _) _).trans b1
    clear b1
    go_wp2_with fail
    go_loopw [5] (fun v wr => ∃ k : Nat, 2 * k ≤ s.size ∧ v = .int .i64 (2 * (k : Int)) ∧ (∀ j, j < 2 * k → Sha.num ((bs s).getD j 0) < 16) ∧ Holds w.heap.size (Sha.unhexTo (bs s) k) wr ∧ Below w.heap.size w wr) (fun v _ => s.size - (intOf v).toNat)
    case atStart => exact ⟨0, by omega, rfl, fun j hj => by omega, h1, b1'⟩
    case round =>
      clear h1 b1'
      obtain ⟨k, hk, rfl, hall, h1, b1⟩ := hrel
      have Hall : Hid _ := hall
      clear hall
      by_cases hlt : 2 * k < s.size
      · have g0 : (bs s).getD (2 * k) 0 = s[2 * k].toNat := bs_getD s _ (by omega)
        have g1 : (bs s).getD (2 * k + 1) 0 = s[2 * k + 1].toNat := bs_getD s _ (by omega)
        have x0 : s[2 * k].toNat < 256 := s[2 * k].toNat_lt
        have x1 : s[2 * k + 1].toNat < 256 := s[2 * k + 1].toNat_lt
        have i0 : (0 : Int) ≤ 2 * (k : Int) := by omega
        have i1 : 2 * (k : Int) < (s.size : Int) := by omega
        have i2 : 2 * (k : Int) + 1 < (s.size : Int) := by omega
        have i3 : (0 : Int) ≤ 2 * (k : Int) + 1 := by omega
        have G0 : Hid _ := g0
        have G1 : Hid _ := g1
        clear g0 g1
        by_cases v0 : Sha.num s[2 * k].toNat < 16
        · have e0 : Sha.idx s[2 * k].toNat = (Sha.num s[2 * k].toNat : Int) := if_pos v0
          by_cases v1 : Sha.num s[2 * k + 1].toNat < 16
          · have e1 : Sha.idx s[2 * k + 1].toNat = (Sha.num s[2 * k + 1].toNat : Int) := if_pos v1
            have HO : Hid _ := or_close _ _ v0 v1
            have HU : Hid (Sha.unhexTo (bs s) (k + 1) = Sha.unhexTo (bs s) k ++ [Sha.num s[2 * k].toNat * 16 + Sha.num s[2 * k + 1].toNat]) := by
              unfold Hid; rw [Sha.unhexTo_succ, G0.out, G1.out]
            have HA : Hid (∀ j, j < 2 * (k + 1) → Sha.num ((bs s).getD j 0) < 16) := by
              intro j hj
              by_cases a : j < 2 * k
              · exact Hall.out j a
              · by_cases b : j = 2 * k
                · subst b; rw [G0.out]; exact v0
                · obtain rfl : j = 2 * k + 1 := by omega
                  rw [G1.out]; exact v1
            generalize Sha.num s[2 * k].toNat = p at *
            generalize Sha.num s[2 * k + 1].toNat = q at *
            go_wp2_with fail
            go_quiet ((go_at_call 41; exact Calls.quiet_of_same (idx_any _ (by assumption) _)))
            go_wp2_with fail
            have hll : (Sha.unhexTo (bs s) k).length ≤ 100000000000000 := by simp [Sha.unhexTo]; omega
            refine (write_any w.heap.size _ _ (p * 16 + q) _ HO.out (show Holds w.heap.size _ (wr.drewN nq) from h1) hll).mono ?_
            rintro e w2 ⟨rfl, h2, b2⟩
            rw [← HU.out] at h2
            go_wp2_with fail
            exact ⟨⟨k + 1, by omega, by go_num, HA.out, h2, (below_drewN b1 _).trans b2⟩, by simp [intOf]; omega⟩
          · have e1 : Sha.idx s[2 * k + 1].toNat = -1 := if_neg v1
            have HN : Hid (¬ Sha.isHex (bs s)) := fun h => v1 (by rw [← G1.out]; exact h.2 _ (by rw [bs_length]; omega))
            generalize Sha.num s[2 * k].toNat = p at *
            go_wp2_with fail
            go_quiet ((go_at_call 41; exact Calls.quiet_of_same (idx_any _ (by assumption) _)))
            go_wp2_with fail
            go_light
            go_ret2
            exact ⟨.inr ⟨HN.out, rfl⟩, below_drewN b1 _⟩
        · have e0 : Sha.idx s[2 * k].toNat = -1 := if_neg v0
          have HN : Hid (¬ Sha.isHex (bs s)) := fun h => v0 (by rw [← G0.out]; exact h.2 _ (by rw [bs_length]; omega))
          go_wp2_with fail
          go_quiet ((go_at_call 41; exact Calls.quiet_of_same (idx_any _ (by assumption) _)))
          go_wp2_with fail
          go_light
          go_ret2
          exact ⟨.inr ⟨HN.out, rfl⟩, below_drewN b1 _⟩
      · have hke : 2 * k = s.size := by omega
        have HY : Hid (Sha.isHex (bs s)) := ⟨by rw [bs_length]; exact hodd, fun j hj => Hall.out j (by rw [bs_length] at hj; omega)⟩
        have HU : Hid (Sha.unhexTo (bs s) k = Sha.unhex (bs s)) := by unfold Hid Sha.unhex; rw [bs_length, ← hke]; congr 1; omega
        have hlt' : ∀ x ∈ Sha.unhexTo (bs s) k, x < 256 := by
          intro x hx
          simp only [Sha.unhexTo, List.mem_map, List.mem_range] at hx
          obtain ⟨i, hi, rfl⟩ := hx
          have a := Hall.out (2 * i) (by omega)
          have b := Hall.out (2 * i + 1) (by omega)
          omega
        have HK : Hid _ := hke
        clear hke
        go_wp2_with (go_at_call 36; refine (tell_any w.heap.size _ _ h1 hlt').mono ?_; rintro e w2 ⟨rfl, b2⟩)
        go_ret2
        exact ⟨.inl ⟨HY.out, by rw [← HU.out]; rfl⟩, b1.trans b2⟩
  · have d0 : ((s.size : Int) % 2 != 0) = true := by rw [bne_iff_ne]; omega
    go_enter Tryd.func23, Tryd.ntmps23
    go_wp2_with fail
    go_ret2
    exact ⟨.inr ⟨fun h => hodd (by have := h.1; rw [bs_length] at this; exact this), rfl⟩, Below.refl _ _⟩
end Go.Proofs.YtnhakbpalfcmfaaDoor
