/- The contract of New: a field in memory, in a block of its own. -/
import Derived.Test.YtfbjpgcgdhhfnaaAid
namespace Go.Proofs.Ytfbjpgcgdhhfnaa
open Go.RowKit
set_option maxRecDepth 20000 in
theorem new_any (w : World) :
    Calls Try.prog 30 #[] w fun e w' => e = .returned (.pointer (some ⟨w.heap.size, 0, none⟩)) ∧ Has w' w.heap.size (U8s (Fld.cellsAt 255)) 79 ∧ Below w.heap.size w w' := by
  obtain ⟨Z, hz, hZ⟩ : ∃ Z, (zeroValue 79).run Try.prog w = .ok (.agg Z) w ∧ Hid (Z = U8s (Fld.cellsAt 0)) := ⟨_, zero79 w, rfl⟩
  go_enter Try.func30, Try.ntmps30
  go_wp2_with fail
  go_loopw [2, 6] (fun vp vi wr => ∃ k : Nat, k ≤ 255 ∧ vi = .int .i64 (k : Int) ∧ vp = .int .i64 ((Fld.pw k : Nat) : Int) ∧ Has wr w.heap.size (U8s (Fld.cellsAt k)) 79 ∧ Below w.heap.size w wr) (fun _ vi _ => 255 - (intOf vi).toNat)
  case atStart =>
    refine ⟨0, by omega, rfl, rfl, ?_, (Below.refl _ _).alloc (Nat.le_refl _) _⟩
    rw [← hZ.out]; exact Has.new _ _ _ _ rfl
  case round =>
    obtain ⟨k, hk, rfl, rfl, h1, hbl⟩ := hrel
    clear hz hZ
    by_cases hlt : k < 255
    · have hp : Fld.pw k < 256 := by rw [Fld.pw_pwr hlt]; exact Fld.pwr_lt hlt
      have HS : Hid (U8s (Fld.cellsAt (k + 1)) = ((U8s (Fld.cellsAt k)).setIfInBounds k (.int .u8 ((Fld.pw k : Nat) : Int))).setIfInBounds (255 + Fld.pw k) (.int .u8 (k : Int))) := by
        unfold Hid; rw [U8s_set, U8s_set]; rfl
      have HD : Hid (Fld.pw (k + 1) = (if 256 ≤ Fld.pw k * 2 then (Fld.pw k * 2) ^^^ 285 else Fld.pw k * 2)) := (Fld.dbl_facts0 ⟨Fld.pw k, hp⟩).2
      have c0 := (h1.cell k).trans (U8s_get _ k (by rw [cellsAt_length]; omega))
      have f0 := h1.frozen k
      have h2 := h1.set k (.int .u8 ((Fld.pw k : Nat) : Int))
      have c1 : (wr.setCell ⟨w.heap.size, k, none⟩ (.int .u8 ((Fld.pw k : Nat) : Int))).cell? ⟨w.heap.size, 255 + Fld.pw k, none⟩ = some (.int .u8 (((Fld.cellsAt k).getD (255 + Fld.pw k) 0 : Nat) : Int)) := by
        rw [h2.cell, Array.getElem?_setIfInBounds_ne (by omega)]; exact U8s_get _ _ (by rw [cellsAt_length]; omega)
      have f1 := h2.frozen (255 + Fld.pw k)
      generalize Fld.pw k = p at *
      have b0 : (k : Int) < 255 := by omega
      have b1 : (p : Int) < 256 := by omega
      have e1 : IntKind.u8.wrap (p : Int) = (p : Int) := by rw [IntKind.wrap_u8']; omega
      have e2 : IntKind.u8.wrap (k : Int) = (k : Int) := by rw [IntKind.wrap_u8']; omega
      have e3 : IntKind.i64.wrap ((p : Int) * 2) = (p : Int) * 2 := wrap_i64_of (by omega) (by omega)
      have x1 : Hid (bits .xor .i64 ((p : Int) * 2) 285 = ((p * 2 ^^^ 285 : Nat) : Int)) := i64_xor_nat (p * 2) 285 (by omega) (by decide)
      have hfin : Below w.heap.size w (wr.setCell ⟨w.heap.size, k, none⟩ (.int .u8 (p : Int))) := hbl.setCell (Nat.le_refl _) _
      have hfin2 : Below w.heap.size w ((wr.setCell ⟨w.heap.size, k, none⟩ (.int .u8 (p : Int))).setCell ⟨w.heap.size, 255 + p, none⟩ (.int .u8 (k : Int))) := hfin.setCell (Nat.le_refl _) _
      have h3 := h2.set (255 + p) (.int .u8 (k : Int))
      rw [← HS.out] at h3
      by_cases hx : 256 ≤ p * 2
      · have d0 : decide ((256 : Int) ≤ (p : Int) * 2) = true := by simp; omega
        rw [Hid, if_pos hx] at HD
        have HD' : Hid _ := HD
        clear HD
        go_wp2_with fail
        exact ⟨⟨k + 1, by omega, rfl, by rw [HD'.out, x1.out], h3, hfin2⟩, by simp [intOf]; omega⟩
      · have d0 : decide ((256 : Int) ≤ (p : Int) * 2) = false := by simp; omega
        rw [Hid, if_neg hx] at HD
        have HD' : Hid _ := HD
        clear HD
        go_wp2_with fail
        exact ⟨⟨k + 1, by omega, rfl, by rw [HD'.out]; simp, h3, hfin2⟩, by simp [intOf]; omega⟩
    · obtain rfl : k = 255 := by omega
      go_wp2_with fail
      go_ret
      exact ⟨rfl, h1, hbl⟩
end Go.Proofs.Ytfbjpgcgdhhfnaa
