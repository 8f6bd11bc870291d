/- The contracts of the program's rise and of the document's common. -/
import Derived.Test.YtknddbmnciodaaaGreatFun
namespace Go.Proofs.YtknddbmnciodaaaGreat
open Go.RowKit
open Ix
set_option linter.unusedVariables false
theorem below_draws' {B : Nat} {w w' : World} (h : Below B w w') (n : Nat) : Below B w (w'.drewN n) := ⟨h.os, h.tape, h.output, h.size, h.block⟩
/-- the first n rise -/
def riseN (C : List ByteArray) : Nat → Bool
  | 0 => true
  | n + 1 => riseN C n && (decide (n = 0) || lt (C.getD (n - 1) ⟨#[]⟩) (C.getD n ⟨#[]⟩))
theorem riseN_mono {C : List ByteArray} {n m : Nat} (h : riseN C n = false) (hm : n ≤ m) : riseN C m = false := by
  induction m with
  | zero => have : n = 0 := by omega
            subst this; exact h
  | succ m ih =>
    by_cases e : n = m + 1
    · subst e; exact h
    · rw [riseN, ih (by omega), Bool.false_and]
set_option maxHeartbeats 4000000 in
theorem rise_any (C : List ByteArray) (A : Option Addr) (c : Nat) (hn : C.length ≤ 100000) (w : World) (hC : Tx w A C) :
    Calls Tryz.prog 29 #[.slice A C.length c] w fun e w' => e = .returned (.bool (riseN C C.length)) ∧ Below w.heap.size w w' := by
  have HC := hid hC
  clear hC
  generalize hm : C.length = m at *
  have HM := hid hm
  clear hm
  go_enter Tryz.func29, Tryz.ntmps29
  go_wp2_with fail
  go_loopw [6] (fun v6 wr => ∃ k : Nat, k ≤ m ∧ v6 = .int .i64 (k : Int) ∧ Hid (riseN C k = true) ∧ Hid (Below w.heap.size w wr)) (fun v6 _ => m - (intOf v6).toNat)
  case atStart => exact ⟨0, Nat.zero_le _, rfl, hid rfl, hid (Below.refl _ _)⟩
  case round =>
    obtain ⟨k, hk, rfl, HR, HB⟩ := hrel
    by_cases hlt : k < m
    · have hlt' : k < C.length := by rw [HM.out]; exact hlt
      have j1 : (k : Int) < (m : Int) := by omega
      have j0 : (0 : Int) ≤ (k : Int) := by omega
      have wk : IntKind.i64.wrap ((k : Int) + 1) = ((k + 1 : Nat) : Int) := by rw [IntKind.wrap_i64]; omega
      by_cases h0 : k = 0
      · subst h0
        have HK : Hid (riseN C 1 = true) := hid (by simp [riseN])
        go_wp2_with fail
        go_quiet (fail)
        go_wp2_with fail
        go_roundw
        case rel => exact ⟨1, by omega, by rfl, HK, hid (below_draws' HB.out _)⟩
        case measure => first | (simp [intOf]; done) | (simp [intOf]; omega)
      · have hk1 : k - 1 < C.length := by omega
        obtain ⟨g, o, rfl, hg, hc⟩ := tx_cell HC.out HB.out hlt'
        obtain ⟨g', o', e, _, hc'⟩ := tx_cell HC.out HB.out hk1
        obtain ⟨rfl, rfl⟩ : g' = g ∧ o' = o := by simp at e; exact ⟨e.1.symm, e.2.symm⟩
        have HS : Hid (riseN C (k + 1) = lt (C.getD (k - 1) ⟨#[]⟩) (C.getD k ⟨#[]⟩)) := hid (by rw [riseN, HR.out]; simp [h0])
        have hb1 := bl (C.getD (k - 1) ⟨#[]⟩) (C.getD k ⟨#[]⟩)
        obtain ⟨x, hx⟩ : ∃ x, x = C.getD (k - 1) ⟨#[]⟩ := ⟨_, rfl⟩
        obtain ⟨y, hy⟩ : ∃ y, y = C.getD k ⟨#[]⟩ := ⟨_, rfl⟩
        rw [← hx, ← hy] at hb1 HS
        rw [← hx] at hc'
        rw [← hy] at hc
        have wm : IntKind.i64.wrap ((k : Int) - 1) = ((k - 1 : Nat) : Int) := by rw [IntKind.wrap_i64]; omega
        have j4 : (0 : Int) ≤ ((k - 1 : Nat) : Int) := by omega
        have j5 : 0 < k := by omega
        have j2 : (0 : Int) < (k : Int) := by omega
        have j3 : ((k - 1 : Nat) : Int) < (m : Int) := by omega
        clear hx hy e hk1 h0 hg
        cases hb : lt x y with
        | true =>
          rw [hb] at hb1 HS
          clear hb
          go_wp2_with fail
          go_quiet (fail)
          go_wp2_with fail
          go_roundw
          case rel => exact ⟨k + 1, by omega, by rfl, HS, hid (below_draws' HB.out _)⟩
          case measure => first | (simp [intOf]; done) | (simp [intOf]; omega)
        | false =>
          rw [hb] at hb1 HS
          clear hb
          go_wp2_with fail
          go_quiet (fail)
          go_wp2_with fail
          go_ret
          exact ⟨by rw [riseN_mono HS.out (by omega)]; rfl, below_draws' HB.out _⟩
    · obtain rfl : m = k := by omega
      have j1 : ¬ ((m : Int) < (m : Int)) := by omega
      go_wp2_with fail
      go_ret
      exact ⟨by rw [HR.out]; rfl, HB.out⟩
end Go.Proofs.YtknddbmnciodaaaGreat

