/- The laws' own functions: texts and places that are the same; how large a state is. -/
import Derived.Test.YtknddbmnciodaaaGreatEqs
import Derived.Test.YtknddbmnciodaaaGreatPMay
namespace Go.Proofs.YtknddbmnciodaaaGreat
open Go.RowKit
open Ix
set_option linter.unusedVariables false
set_option maxHeartbeats 4000000 in
theorem texts_any (L : List ByteArray) (A B : Option Addr) (c d : Nat) (hn : L.length ≤ 100000) (w : World) (hA : Tx w A L) (hB : Tx w B L) :
    Calls Tryz.prog 16 #[.slice A L.length c, .slice B L.length d] w fun e w' => e = .returned (.bool true) ∧ Below w.heap.size w w' := by
  have HA := hid hA
  have HB := hid hB
  clear hA hB
  generalize hm : L.length = m at *
  have HM := hid hm
  clear hm
  have q0 : ((m : Int) != (m : Int)) = false := by simp
  go_enter Tryz.func16, Tryz.ntmps16
  go_wp2_with fail
  go_loopw [5] (fun v5 wr => ∃ k : Nat, k ≤ m ∧ v5 = .int .i64 (k : Int) ∧ Hid (Below w.heap.size w wr)) (fun v5 _ => m - (intOf v5).toNat)
  case atStart => exact ⟨0, Nat.zero_le _, rfl, hid (Below.refl _ _)⟩
  case round =>
    obtain ⟨k, hk, rfl, HW⟩ := hrel
    by_cases hlt : k < m
    · have hlt' : k < L.length := by rw [HM.out]; exact hlt
      have j1 : (k : Int) < (m : Int) := by omega
      have j0 : (0 : Int) ≤ (k : Int) := by omega
      have wk : IntKind.i64.wrap ((k : Int) + 1) = ((k + 1 : Nat) : Int) := by rw [IntKind.wrap_i64]; omega
      obtain ⟨g, o, rfl, hg, a1⟩ := tx_cell HA.out HW.out hlt'
      obtain ⟨g', o', rfl, hg', b1⟩ := tx_cell HB.out HW.out hlt'
      have q1 := str_eq (rfl : L.getD k ⟨#[]⟩ = L.getD k ⟨#[]⟩)
      generalize L.getD k ⟨#[]⟩ = x at *
      go_wp2_with fail
      go_quiet (fail)
      go_wp2_with fail
      go_roundw
      case rel => exact ⟨k + 1, by omega, by rfl, hid (below_draws' HW.out _)⟩
      case measure => first | (simp [intOf]; done) | (simp [intOf]; omega)
    · obtain rfl : m = k := by omega
      have j1 : ¬ ((m : Int) < (m : Int)) := by omega
      go_wp2_with fail
      go_ret
      exact ⟨rfl, HW.out⟩
set_option maxHeartbeats 4000000 in
theorem places_any (L : List Pl) (A B : Option Addr) (c d : Nat) (hn : L.length ≤ 100000) (w : World) (hA : Ps w A L) (hB : Ps w B L) :
    Calls Tryz.prog 19 #[.slice A L.length c, .slice B L.length d] w fun e w' => e = .returned (.bool true) ∧ Below w.heap.size w w' := by
  have HA := hid hA
  have HB := hid hB
  clear hA hB
  generalize hm : L.length = m at *
  have HM := hid hm
  clear hm
  have q0 : ((m : Int) != (m : Int)) = false := by simp
  go_enter Tryz.func19, Tryz.ntmps19
  go_wp2_with fail
  go_loopw [5] (fun v5 wr => ∃ k : Nat, k ≤ m ∧ v5 = .int .i64 (k : Int) ∧ Hid (Below w.heap.size w wr)) (fun v5 _ => m - (intOf v5).toNat)
  case atStart => exact ⟨0, Nat.zero_le _, rfl, hid (Below.refl _ _)⟩
  case round =>
    obtain ⟨k, hk, rfl, HW⟩ := hrel
    by_cases hlt : k < m
    · have hlt' : k < L.length := by rw [HM.out]; exact hlt
      have j1 : (k : Int) < (m : Int) := by omega
      have j0 : (0 : Int) ≤ (k : Int) := by omega
      have wk : IntKind.i64.wrap ((k : Int) + 1) = ((k + 1 : Nat) : Int) := by rw [IntKind.wrap_i64]; omega
      obtain ⟨g, o, rfl, hg, a1, a2, a3⟩ := ps_cell HA.out HW.out hlt'
      obtain ⟨g', o', rfl, hg', b1, b2, b3⟩ := ps_cell HB.out HW.out hlt'
      have hne : ∀ W, (binOp .neq 24 (.agg #[.string (L.getD k default).pack, .int .i64 (L.getD k default).at_, .int .i64 (L.getD k default).len]) (.agg #[.string (L.getD k default).pack, .int .i64 (L.getD k default).at_, .int .i64 (L.getD k default).len])).run Tryz.prog W = .ok (.bool false) W := fun W => neq37 W (L.getD k default)
      generalize (L.getD k default).pack = x at *
      generalize (L.getD k default).at_ = y at *
      generalize (L.getD k default).len = z at *
      go_wp2_with fail
      go_quiet (fail)
      go_wp2_with fail
      go_roundw
      case rel => exact ⟨k + 1, by omega, by rfl, hid (below_draws' HW.out _)⟩
      case measure => first | (simp [intOf]; done) | (simp [intOf]; omega)
    · obtain rfl : m = k := by omega
      have j1 : ¬ ((m : Int) < (m : Int)) := by omega
      go_wp2_with fail
      go_ret
      exact ⟨rfl, HW.out⟩
/-- is it more than a statement goes through? -/
def largeB (s : St) : Bool := decide (2000 < s.C.length + s.P.length) || decide (2000 < s.sn.length)
set_option maxHeartbeats 4000000 in
theorem large_any (s : St) (a0 a1 a2 : Option Addr) (c0 c1 c2 : Nat) (hC : s.C.length ≤ 9223372036854775807) (hP : s.P.length ≤ 9223372036854775807) (hS : s.C.length + s.P.length ≤ 9223372036854775807) (w : World) :
    Calls Tryz.prog 17 #[.agg (stV s a0 a1 a2 c0 c1 c2)] w fun e w' => e = .returned (.bool (largeB s)) ∧ Below w.heap.size w w' := by
  obtain ⟨w1, hw1, hB, n1⟩ := box_state (w := w) s a0 a1 a2 c0 c1 c2
  unfold largeB
  show Calls Tryz.prog 17 #[.agg #[.int .i64 s.k, .int .i64 s.n, .int .i64 s.nx, .slice a0 s.sn.length c0, .slice a1 s.C.length c1, .slice a2 s.P.length c2]] w _
  change w1 = w.alloc (.cells #[.int .i64 s.k, .int .i64 s.n, .int .i64 s.nx, .slice a0 s.sn.length c0, .slice a1 s.C.length c1, .slice a2 s.P.length c2] 35) at hw1
  generalize s.C.length = n at *
  generalize s.P.length = m at *
  generalize s.sn.length = r at *
  have wa : IntKind.i64.wrap ((n : Int) + (m : Int)) = ((n + m : Nat) : Int) := by rw [IntKind.wrap_i64]; omega
  have HB := hid hB
  have HW := hid hw1
  clear n1 hB hw1
  go_enter Tryz.func17, Tryz.ntmps17
  by_cases h1 : 2000 < n + m
  · have i1 : (2000 : Int) < ((n + m : Nat) : Int) := by omega
    have H1 := hid h1
    clear h1
    go_wp2_with fail
    go_ret
    exact ⟨by rw [decide_eq_true H1.out]; rfl, by rw [← HW.out]; exact HB.out⟩
  · have i1 : ¬ (2000 : Int) < ((n + m : Nat) : Int) := by omega
    have H1 := hid h1
    clear h1
    by_cases h2 : 2000 < r
    · have i2 : (2000 : Int) < (r : Int) := by omega
      have H2 := hid h2
      clear h2
      go_wp2_with fail
      go_ret
      exact ⟨by rw [decide_eq_false H1.out, decide_eq_true H2.out]; rfl, by rw [← HW.out]; exact HB.out⟩
    · have i2 : ¬ (2000 : Int) < (r : Int) := by omega
      have i3 : decide ((2000 : Int) < (n : Int) + (m : Int)) = false := by simp; omega
      have i4 : ¬ (2000 : Int) < (n : Int) + (m : Int) := by omega
      have H2 := hid h2
      clear h2
      go_wp2_with fail
      go_ret
      exact ⟨by rw [decide_eq_false H1.out, decide_eq_false H2.out]; rfl, by rw [← HW.out]; exact HB.out⟩
end Go.Proofs.YtknddbmnciodaaaGreat

