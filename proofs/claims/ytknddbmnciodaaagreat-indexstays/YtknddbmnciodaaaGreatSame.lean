/- The document's Same: a state is the same as itself, wherever it stands. -/
import Derived.Test.YtknddbmnciodaaaGreatLaws
namespace Go.Proofs.YtknddbmnciodaaaGreat
open Go.RowKit
open Ix
set_option linter.unusedVariables false
set_option maxRecDepth 20000 in
set_option maxHeartbeats 16000000 in
theorem same_any (s : St) (a0 a1 a2 b0 b1 b2 : Option Addr) (c0 c1 c2 d0 d1 d2 : Nat) (hn : s.C.length ≤ 100000) (hn2 : s.P.length ≤ 100000) (hn3 : s.sn.length ≤ 100000)
    (w : World) (hS : Sn w a0 s.sn) (hC : Tx w a1 s.C) (hP : Ps w a2 s.P) (hS' : Sn w b0 s.sn) (hC' : Tx w b1 s.C) (hP' : Ps w b2 s.P) :
    Calls Tryz.prog 15 #[.agg (stV s a0 a1 a2 c0 c1 c2), .agg (stV s b0 b1 b2 d0 d1 d2)] w fun e w' => e = .returned (.bool true) ∧ Below w.heap.size w w' := by
  obtain ⟨b, hb⟩ : ∃ b, b = w.heap.size := ⟨_, rfl⟩
  obtain ⟨w1, hw1⟩ : ∃ w1, w1 = (w.alloc (.cells (stV s a0 a1 a2 c0 c1 c2) 35)).alloc (.cells (stV s b0 b1 b2 d0 d1 d2) 35) := ⟨_, rfl⟩
  have hB : Below w.heap.size w w1 := by rw [hw1]; exact ((Below.refl _ w).alloc (Nat.le_refl _) _).alloc (by simp) _
  have n1 : Has w1 b (stV s a0 a1 a2 c0 c1 c2) 35 := by rw [hw1]; exact (Has.new w _ _ _ hb).alloc _
  have n2 : Has w1 (b + 1) (stV s b0 b1 b2 d0 d1 d2) 35 := by rw [hw1]; exact Has.new _ _ _ _ (by simp [hb])
  have HS := hid (hS.below hB)
  have HC := hid (hC.below hB)
  have HP := hid (hP.below hB)
  have HS' := hid (hS'.below hB)
  have HC' := hid (hC'.below hB)
  have HP' := hid (hP'.below hB)
  have HB := hid hB
  have HK := hid (fun W (hW : Below w1.heap.size w1 W) => (show (W.cell? ⟨b, 3, none⟩ = some (.slice a0 s.sn.length c0) ∧ W.cell? ⟨b, 4, none⟩ = some (.slice a1 s.C.length c1) ∧ W.cell? ⟨b, 5, none⟩ = some (.slice a2 s.P.length c2) ∧ W.cell? ⟨b + 1, 3, none⟩ = some (.slice b0 s.sn.length d0) ∧ W.cell? ⟨b + 1, 4, none⟩ = some (.slice b1 s.C.length d1) ∧ W.cell? ⟨b + 1, 5, none⟩ = some (.slice b2 s.P.length d2)) from by
    have m1 := n1.below hW n1.lt
    have m2 := n2.below hW n2.lt
    exact ⟨by rw [m1.cell]; rfl, by rw [m1.cell]; rfl, by rw [m1.cell]; rfl, by rw [m2.cell]; rfl, by rw [m2.cell]; rfl, by rw [m2.cell]; rfl⟩))
  have k0 : w1.cell? ⟨b, 0, none⟩ = some (.int .i64 s.k) := by rw [n1.cell]; rfl
  have k1 : w1.cell? ⟨b, 1, none⟩ = some (.int .i64 s.n) := by rw [n1.cell]; rfl
  have k2 : w1.cell? ⟨b, 2, none⟩ = some (.int .i64 s.nx) := by rw [n1.cell]; rfl
  have l0 : w1.cell? ⟨b + 1, 0, none⟩ = some (.int .i64 s.k) := by rw [n2.cell]; rfl
  have l1 : w1.cell? ⟨b + 1, 1, none⟩ = some (.int .i64 s.n) := by rw [n2.cell]; rfl
  have l2 : w1.cell? ⟨b + 1, 2, none⟩ = some (.int .i64 s.nx) := by rw [n2.cell]; rfl
  obtain ⟨k3, k4, k5, l3, l4, l5⟩ := HK.out w1 (Below.refl _ _)
  clear hB n1 n2 hC hP hS hS' hC' hP'
  change w1 = (w.alloc (.cells #[.int .i64 s.k, .int .i64 s.n, .int .i64 s.nx, .slice a0 s.sn.length c0, .slice a1 s.C.length c1, .slice a2 s.P.length c2] 35)).alloc (.cells #[.int .i64 s.k, .int .i64 s.n, .int .i64 s.nx, .slice b0 s.sn.length d0, .slice b1 s.C.length d1, .slice b2 s.P.length d2] 35) at hw1
  show Calls Tryz.prog 15 #[.agg #[.int .i64 s.k, .int .i64 s.n, .int .i64 s.nx, .slice a0 s.sn.length c0, .slice a1 s.C.length c1, .slice a2 s.P.length c2], .agg #[.int .i64 s.k, .int .i64 s.n, .int .i64 s.nx, .slice b0 s.sn.length d0, .slice b1 s.C.length d1, .slice b2 s.P.length d2]] w _
  have hne : ∀ W, (binOp .neq 32 (.agg #[.int .i64 s.k, .int .i64 s.n]) (.agg #[.int .i64 s.k, .int .i64 s.n])).run Tryz.prog W = .ok (.bool false) W := fun W => neq23 W s.k s.n
  generalize hlC : s.C.length = nC at *
  generalize hlP : s.P.length = nP at *
  generalize hlS : s.sn.length = nS at *
  have HLC := hid hlC
  have HLP := hid hlP
  have HLS := hid hlS
  clear hlC hlP hlS
  have q0 : ((nC : Int) != (nC : Int)) = false := by simp
  have q1 : ((nP : Int) != (nP : Int)) = false := by simp
  have q2 : ((nS : Int) != (nS : Int)) = false := by simp
  have q3 : (s.nx != s.nx) = false := by simp
  go_enter Tryz.func15, Tryz.ntmps15
  go_upto_region 1 with fail
  rw [← hw1, ← hb]
  clear hw1 hb
  go_upto_region 3 with fail
  have HW0 := hid (Below.refl w1.heap.size w1)
  clear hne q0 q1 q2 q3 k0 k1 k2 k3 k4 k5 l0 l1 l2 l3 l4 l5
  go_wp2_with fail
  go_loopw [5] (fun v5 wr => ∃ k : Nat, k ≤ nC ∧ v5 = .int .i64 (k : Int) ∧ Hid (Below w1.heap.size w1 wr)) (fun v5 _ => nC - (intOf v5).toNat)
  case atStart => exact ⟨0, Nat.zero_le _, rfl, HW0⟩
  case round =>
    obtain ⟨k, hk, rfl, HW⟩ := hrel
    clear HW0
    obtain ⟨k3, k4, k5, l3, l4, l5⟩ := HK.out wr HW.out
    by_cases hlt : k < nC
    · have hlt' : k < s.C.length := by rw [HLC.out]; exact hlt
      have j1 : (k : Int) < (nC : Int) := by omega
      have j0 : (0 : Int) ≤ (k : Int) := by omega
      have wk : IntKind.i64.wrap ((k : Int) + 1) = ((k + 1 : Nat) : Int) := by rw [IntKind.wrap_i64]; omega
      obtain ⟨g, o, rfl, hg, a1⟩ := tx_cell HC.out HW.out hlt'
      obtain ⟨g', o', rfl, hg', e1⟩ := tx_cell HC'.out HW.out hlt'
      have q1 := str_eq (rfl : s.C.getD k ⟨#[]⟩ = s.C.getD k ⟨#[]⟩)
      generalize s.C.getD k ⟨#[]⟩ = x at *
      go_wp2_with fail
      go_quiet (fail)
      go_wp2_with fail
      go_roundw
      case rel => exact ⟨k + 1, by omega, by rfl, hid (below_draws' HW.out _)⟩
      case measure => first | (simp [intOf]; done) | (simp [intOf]; omega)
    · obtain rfl : nC = k := by omega
      have j1 : ¬ ((nC : Int) < (nC : Int)) := by omega
      have HW0 := hid HW.out
      clear HW
      go_wp2_with fail
      go_loopw [6] (fun v6 wr => ∃ k : Nat, k ≤ nP ∧ v6 = .int .i64 (k : Int) ∧ Hid (Below w1.heap.size w1 wr)) (fun v6 _ => nP - (intOf v6).toNat)
      case atStart => exact ⟨0, Nat.zero_le _, rfl, HW0⟩
      case round =>
        obtain ⟨k, hk, rfl, HW⟩ := hrel
        clear HW0
        obtain ⟨k3, k4, k5, l3, l4, l5⟩ := HK.out wr HW.out
        by_cases hlt : k < nP
        · have hlt' : k < s.P.length := by rw [HLP.out]; exact hlt
          have j1 : (k : Int) < (nP : Int) := by omega
          have j0 : (0 : Int) ≤ (k : Int) := by omega
          have wk : IntKind.i64.wrap ((k : Int) + 1) = ((k + 1 : Nat) : Int) := by rw [IntKind.wrap_i64]; omega
          obtain ⟨g, o, rfl, hg, a1, a2, a3⟩ := ps_cell HP.out HW.out hlt'
          obtain ⟨g', o', rfl, hg', e1, e2, e3⟩ := ps_cell HP'.out HW.out hlt'
          have hne : ∀ W, (binOp .neq 24 (.agg #[.string (s.P.getD k default).pack, .int .i64 (s.P.getD k default).at_, .int .i64 (s.P.getD k default).len]) (.agg #[.string (s.P.getD k default).pack, .int .i64 (s.P.getD k default).at_, .int .i64 (s.P.getD k default).len])).run Tryz.prog W = .ok (.bool false) W := fun W => neq37 W (s.P.getD k default)
          generalize (s.P.getD k default).pack = x at *
          generalize (s.P.getD k default).at_ = y at *
          generalize (s.P.getD k default).len = z at *
          go_wp2_with fail
          go_quiet (fail)
          go_wp2_with fail
          go_roundw
          case rel => exact ⟨k + 1, by omega, by rfl, hid (below_draws' HW.out _)⟩
          case measure => first | (simp [intOf]; done) | (simp [intOf]; omega)
        · obtain rfl : nP = k := by omega
          have j1 : ¬ ((nP : Int) < (nP : Int)) := by omega
          have HW0 := hid HW.out
          clear HW
          go_wp2_with fail
          go_loopw [7] (fun v7 wr => ∃ k : Nat, k ≤ nS ∧ v7 = .int .i64 (k : Int) ∧ Hid (Below w1.heap.size w1 wr)) (fun v7 _ => nS - (intOf v7).toNat)
          case atStart => exact ⟨0, Nat.zero_le _, rfl, HW0⟩
          case round =>
            obtain ⟨k, hk, rfl, HW⟩ := hrel
            clear HW0
            obtain ⟨k3, k4, k5, l3, l4, l5⟩ := HK.out wr HW.out
            by_cases hlt : k < nS
            · have hlt' : k < s.sn.length := by rw [HLS.out]; exact hlt
              have j1 : (k : Int) < (nS : Int) := by omega
              have j0 : (0 : Int) ≤ (k : Int) := by omega
              have wk : IntKind.i64.wrap ((k : Int) + 1) = ((k + 1 : Nat) : Int) := by rw [IntKind.wrap_i64]; omega
              obtain ⟨g, o, rfl, hg, a1, a2, a3⟩ := sn_cell HS.out HW.out hlt'
              obtain ⟨g', o', rfl, hg', e1, e2, e3⟩ := sn_cell HS'.out HW.out hlt'
              have hne : ∀ W, (binOp .neq 41 (.agg #[.int .i64 (s.sn.getD k default).id, .int .i64 (s.sn.getD k default).time, .string (s.sn.getD k default).root]) (.agg #[.int .i64 (s.sn.getD k default).id, .int .i64 (s.sn.getD k default).time, .string (s.sn.getD k default).root])).run Tryz.prog W = .ok (.bool false) W := fun W => neq68 W (s.sn.getD k default)
              generalize (s.sn.getD k default).id = x at *
              generalize (s.sn.getD k default).time = y at *
              generalize (s.sn.getD k default).root = z at *
              go_wp2_with fail
              go_quiet (fail)
              go_wp2_with fail
              go_roundw
              case rel => exact ⟨k + 1, by omega, by rfl, hid (below_draws' HW.out _)⟩
              case measure => first | (simp [intOf]; done) | (simp [intOf]; omega)
            · obtain rfl : nS = k := by omega
              have j1 : ¬ ((nS : Int) < (nS : Int)) := by omega
              have HW0 := hid HW.out
              clear HW
              go_wp2_with fail
              go_ret
              exact ⟨rfl, HB.out.trans (HW0.out.mono HB.out.size)⟩
end Go.Proofs.YtknddbmnciodaaaGreat

