/- The contract of the document's common. -/
import Derived.Test.YtknddbmnciodaaaRise
namespace Go.Proofs.Ytknddbmnciodaaa
open Go.RowKit
open Ix
set_option linter.unusedVariables false
theorem comN_mono {P : List Pl} {n : Nat} (h : comN P n = true) (hn : n ≤ P.length) : comN P P.length = true := by
  obtain ⟨i, k, h1, h2, h3⟩ := comN_iff.1 h
  exact comN_iff.2 ⟨i, k, h1, by omega, h3⟩
set_option maxHeartbeats 8000000 in
theorem common_any (P : List Pl) (A : Option Addr) (c : Nat) (hn : P.length ≤ 100000) (hm : ∀ p ∈ P, mayP p) (w : World) (hP : Ps w A P) :
    Calls Try.prog 31 #[.slice A P.length c] w fun e w' => e = .returned (.bool (comN P P.length)) ∧ Below w.heap.size w w' := by
  have HC := hid hP
  have HMY := hid hm
  clear hP hm
  generalize hml : P.length = m at *
  have HM := hid hml
  clear hml
  go_enter Try.func31, Try.ntmps31
  go_wp2_with fail
  go_loopw [3, 4] (fun v3 v4 wr => ∃ k : Nat, k ≤ m ∧ v3 = .int .i64 (k : Int) ∧ Hid (comN P k = false) ∧ Hid (Below w.heap.size w wr)) (fun v3 _ _ => m - (intOf v3).toNat)
  case atStart => exact ⟨0, Nat.zero_le _, rfl, hid rfl, hid (Below.refl _ _)⟩
  case round =>
    obtain ⟨k, hk, rfl, HR, HB⟩ := hrel
    by_cases hlt : k < m
    · have hlt' : k < P.length := by rw [HM.out]; exact hlt
      have j1 : (k : Int) < (m : Int) := by omega
      have j0 : (0 : Int) ≤ (k : Int) := by omega
      have wk : IntKind.i64.wrap ((k : Int) + 1) = ((k + 1 : Nat) : Int) := by rw [IntKind.wrap_i64]; omega
      have HS : Hid (comN P (k + 1) = comR P (P.getD k default) k) := hid (by rw [comN_succ (get_of default hlt'), HR.out, Bool.false_or])
      generalize wr = w8 at *
      go_wp2_with fail
      go_loopw [4] (fun v4 wz => ∃ t : Nat, t ≤ k ∧ v4 = .int .i64 (t : Int) ∧ Hid (comR P (P.getD k default) t = false) ∧ Hid (Below w.heap.size w wz)) (fun v4 _ => k - (intOf v4).toNat)
      case atStart => exact ⟨0, Nat.zero_le _, rfl, hid rfl, HB⟩
      case round =>
        obtain ⟨t, ht, rfl, HT, HZ⟩ := hrel
        by_cases htk : t < k
        · have ht' : t < P.length := by omega
          have i1 : (t : Int) < (k : Int) := by omega
          have i2 : (t : Int) < (m : Int) := by omega
          have i0 : (0 : Int) ≤ (t : Int) := by omega
          have wt : IntKind.i64.wrap ((t : Int) + 1) = ((t + 1 : Nat) : Int) := by rw [IntKind.wrap_i64]; omega
          have HU : Hid (comR P (P.getD k default) (t + 1) = comB (P.getD k default) (P.getD t default)) := hid (by rw [comR_succ (get_of default ht'), HT.out, Bool.false_or])
          obtain ⟨g, o, rfl, hg, a1, a2, a3⟩ := ps_cell HC.out HZ.out hlt'
          obtain ⟨g', o', e, _, b1, b2, b3⟩ := ps_cell HC.out HZ.out ht'
          obtain ⟨rfl, rfl⟩ : g' = g ∧ o' = o := by simp at e; exact ⟨e.1.symm, e.2.symm⟩
          have ma := HMY.out _ (getP_mem hlt')
          have mb := HMY.out _ (getP_mem ht')
          unfold comB at HU
          unfold mayP at ma mb
          have wa : IntKind.i64.wrap ((P.getD k default).at_ + (P.getD k default).len) = (P.getD k default).at_ + (P.getD k default).len := by rw [IntKind.wrap_i64]; omega
          have wb : IntKind.i64.wrap ((P.getD t default).at_ + (P.getD t default).len) = (P.getD t default).at_ + (P.getD t default).len := by rw [IntKind.wrap_i64]; omega
          clear e ma mb hg
          generalize hp : P.getD k default = p at *
          generalize hq : P.getD t default = q at *
          clear hp hq
          by_cases h1 : p.pack = q.pack
          · have q1 := str_eq h1
            rw [decide_eq_true h1] at HU
            clear h1
            generalize p.pack = x at *
            generalize q.pack = y at *
            by_cases h2 : p.at_ < q.at_ + q.len
            · rw [decide_eq_true h2] at HU
              by_cases h3 : q.at_ < p.at_ + p.len
              · rw [decide_eq_true h3] at HU
                go_wp2_with fail
                go_quiet (fail)
                go_wp2_with fail
                go_ret
                have h9 : comN P (k + 1) = true := by
                  rw [HS.out, comR_iff]
                  obtain ⟨z, z1, z2⟩ := comR_iff.1 (show comR P _ (t + 1) = true from HU.out)
                  exact ⟨z, by omega, z2⟩
                exact ⟨by rw [← HM.out, comN_mono h9 (by omega)]; rfl, below_draws' HZ.out _⟩
              · rw [decide_eq_false h3] at HU
                go_wp2_with fail
                go_quiet (fail)
                go_wp2_with fail
                go_roundw
                case rel => exact ⟨t + 1, by omega, by rfl, HU, hid (below_draws' HZ.out _)⟩
                case measure => first | (simp [intOf]; done) | (simp [intOf]; omega)
            · rw [decide_eq_false h2] at HU
              have n2 : decide (p.at_ < q.at_ + q.len) = false := decide_eq_false h2
              go_wp2_with fail
              go_quiet (fail)
              go_wp2_with fail
              go_roundw
              case rel => exact ⟨t + 1, by omega, by rfl, HU, hid (below_draws' HZ.out _)⟩
              case measure => first | (simp [intOf]; done) | (simp [intOf]; omega)
          · have q1 := str_ne h1
            rw [decide_eq_false h1] at HU
            clear h1
            generalize p.pack = x at *
            generalize q.pack = y at *
            go_wp2_with fail
            go_quiet (fail)
            go_wp2_with fail
            go_roundw
            case rel => exact ⟨t + 1, by omega, by rfl, HU, hid (below_draws' HZ.out _)⟩
            case measure => first | (simp [intOf]; done) | (simp [intOf]; omega)
        · obtain rfl : k = t := by omega
          have i1 : ¬ ((k : Int) < (k : Int)) := by omega
          go_wp2_with fail
          go_roundw
          case rel => exact ⟨k + 1, by omega, by rfl, hid (HS.out.trans HT.out), HZ⟩
          case measure => first | (simp [intOf]; done) | (simp [intOf]; omega)
    · obtain rfl : m = k := by omega
      have j1 : ¬ ((m : Int) < (m : Int)) := by omega
      go_wp2_with fail
      go_ret
      exact ⟨by rw [HR.out]; rfl, HB.out⟩
end Go.Proofs.Ytknddbmnciodaaa
