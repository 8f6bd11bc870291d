/- Small functions of the program and of the document: what a digest is, what a place may be, whether texts rise, where a text stands in a row. -/
import Derived.Test.YtknddbmnciodaaaGreatRd
import Derived.WalkKit
import Derived.BigQuiet
import Derived.Shelf.SlSorted.Search
import Derived.Lib.Bytealg
namespace Go.Proofs.YtknddbmnciodaaaGreat
open Go.RowKit
open Ix
set_option linter.unusedVariables false
theorem bytesLess_eq : ∀ (x y : List UInt8), Op.bytesLess x y = decide (x < y)
  | [], [] => by simp [Op.bytesLess]
  | _ :: _, [] => by simp [Op.bytesLess]
  | [], _ :: _ => by simp [Op.bytesLess]
  | a :: r, b :: s => by
    rw [Op.bytesLess, bytesLess_eq r s, Bool.eq_iff_iff]
    simp [List.cons_lt_cons_iff]
theorem bl (a b : ByteArray) : Op.bytesLess a.toList b.toList = lt a b := by
  rw [Lib.toList_data, Lib.toList_data, bytesLess_eq]; rfl
theorem eqL (a b : ByteArray) : (a.toList == b.toList) = decide (a = b) := by
  rw [Lib.toList_data, Lib.toList_data, Bool.eq_iff_iff, beq_iff_eq, decide_eq_true_eq]
  exact ⟨fun h => ba_ext h, fun h => by rw [h]⟩
theorem str_ne {a b : ByteArray} (h : a ≠ b) : (a.toList == b.toList) = false := by rw [eqL]; simpa using h
theorem str_eq {a b : ByteArray} (h : a = b) : (a.toList == b.toList) = true := by rw [eqL]; simpa using h
theorem size32 (n : Nat) : ((n : Int) == 32) = decide (n = 32) := by
  rw [Bool.eq_iff_iff, beq_iff_eq, decide_eq_true_eq]; omega
theorem noDigest_any (s : ByteArray) (w : World) : Calls Tryz.prog 28 #[.string s] w fun e w' => e = .returned (.bool (decide (s.size ≠ 32))) ∧ w' = w := by
  have q := size32 s.size
  go_enter Tryz.func28, Tryz.ntmps28
  go_wp2
  go_ret
  exact ⟨by show Ending.returned (.bool (!((s.size : Int) == 32))) = _; rw [q, decide_not], rfl⟩
theorem mayP_dec (p : Pl) : decide (mayP p) = (decide (p.pack.size = 32) && (decide (0 ≤ p.at_) && (decide (p.at_ ≤ 32768) && (decide (0 < p.len) && (decide (p.len ≤ 16384) && decide (p.at_ + p.len ≤ 32768)))))) := by
  rw [Bool.eq_iff_iff, decide_eq_true_eq]; unfold mayP; simp only [Bool.and_eq_true, decide_eq_true_eq]
set_option maxHeartbeats 4000000 in
theorem noPlace_any (p : Pl) (w : World) : Calls Tryz.prog 31 #[.agg (pl3 p).toArray] w fun e w' => e = .returned (.bool (!decide (mayP p))) ∧ Below w.heap.size w w' := by
  rw [mayP_dec]
  show Calls Tryz.prog 31 #[.agg #[.string p.pack, .int .i64 p.at_, .int .i64 p.len]] w _
  have hb := (Below.refl w.heap.size w).alloc (Nat.le_refl _) (.cells #[.string p.pack, .int .i64 p.at_, .int .i64 p.len] 24)
  have q1 := size32 p.pack.size
  generalize p.at_ = a at *
  generalize p.len = l at *
  go_enter Tryz.func31, Tryz.ntmps31
  by_cases h1 : p.pack.size = 32
  · rw [h1] at q1 ⊢
    go_wp2
    all_goals (go_ret; exact ⟨by simp_all <;> omega, hb⟩)
  · rw [decide_eq_false h1] at q1 ⊢
    go_wp2
    all_goals (go_ret; exact ⟨by simp_all <;> omega, hb⟩)
/-- less, the same, greater -/
def cmpS (a b : ByteArray) : Int := if lt a b then -1 else if lt b a then 1 else 0
theorem gtr_eq (a b : ByteArray) : (!(Op.bytesLess a.toList b.toList || a.toList == b.toList)) = lt b a := by
  rw [bl, eqL]
  cases h : lt a b with
  | true => rw [lt_asymm h]; rfl
  | false =>
    by_cases e : a = b
    · subst e; simp [lt_irrefl]
    · cases h2 : lt b a with
      | true => simp [e]
      | false => exact absurd (lt_conn h h2) e
theorem isNaN_any (s : ByteArray) (w : World) : Calls Tryz.prog 46 #[.string s] w fun e w' => e = .returned (.bool false) ∧ w' = w := by
  have q := str_eq (rfl : s = s)
  go_enter Tryz.func46, Tryz.ntmps46
  go_wp2
  go_ret
  exact ⟨by simp, rfl⟩
theorem cmpStr_any (a b : ByteArray) (w : World) : Calls Tryz.prog 24 #[.string a, .string b] w fun e w' => e = .returned (.int .i64 (cmpS a b)) ∧ w' = w := by
  have C1 := fun s W => isNaN_any s W
  have h1 := bl a b
  have h2 := gtr_eq a b
  go_enter Tryz.func24, Tryz.ntmps24
  unfold cmpS
  cases h : lt a b with
  | true =>
    rw [h] at h1
    clear h2 h
    go_wp2_with (go_at_call 46; refine (C1 _ _).mono ?_; rintro e w' ⟨rfl, rfl⟩)
    go_ret
    exact ⟨rfl, rfl⟩
  | false =>
    rw [h] at h1
    clear h
    cases h3 : lt b a with
    | true =>
      rw [h3] at h2
      clear h3
      have h4 : (a.toList == b.toList) = false := by
        cases h5 : (a.toList == b.toList) with
        | false => rfl
        | true => rw [h5] at h2; simp at h2
      clear h2
      go_wp2_with (go_at_call 46; refine (C1 _ _).mono ?_; rintro e w' ⟨rfl, rfl⟩)
      go_ret
      exact ⟨rfl, rfl⟩
    | false =>
      rw [h3, h1, Bool.false_or] at h2
      have h4 : (a.toList == b.toList) = true := by simpa using h2
      clear h2 h3
      go_wp2_with (go_at_call 46; refine (C1 _ _).mono ?_; rintro e w' ⟨rfl, rfl⟩)
      go_ret
      exact ⟨rfl, rfl⟩
/-- the first of two that is not 0 -/
theorem or_any (x y : Int) (b : Nat) (w : World) (h : Has w b #[.int .i64 x, .int .i64 y] 3) : Calls Tryz.prog 50 #[.slice (some ⟨b, 0, none⟩) 2 2] w fun e w' => e = .returned (.int .i64 (if x = 0 then y else x)) ∧ w' = w := by
  have c0 : w.cell? ⟨b, 0, none⟩ = some (.int .i64 x) := by rw [h.cell]; rfl
  have c1 : w.cell? ⟨b, 1, none⟩ = some (.int .i64 y) := by rw [h.cell]; rfl
  go_enter Tryz.func50, Tryz.ntmps50
  by_cases hx : x = 0
  · have q : (x == 0) = true := by simp [hx]
    by_cases hy : y = 0
    · have q2 : (y == 0) = true := by simp [hy]
      go_wp2
      refine wp_loop_rounds 3 ?_
      rw [rounds_succ]
      go_wp2
      rw [rounds_succ]
      go_wp2
      rw [rounds_succ]
      go_wp2
      go_ret
      exact ⟨by simp, rfl⟩
    · have q2 : (y == 0) = false := by simp [hy]
      go_wp2
      refine wp_loop_rounds 3 ?_
      rw [rounds_succ]
      go_wp2
      rw [rounds_succ]
      go_wp2
      go_ret
      exact ⟨by simp, rfl⟩
  · have q : (x == 0) = false := by simp [hx]
    go_wp2
    refine wp_loop_rounds 3 ?_
    rw [rounds_succ]
    go_wp2
    go_ret
    exact ⟨by simp, rfl⟩
end Go.Proofs.YtknddbmnciodaaaGreat

