/- Small functions of the program and of the document: what a digest is, what a place may be, whether texts rise, where a text stands in a row. -/
import Derived.Test.YtknddbmnciodaaaRd
import Derived.WalkKit
import Derived.BigQuiet
import Derived.Shelf.SlSorted.Search
import Derived.Lib.Bytealg
namespace Go.Proofs.Ytknddbmnciodaaa
open Go.RowKit
open Ix
set_option linter.unusedVariables false
theorem bytesLess_eq : ∀ (x y : List UInt8), Op.bytesLess x y = decide (x < y)
  | [], [] => by simp [Op.bytesLess]
  | _ :: _, [] => by simp [Op.bytesLess]
  | [], _ :: _ => by simp [Op.bytesLess]
  | a :: r, b :: s => by
    rw [Op.bytesLess, bytesLess_eq r s, Bool.eq_iff_iff]
    simp [List.cons_lt_cons_iff]
theorem bl (a b : ByteArray) : Op.bytesLess a.toList b.toList = lt a b := by
  rw [Lib.toList_data, Lib.toList_data, bytesLess_eq]; rfl
theorem eqL (a b : ByteArray) : (a.toList == b.toList) = decide (a = b) := by
  rw [Lib.toList_data, Lib.toList_data, Bool.eq_iff_iff, beq_iff_eq, decide_eq_true_eq]
  exact ⟨fun h => ba_ext h, fun h => by rw [h]⟩
theorem str_ne {a b : ByteArray} (h : a ≠ b) : (a.toList == b.toList) = false := by rw [eqL]; simpa using h
theorem str_eq {a b : ByteArray} (h : a = b) : (a.toList == b.toList) = true := by rw [eqL]; simpa using h
theorem size32 (n : Nat) : ((n : Int) == 32) = decide (n = 32) := by
  rw [Bool.eq_iff_iff, beq_iff_eq, decide_eq_true_eq]; omega
theorem noDigest_any (s : ByteArray) (w : World) : Calls Try.prog 45 #[.string s] w fun e w' => e = .returned (.bool (decide (s.size ≠ 32))) ∧ w' = w := by
  have q := size32 s.size
  go_enter Try.func45, Try.ntmps45
  go_wp2
  go_ret
  exact ⟨by show Ending.returned (.bool (!((s.size : Int) == 32))) = _; rw [q, decide_not], rfl⟩
theorem mayP_dec (p : Pl) : decide (mayP p) = (decide (p.pack.size = 32) && (decide (0 ≤ p.at_) && (decide (p.at_ ≤ 32768) && (decide (0 < p.len) && (decide (p.len ≤ 16384) && decide (p.at_ + p.len ≤ 32768)))))) := by
  rw [Bool.eq_iff_iff, decide_eq_true_eq]; unfold mayP; simp only [Bool.and_eq_true, decide_eq_true_eq]
set_option maxHeartbeats 4000000 in
theorem mayPlace_any (p : Pl) (w : World) : Calls Try.prog 29 #[.agg (pl3 p).toArray] w fun e w' => e = .returned (.bool (decide (mayP p))) ∧ Below w.heap.size w w' := by
  rw [mayP_dec]
  show Calls Try.prog 29 #[.agg #[.string p.pack, .int .i64 p.at_, .int .i64 p.len]] w _
  have hb := (Below.refl w.heap.size w).alloc (Nat.le_refl _) (.cells #[.string p.pack, .int .i64 p.at_, .int .i64 p.len] 37)
  have q1 := size32 p.pack.size
  generalize p.at_ = a at *
  generalize p.len = l at *
  go_enter Try.func29, Try.ntmps29
  by_cases h1 : p.pack.size = 32
  · rw [h1] at q1 ⊢
    go_wp2
    all_goals (go_ret; exact ⟨by simp_all <;> omega, hb⟩)
  · rw [decide_eq_false h1] at q1 ⊢
    go_wp2
    all_goals (go_ret; exact ⟨by simp_all <;> omega, hb⟩)
set_option maxHeartbeats 4000000 in
theorem noPlace_any (p : Pl) (w : World) : Calls Try.prog 48 #[.agg (pl3 p).toArray] w fun e w' => e = .returned (.bool (!decide (mayP p))) ∧ Below w.heap.size w w' := by
  rw [mayP_dec]
  show Calls Try.prog 48 #[.agg #[.string p.pack, .int .i64 p.at_, .int .i64 p.len]] w _
  have hb := (Below.refl w.heap.size w).alloc (Nat.le_refl _) (.cells #[.string p.pack, .int .i64 p.at_, .int .i64 p.len] 37)
  have q1 := size32 p.pack.size
  generalize p.at_ = a at *
  generalize p.len = l at *
  go_enter Try.func48, Try.ntmps48
  by_cases h1 : p.pack.size = 32
  · rw [h1] at q1 ⊢
    go_wp2
    all_goals (go_ret; exact ⟨by simp_all <;> omega, hb⟩)
  · rw [decide_eq_false h1] at q1 ⊢
    go_wp2
    all_goals (go_ret; exact ⟨by simp_all <;> omega, hb⟩)
/-- less, the same, greater -/
def cmpS (a b : ByteArray) : Int := if lt a b then -1 else if lt b a then 1 else 0
theorem gtr_eq (a b : ByteArray) : (!(Op.bytesLess a.toList b.toList || a.toList == b.toList)) = lt b a := by
  rw [bl, eqL]
  cases h : lt a b with
  | true => rw [lt_asymm h]; rfl
  | false =>
    by_cases e : a = b
    · subst e; simp [lt_irrefl]
    · cases h2 : lt b a with
      | true => simp [e]
      | false => exact absurd (lt_conn h h2) e
theorem isNaN_any (s : ByteArray) (w : World) : Calls Try.prog 52 #[.string s] w fun e w' => e = .returned (.bool false) ∧ w' = w := by
  have q := str_eq (rfl : s = s)
  go_enter Try.func52, Try.ntmps52
  go_wp2
  go_ret
  exact ⟨by simp, rfl⟩
theorem cmpStr_any (a b : ByteArray) (w : World) : Calls Try.prog 26 #[.string a, .string b] w fun e w' => e = .returned (.int .i64 (cmpS a b)) ∧ w' = w := by
  have C1 := fun s W => isNaN_any s W
  have h1 := bl a b
  have h2 := gtr_eq a b
  go_enter Try.func26, Try.ntmps26
  unfold cmpS
  cases h : lt a b with
  | true =>
    rw [h] at h1
    clear h2 h
    go_wp2_with (go_at_call 52; refine (C1 _ _).mono ?_; rintro e w' ⟨rfl, rfl⟩)
    go_ret
    exact ⟨rfl, rfl⟩
  | false =>
    rw [h] at h1
    clear h
    cases h3 : lt b a with
    | true =>
      rw [h3] at h2
      clear h3
      have h4 : (a.toList == b.toList) = false := by
        cases h5 : (a.toList == b.toList) with
        | false => rfl
        | true => rw [h5] at h2; simp at h2
      clear h2
      go_wp2_with (go_at_call 52; refine (C1 _ _).mono ?_; rintro e w' ⟨rfl, rfl⟩)
      go_ret
      exact ⟨rfl, rfl⟩
    | false =>
      rw [h3, h1, Bool.false_or] at h2
      have h4 : (a.toList == b.toList) = true := by simpa using h2
      clear h2 h3
      go_wp2_with (go_at_call 52; refine (C1 _ _).mono ?_; rintro e w' ⟨rfl, rfl⟩)
      go_ret
      exact ⟨rfl, rfl⟩
/-- the first of two that is not 0 -/
theorem or_any (x y : Int) (b : Nat) (w : World) (h : Has w b #[.int .i64 x, .int .i64 y] 3) : Calls Try.prog 56 #[.slice (some ⟨b, 0, none⟩) 2 2] w fun e w' => e = .returned (.int .i64 (if x = 0 then y else x)) ∧ w' = w := by
  have c0 : w.cell? ⟨b, 0, none⟩ = some (.int .i64 x) := by rw [h.cell]; rfl
  have c1 : w.cell? ⟨b, 1, none⟩ = some (.int .i64 y) := by rw [h.cell]; rfl
  go_enter Try.func56, Try.ntmps56
  by_cases hx : x = 0
  · have q : (x == 0) = true := by simp [hx]
    by_cases hy : y = 0
    · have q2 : (y == 0) = true := by simp [hy]
      go_wp2
      refine wp_loop_rounds 3 ?_
      rw [rounds_succ]
      go_wp2
      rw [rounds_succ]
      go_wp2
      rw [rounds_succ]
      go_wp2
      go_ret
      exact ⟨by simp, rfl⟩
    · have q2 : (y == 0) = false := by simp [hy]
      go_wp2
      refine wp_loop_rounds 3 ?_
      rw [rounds_succ]
      go_wp2
      rw [rounds_succ]
      go_wp2
      go_ret
      exact ⟨by simp, rfl⟩
  · have q : (x == 0) = false := by simp [hx]
    go_wp2
    refine wp_loop_rounds 3 ?_
    rw [rounds_succ]
    go_wp2
    go_ret
    exact ⟨by simp, rfl⟩
set_option maxHeartbeats 4000000 in
/-- where a text stands in a row -/
theorem at_any (C : List ByteArray) (A : Option Addr) (c : Nat) (d : ByteArray) (hn : C.length ≤ 100000) (w : World) (hC : Tx w A C) :
    Calls Try.prog 30 #[.slice A C.length c, .string d] w fun e w' => (∃ r : Int, e = .returned (.int .i64 r) ∧ ((r = -1 ∧ d ∉ C) ∨ ∃ k : Nat, r = (k : Int) ∧ k < C.length ∧ C.getD k ⟨#[]⟩ = d ∧ ∀ j, j < k → C.getD j ⟨#[]⟩ ≠ d)) ∧ w' = w := by
  go_enter Try.func30, Try.ntmps30
  go_wp2_with fail
  go_loopw [5] (fun v5 wr => ∃ k : Nat, k ≤ C.length ∧ v5 = .int .i64 (k : Int) ∧ (∀ j, j < k → C.getD j ⟨#[]⟩ ≠ d) ∧ wr = w) (fun v5 _ => C.length - (intOf v5).toNat)
  case atStart => exact ⟨0, Nat.zero_le _, rfl, fun j hj => absurd hj (Nat.not_lt_zero _), rfl⟩
  case round =>
    obtain ⟨k, hk, rfl, hne, rfl⟩ := hrel
    have H := hid hne
    clear hne
    by_cases hlt : k < C.length
    · obtain ⟨g, o, rfl, hg, hc⟩ := hC k hlt
      have i0 : (k : Int) < (C.length : Int) := by omega
      by_cases hd : C.getD k ⟨#[]⟩ = d
      · have q := str_eq hd
        have HD := hid hd
        clear hd
        generalize C.getD k ⟨#[]⟩ = x at hc q
        go_wp2_with fail
        go_ret
        exact ⟨⟨_, rfl, .inr ⟨k, rfl, hlt, HD.out, H.out⟩⟩, rfl⟩
      · have q := str_ne hd
        have HD := hid hd
        clear hd
        generalize C.getD k ⟨#[]⟩ = x at hc q
        go_wp2_with fail
        go_roundw
        case rel =>
          refine ⟨k + 1, by omega, by go_num, fun j hj => ?_, trivial⟩
          by_cases e : j = k
          · subst e; exact HD.out
          · exact H.out j (by omega)
        case measure => first | (simp [intOf]; done) | (simp [intOf]; omega)
    · have i0 : ¬ (k : Int) < (C.length : Int) := by omega
      go_wp2_with fail
      go_ret
      refine ⟨⟨_, rfl, .inl ⟨rfl, fun hm => ?_⟩⟩, rfl⟩
      obtain ⟨j, hj, e⟩ := List.mem_iff_getElem.1 hm
      refine H.out j (by omega) ?_
      rw [List.getD_eq_getElem?_getD, List.getElem?_eq_getElem hj]; exact e
end Go.Proofs.Ytknddbmnciodaaa
