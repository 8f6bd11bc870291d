/- The contracts of the document's Ends and Cut. -/
import Derived.Test.YtjcanlopilifoaaCut
namespace Go.Proofs.Ytjcanlopilifoaa
open Go.RowKit
open Gr
set_option linter.unusedVariables false
set_option maxHeartbeats 4000000 in
theorem refEnds_any (s : ByteArray) (hs : s.size ≤ 100000) (w : World) :
    Calls Try.prog 13 #[.string s] w fun e w' => ∃ v, e = .returned v ∧ w'.ownsRow w.heap.size 3 1 v (ends (bs s)).length ((ends (bs s)).map nI) ∧ Below w.heap.size w w' := by
  obtain ⟨i0, hi, hz0, hz1, hz2⟩ := info_parts Try.info3
  go_enter Try.func13, Try.ntmps13
  go_wp2_with fail
  go_loopw [3, 4, 5, 6] (fun v3 v4 v5 v6 wr => ∃ (k b h : Nat) (pre : List Nat), k ≤ s.size ∧ v4 = .int .u64 (h : Int) ∧ v5 = .int .i64 ((k - b : Nat) : Int) ∧ v6 = .int .i64 (k : Int) ∧ pre.length ≤ k ∧ At (bs s) pre b h k ∧ wr.ownsRow w.heap.size 3 1 v3 pre.length (pre.map nI) ∧ Below w.heap.size w wr) (fun _ _ _ v6 _ => s.size - (intOf v6).toNat)
  case atStart => exact ⟨0, 0, 0, [], Nat.zero_le _, rfl, rfl, rfl, Nat.le_refl _, At.start _, World.ownsRow_nil _ _ _ _, Below.refl _ _⟩
  case round =>
    obtain ⟨k, b, h, pre, hk, rfl, rfl, rfl, hpl, hA, hrow, hB⟩ := hrel
    by_cases hlt : k < s.size
    · have x0 : s[k].toNat < 256 := s[k].toNat_lt
      have i0' : (0 : Int) ≤ (k : Int) := by omega
      have i1 : (k : Int) < (s.size : Int) := by omega
      have hd := bs_drop s k hlt
      have C1 := fun W => refRoll_any h s[k].toNat x0 W
      obtain ⟨y, hy⟩ : ∃ y, y = roll h s[k].toNat := ⟨_, rfl⟩
      rw [← hy] at C1
      have hle := hA.le
      obtain ⟨m, hm⟩ : ∃ m, m = k - b := ⟨_, rfl⟩
      have wm : IntKind.i64.wrap ((m : Int) + 1) = ((m + 1 : Nat) : Int) := by rw [IntKind.wrap_i64]; omega
      have wk : IntKind.i64.wrap ((k : Int) + 1) = ((k + 1 : Nat) : Int) := by rw [IntKind.wrap_i64]; omega
      have ws : IntKind.i64.wrap ((s.size : Int) - 1) = (s.size : Int) - 1 := by rw [IntKind.wrap_i64]; omega
      have E : (y : Int) / 2 ^ 56 = ((y / 72057594037927936 : Nat) : Int) := by
        rw [show (2 : Int) ^ 56 = ((72057594037927936 : Nat) : Int) by decide +kernel, Int.natCast_ediv]
      have hml : pre.length + 1 ≤ maxLen := by
        have : 1000000 ≤ maxLen := by decide
        omega
      have hmk : m + 1 = k + 1 - b := by omega
      have HA := hid hA
      have HYY := hid hy
      have HD := hid hd
      have HL := hid hle
      have HM := hid hm
      have HMK := hid hmk
      rw [← hm]
      clear hA hy hd hle hm hmk
      go_wp2_with fail
      refine (C1 _).mono ?_
      rintro e w1 ⟨rfl, rfl⟩
      clear C1
      generalize u3 = v3 at *
      by_cases h1 : m + 1 = 1024
      · have HN : Hid _ := HA.out.yes HD.out (by rw [← HYY.out, ← HMK.out]; unfold full; simp [h1])
        have q1 : ((m : Int) + 1 == 1024) = true := by simp; omega
        go_wp2_with (at_builtin; refine wpList_append_own _ rfl _ _ 27 rfl w.heap.size 3 i0 (.int .i64 0) 1 8 Try.underlying27 hi hz0 hz1 hz2 rfl (by decide) v3 pre.length _ rfl (hrow.alloc _) ⟨w1.heap.size, 0, none⟩ 1 1 [.int .i64 ((k : Int) + 1)] rfl rfl (cell_one_new _ _ _) (by simp [Value.oneCell']) (by omega) (by omega) (by have := hB.size; simp; omega) ?_; intro v' w2 hown' hgrow _)
        have hB2 : Below w.heap.size w w2 := (hB.alloc hB.size _).grown hgrow (by have := hB.size; simp; omega) (fun j hj => (hrow.lt j hj).1)
        go_roundw
        case rel => exact ⟨k + 1, k + 1, 0, pre ++ [k + 1], by omega, rfl, by simp, by rfl, by simp; omega, HN.out.1, by rw [List.length_append, List.map_append]; exact hown', hB2⟩
        case measure => first | (simp [intOf]; done) | (simp [intOf]; omega)
      · by_cases h2 : 64 ≤ m + 1
        · by_cases h3 : y / 72057594037927936 = 0
          · have HN : Hid _ := HA.out.yes HD.out (by rw [← HYY.out, ← HMK.out]; unfold full; simp [h2, h3])
            have q1 : ((m : Int) + 1 == 1024) = false := by simp; omega
            have q2 : (64 : Int) ≤ (m : Int) + 1 := by omega
            have q3 : (y : Int) / 72057594037927936 = 0 := by omega
            go_wp2_with (at_builtin; refine wpList_append_own _ rfl _ _ 27 rfl w.heap.size 3 i0 (.int .i64 0) 1 8 Try.underlying27 hi hz0 hz1 hz2 rfl (by decide) v3 pre.length _ rfl (hrow.alloc _) ⟨w1.heap.size, 0, none⟩ 1 1 [.int .i64 ((k : Int) + 1)] rfl rfl (cell_one_new _ _ _) (by simp [Value.oneCell']) (by omega) (by omega) (by have := hB.size; simp; omega) ?_; intro v' w2 hown' hgrow _)
            have hB2 : Below w.heap.size w w2 := (hB.alloc hB.size _).grown hgrow (by have := hB.size; simp; omega) (fun j hj => (hrow.lt j hj).1)
            go_roundw
            case rel => exact ⟨k + 1, k + 1, 0, pre ++ [k + 1], by omega, rfl, by simp, by rfl, by simp; omega, HN.out.1, by rw [List.length_append, List.map_append]; exact hown', hB2⟩
            case measure => first | (simp [intOf]; done) | (simp [intOf]; omega)
          · by_cases h4 : k + 1 = s.size
            · have ht : ((bs s).drop (k + 1)).isEmpty = true := by rw [List.drop_eq_nil_of_le (by rw [bs_length]; omega)]; rfl
              have HN : Hid _ := HA.out.yes HD.out (by rw [ht, Bool.or_true])
              have q1 : ((m : Int) + 1 == 1024) = false := by simp; omega
              have q2 : (64 : Int) ≤ (m : Int) + 1 := by omega
              have q3 : ((y : Int) / 72057594037927936 == 0) = false := by simp; omega
              have q4 : ((k : Int) == (s.size : Int) - 1) = true := by simp; omega
              clear h4
              go_wp2_with (at_builtin; refine wpList_append_own _ rfl _ _ 27 rfl w.heap.size 3 i0 (.int .i64 0) 1 8 Try.underlying27 hi hz0 hz1 hz2 rfl (by decide) v3 pre.length _ rfl (hrow.alloc _) ⟨w1.heap.size, 0, none⟩ 1 1 [.int .i64 ((k : Int) + 1)] rfl rfl (cell_one_new _ _ _) (by simp [Value.oneCell']) (by omega) (by omega) (by have := hB.size; simp; omega) ?_; intro v' w2 hown' hgrow _)
              have hB2 : Below w.heap.size w w2 := (hB.alloc hB.size _).grown hgrow (by have := hB.size; simp; omega) (fun j hj => (hrow.lt j hj).1)
              go_roundw
              case rel => exact ⟨k + 1, k + 1, 0, pre ++ [k + 1], by omega, rfl, by simp, by rfl, by simp; omega, HN.out.1, by rw [List.length_append, List.map_append]; exact hown', hB2⟩
              case measure => first | (simp [intOf]; done) | (simp [intOf]; omega)
            · have ht : ((bs s).drop (k + 1)).isEmpty = false := by rw [bs_drop s (k + 1) (by omega)]; rfl
              have HN : Hid _ := HA.out.no HD.out (by rw [← HYY.out, ← HMK.out]; unfold full; simp [show ¬ m = 1023 by omega, h2, h3, ht])
              have q1 : ((m : Int) + 1 == 1024) = false := by simp; omega
              have q2 : (64 : Int) ≤ (m : Int) + 1 := by omega
              have q3 : ((y : Int) / 72057594037927936 == 0) = false := by simp; omega
              have q4 : ((k : Int) == (s.size : Int) - 1) = false := by simp; omega
              rw [← HYY.out] at HN
              go_wp2_with fail
              go_roundw
              case rel => exact ⟨k + 1, b, y, pre, by omega, rfl, by rw [← HMK.out]; rfl, by rfl, by omega, HN.out, hrow, hB⟩
              case measure => first | (simp [intOf]; done) | (simp [intOf]; omega)
        · by_cases h4 : k + 1 = s.size
          · have ht : ((bs s).drop (k + 1)).isEmpty = true := by rw [List.drop_eq_nil_of_le (by rw [bs_length]; omega)]; rfl
            have HN : Hid _ := HA.out.yes HD.out (by rw [ht, Bool.or_true])
            have q1 : ((m : Int) + 1 == 1024) = false := by simp; omega
            have q2 : (m : Int) + 1 < 64 := by omega
            have q4 : ((k : Int) == (s.size : Int) - 1) = true := by simp; omega
            clear h4
            go_wp2_with (at_builtin; refine wpList_append_own _ rfl _ _ 27 rfl w.heap.size 3 i0 (.int .i64 0) 1 8 Try.underlying27 hi hz0 hz1 hz2 rfl (by decide) v3 pre.length _ rfl (hrow.alloc _) ⟨w1.heap.size, 0, none⟩ 1 1 [.int .i64 ((k : Int) + 1)] rfl rfl (cell_one_new _ _ _) (by simp [Value.oneCell']) (by omega) (by omega) (by have := hB.size; simp; omega) ?_; intro v' w2 hown' hgrow _)
            have hB2 : Below w.heap.size w w2 := (hB.alloc hB.size _).grown hgrow (by have := hB.size; simp; omega) (fun j hj => (hrow.lt j hj).1)
            go_roundw
            case rel => exact ⟨k + 1, k + 1, 0, pre ++ [k + 1], by omega, rfl, by simp, by rfl, by simp; omega, HN.out.1, by rw [List.length_append, List.map_append]; exact hown', hB2⟩
            case measure => first | (simp [intOf]; done) | (simp [intOf]; omega)
          · have ht : ((bs s).drop (k + 1)).isEmpty = false := by rw [bs_drop s (k + 1) (by omega)]; rfl
            have HN : Hid _ := HA.out.no HD.out (by rw [← HYY.out, ← HMK.out]; unfold full; simp [show ¬ m = 1023 by omega, h2, ht])
            have q1 : ((m : Int) + 1 == 1024) = false := by simp; omega
            have q2 : (m : Int) + 1 < 64 := by omega
            have q4 : ((k : Int) == (s.size : Int) - 1) = false := by simp; omega
            rw [← HYY.out] at HN
            go_wp2_with fail
            go_roundw
            case rel => exact ⟨k + 1, b, y, pre, by omega, rfl, by rw [← HMK.out]; rfl, by rfl, by omega, HN.out, hrow, hB⟩
            case measure => first | (simp [intOf]; done) | (simp [intOf]; omega)
    · obtain rfl : k = s.size := by omega
      have q1 : ¬ ((s.size : Int) < (s.size : Int)) := by omega
      have hf : pre = ends (bs s) := At.last (b := b) (h := h) (by rw [bs_length]; exact hA)
      subst hf
      clear hA hpl
      go_wp2_with fail
      go_ret
      exact ⟨_, rfl, hrow, hB⟩
/-- how a row of single cells is written out -/
theorem row_form {W : World} {b : Nat} {e : TypeId} {v : Value} {n : Nat} {xs : List Value} (h : W.ownsRow b e 1 v n xs) : ∃ A cap, v = .slice A n cap ∧ xs.length = n ∧ ∀ j, j < n → ∃ g, A = some ⟨g, 0, none⟩ ∧ b ≤ g ∧ g < W.heap.size ∧ W.cell? ⟨g, j, none⟩ = xs[j]? ∧ W.frozen? ⟨g, j, none⟩ = false := by
  rcases h.2 with ⟨h1, h2⟩ | ⟨g, cap, cur, hv, hbg, hh, h1, h2, h3, h4⟩
  · exact ⟨none, 0, by rw [h1, h2], by have := h.1; omega, fun j hj => by omega⟩
  · refine ⟨some ⟨g, 0, none⟩, cap, hv, by have := h.1; omega, fun j hj => ⟨g, rfl, hbg, (Array.getElem?_eq_some_iff.1 hh).1, ?_, ?_⟩⟩
    · rw [← h4, Nat.mul_one, List.getElem?_take_of_lt hj]
      simp [World.cell?, hh]
    · simp [World.frozen?, hh]
theorem take_next (l : List Nat) (k : Nat) (h : k < l.length) : l.take (k + 1) = l.take k ++ [l[k]] := List.take_succ_eq_append_getElem h
theorem take_pre (l : List Nat) (k : Nat) (h : k < l.length) : l.take k ++ [l[k]] <+: l := by rw [← take_next l k h]; exact List.take_prefix _ _
set_option maxHeartbeats 4000000 in
theorem refCut_any (s : ByteArray) (hs : s.size ≤ 100000) (w : World) :
    Calls Try.prog 10 #[.string s] w fun e w' => ∃ v, e = .returned v ∧ w'.ownsRow w.heap.size 9 1 v (chunks s).length ((chunks s).map Value.string) ∧ Below w.heap.size w w' := by
  obtain ⟨i0, hi, hz0, hz1, hz2⟩ := info_parts Try.info9
  have hel := ends_len s
  have HCL := hid (chunks_len s)
  obtain ⟨E, hE⟩ : ∃ E, E = ends (bs s) := ⟨_, rfl⟩
  have HE := hid hE
  rw [← hE] at hel
  have HR := fun W => refEnds_any s hs W
  rw [← hE] at HR
  clear hE
  go_enter Try.func10, Try.ntmps10
  go_wp2_with fail
  refine (HR _).mono ?_
  rintro e w1 ⟨v, rfl, hrow, hB⟩
  obtain ⟨A, cap, rfl, hxl, hcells⟩ := row_form hrow
  have HB := hid hB
  have hsz1 := hB.size
  have HCE := hid hcells
  clear hrow hB HR hxl hcells
  obtain ⟨n, hn⟩ : ∃ n, n = E.length := ⟨_, rfl⟩
  rw [← hn] at hel HCE ⊢
  have HN := hid hn
  clear hn
  go_wp2_with fail
  go_loopw [3, 4, 6] (fun v3 v4 v6 wr => ∃ k : Nat, k ≤ n ∧ v4 = .int .i64 (lastE 0 (E.take k) : Int) ∧ v6 = .int .i64 (k : Int) ∧ wr.ownsRow w1.heap.size 9 1 v3 k ((cuts s 0 (E.take k)).map Value.string) ∧ Below w1.heap.size w1 wr) (fun _ _ v6 _ => n - (intOf v6).toNat)
  case atStart => exact ⟨0, Nat.zero_le _, rfl, rfl, World.ownsRow_nil _ _ _ _, Below.refl _ _⟩
  case round =>
    obtain ⟨k, hk, rfl, rfl, hrow, hB⟩ := hrel
    by_cases hlt : k < n
    · obtain ⟨g, rfl, hg1, hg2, hg3, hg4⟩ := HCE.out k hlt
      have hkE : k < E.length := by have := HN.out; omega
      have hnx := ends_next (l := bs s) (pre := E.take k) (x := E[k]) (by rw [← HE.out]; exact take_pre E k hkE)
      rw [bs_length] at hnx
      obtain ⟨hx1, hx2, _⟩ := hnx
      have c0 : wr.cell? ⟨g, k, none⟩ = some (.int .i64 (E[k] : Int)) := by
        rw [hB.cell (p := ⟨g, k, none⟩) hg2, hg3]
        simp [nI, List.getElem?_eq_getElem hkE]
      have HT := hid (take_next E k hkE)
      obtain ⟨x, hx⟩ : ∃ x, x = E[k] := ⟨_, rfl⟩
      obtain ⟨b, hb⟩ : ∃ b, b = lastE 0 (E.take k) := ⟨_, rfl⟩
      have HBE := hid hb
      rw [← hx] at c0 hx1 hx2 HT
      rw [← hb] at hx1 ⊢
      have i1 : (k : Int) < (n : Int) := by omega
      have q1 : (b : Int) ≤ (x : Int) := by omega
      have q2 : (x : Int) ≤ (s.size : Int) := by omega
      have wk : IntKind.i64.wrap ((k : Int) + 1) = ((k + 1 : Nat) : Int) := by rw [IntKind.wrap_i64]; omega
      have hml : k + 1 ≤ maxLen := by
        have : 1000000 ≤ maxLen := by decide
        omega
      clear hx hb hg3
      generalize u3 = v3 at *
      go_wp2_with (at_builtin; refine wpList_append_own _ rfl _ _ 24 rfl w1.heap.size 9 i0 (.string ⟨#[]⟩) 1 16 Try.underlying24 hi hz0 hz1 hz2 rfl (by decide) v3 k _ rfl (hrow.alloc _) ⟨wr.heap.size, 0, none⟩ 1 1 [.string (s.extract b x)] rfl rfl (cell_one_new _ _ _) (by simp [Value.oneCell']) (by omega) (by omega) (by have := hB.size; simp; omega) ?_; intro v' w2 hown' hgrow _; have hB2 : Below w1.heap.size w1 w2 := (hB.alloc hB.size _).grown hgrow (by have := hB.size; simp; omega) (fun j hj => (hrow.lt j hj).1); have c1 : w2.cell? ⟨g, k, none⟩ = some (.int .i64 (x : Int)) := by { rw [hB2.cell (p := ⟨g, k, none⟩) hg2, ← hB.cell (p := ⟨g, k, none⟩) hg2]; exact c0 })
      go_roundw
      case rel => exact ⟨k + 1, by omega, by rw [HT.out, lastE_snoc], by rfl, by rw [HT.out, cuts_snoc, List.map_append, ← HBE.out]; exact hown', hB2⟩
      case measure => first | (simp [intOf]; done) | (simp [intOf]; omega)
    · obtain rfl : k = n := by omega
      have q1 : ¬ ((k : Int) < (k : Int)) := by omega
      have HF : Hid (wr.ownsRow w.heap.size 9 1 u3 (chunks s).length ((chunks s).map Value.string)) := by
        refine hid ?_
        rw [HCL.out, ← HE.out, ← HN.out]
        refine row_mono ?_ hsz1
        rw [List.take_of_length_le (by rw [← HN.out]; exact Nat.le_refl _), HE.out] at hrow
        exact hrow
      have HBB := hid (HB.out.trans (hB.mono hsz1))
      clear hrow hB HCE
      go_wp2_with fail
      go_ret
      exact ⟨_, rfl, HF.out, HBB.out⟩
end Go.Proofs.Ytjcanlopilifoaa
