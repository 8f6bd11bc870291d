/- The contract of the document's Put. -/
import Derived.Test.YtknddbmnciodaaaMk
import Derived.Test.YtknddbmnciodaaaStand
import Derived.Deep.Cut
namespace Go.Proofs.Ytknddbmnciodaaa
open Go.RowKit
open Ix
set_option linter.unusedVariables false
theorem own_len {W : World} {b n : Nat} {e : TypeId} {v : Value} {xs : List Value} (h : W.ownsRow b e 1 v n xs) : xs.length = n := by have := h.1; omega
set_option maxRecDepth 20000 in
set_option maxHeartbeats 16000000 in
theorem put_any (l : List ByteArray) (A : Option Addr) (c : Nat) (s : ByteArray) (hr : RiseK l) (hn : l.length ≤ 100000) (w : World) (hl : Tx w A l) :
    Calls Try.prog 39 #[.slice A l.length c, .string s] w fun e w' => ∃ v, e = .returned v ∧ w'.ownsRow w.heap.size 9 1 v (putK s l).length ((putK s l).map Value.string) ∧ Below w.heap.size w w' := by
  obtain ⟨i0, hi, hz0, hz1, hz2⟩ := info_parts info9z
  have HL := hid hl
  have HR := hid hr
  have HAll := hid (fun n (h : l.length ≤ n) => putN_all s l h)
  clear hl hr
  obtain ⟨m, hm⟩ : ∃ m, m = l.length := ⟨_, rfl⟩
  have HM := hid hm
  rw [← hm] at hn ⊢
  clear hm
  have HB0 : Hid (∀ k, (putN s l k).length ≤ k + 1) := hid (fun k => by
    unfold putN
    have key : ∀ q : List ByteArray, (putK s q).length ≤ q.length + 1 := by
      intro q
      induction q with
      | nil => simp [putK]
      | cons x r ih =>
        unfold putK
        split
        · simp; omega
        · split <;> simp
    split
    · rw [List.length_take]; omega
    · have := key (l.take k); rw [List.length_take] at this; omega)
  go_enter Try.func39, Try.ntmps39
  go_wp2_with fail
  go_loopw [5, 6, 7] (fun v5 v6 v7 wr => ∃ k : Nat, k ≤ m ∧ v7 = .int .i64 (k : Int) ∧ v6 = .bool (putD s l k) ∧ Hid (wr.ownsRow w.heap.size 9 1 v5 (putN s l k).length ((putN s l k).map Value.string)) ∧ Hid (Below w.heap.size w wr)) (fun _ _ v7 _ => m - (intOf v7).toNat)
  case atStart => exact ⟨0, Nat.zero_le _, rfl, by rw [(putN_zero s l).2], by rw [(putN_zero s l).1]; exact hid (World.ownsRow_nil _ _ _ _), hid (Below.refl _ _)⟩
  case round =>
    obtain ⟨k, hk, rfl, rfl, HO, HB⟩ := hrel
    by_cases hlt : k < m
    · have hlt1 : k < l.length := by rw [← HM.out]; exact hlt
      obtain ⟨g, o, rfl, hg, c0⟩ := tx_cell HL.out HB.out hlt1
      have hx := get_of (⟨#[]⟩ : ByteArray) hlt1
      have j1 : (k : Int) < (m : Int) := by omega
      have j0 : (0 : Int) ≤ (k : Int) := by omega
      have wk : IntKind.i64.wrap ((k : Int) + 1) = ((k + 1 : Nat) : Int) := by rw [IntKind.wrap_i64]; omega
      have hpn := HB0.out k
      have hgs : g < wr.heap.size := Nat.lt_of_lt_of_le hg HB.out.size
      have hbs := HB.out.size
      have HG : Hid (∀ W, Below w.heap.size w W → W.cell? ⟨g, o + k, none⟩ = some (.string (l.getD k ⟨#[]⟩))) := hid (fun W hW => by
        obtain ⟨g9, o9, e9, _, c9⟩ := tx_cell HL.out hW hlt1
        obtain ⟨rfl, rfl⟩ : g9 = g ∧ o9 = o := by simp at e9; exact ⟨e9.1.symm, e9.2.symm⟩
        exact c9)
      cases hd : putD s l k with
      | true =>
        obtain ⟨h1, h2, h3⟩ := putN_past (s := s) HR.out hx hd
        have q1 := str_ne h1
        have H2 := hid h2
        have H3 := hid h3
        have hcx : ∀ W, wr.grownBy W none → True := fun _ _ => trivial
        have hO := HO.out
        clear h1 h2 h3 hd hx HO hcx
        generalize l.getD k ⟨#[]⟩ = x at *
        generalize putN s l k = pn at *
        have c1 : (wr.alloc (.cells #[.string x] 9)).cell? ⟨wr.heap.size, 0, none⟩ = some (.string x) := by simp
        go_wp2_with (at_builtin; refine wpList_append_own _ rfl _ _ 25 rfl w.heap.size 9 i0 (.string ⟨#[]⟩) 1 16 Try.underlying25 hi hz0 hz1 hz2 rfl (by decide) u5 pn.length _ rfl (hO.alloc _) ⟨wr.heap.size, 0, none⟩ 1 1 [.string x] rfl rfl (cell_one_new _ _ _) (by simp [Value.oneCell']) (by unfold maxLen; omega) (by omega) (by simp; omega) ?_; intro v' w2 hown' hgrow _)
        have HB2 := hid ((HB.out.alloc HB.out.size _).grown hgrow (by simp; omega) (fun j hj => (hO.lt j hj).1))
        have HO2 := hid hown'
        clear hown' hgrow hO
        go_roundw
        case rel => exact ⟨k + 1, by omega, by rfl, by rw [H3.out], by rw [H2.out, List.length_append, List.map_append]; exact HO2, HB2⟩
        case measure => first | (simp [intOf]; done) | (simp [intOf]; omega)
      | false =>
        have hb1 := bl (l.getD k ⟨#[]⟩) s
        have hO := HO.out
        cases hlx : lt (l.getD k ⟨#[]⟩) s with
        | true =>
          obtain ⟨h2, h3⟩ := putN_low (s := s) hx hd hlx
          have q1 := str_ne (lt_ne hlx)
          rw [hlx] at hb1
          have H2 := hid h2
          have H3 := hid h3
          clear h2 h3 hd hx HO hlx
          generalize l.getD k ⟨#[]⟩ = x at *
          generalize putN s l k = pn at *
          go_wp2_with (at_builtin; refine wpList_append_own _ rfl _ _ 25 rfl w.heap.size 9 i0 (.string ⟨#[]⟩) 1 16 Try.underlying25 hi hz0 hz1 hz2 rfl (by decide) u5 (pn.length) _ rfl (hO.alloc _) ⟨wr.heap.size, 0, none⟩ 1 1 [.string x] rfl rfl (cell_one_new _ _ _) (by simp [Value.oneCell']) (by unfold maxLen; omega) (by omega) (by simp; omega) ?_; intro v' w2 hown' hgrow _)
          have HB2 := hid ((HB.out.alloc HB.out.size _).grown hgrow (by simp; omega) (fun j hj => (hO.lt j hj).1))
          have HO2 := hid hown'
          clear hown' hgrow hO
          go_roundw
          case rel => exact ⟨k + 1, by omega, by rfl, by rw [H3.out], by rw [H2.out, List.length_append, List.map_append]; exact HO2, HB2⟩
          case measure => first | (simp [intOf]; done) | (simp [intOf]; omega)
        | false =>
          rw [hlx] at hb1
          by_cases hxs : l.getD k ⟨#[]⟩ = s
          · obtain ⟨h2, h3⟩ := putN_eq (s := s) HR.out hx hd hxs
            have q1 := str_eq hxs
            have H2 := hid h2
            have H3 := hid h3
            clear h2 h3 hd hx HO hlx hxs
            generalize l.getD k ⟨#[]⟩ = x at *
            generalize putN s l k = pn at *
            go_upto_region 9 with (at_builtin; refine wpList_append_own _ rfl _ _ 25 rfl w.heap.size 9 i0 (.string ⟨#[]⟩) 1 16 Try.underlying25 hi hz0 hz1 hz2 rfl (by decide) u5 (pn.length) _ rfl (hO.alloc _) ⟨wr.heap.size, 0, none⟩ 1 1 [.string s] rfl rfl (cell_one_new _ _ _) (by simp [Value.oneCell']) (by unfold maxLen; omega) (by omega) (by simp; omega) ?_; intro v' w2 hown' hgrow _)
            have HB2 := hid ((HB.out.alloc HB.out.size _).grown hgrow (by simp; omega) (fun j hj => (hO.lt j hj).1))
            have HO2 := hid hown'
            have c2 : w2.cell? ⟨g, o + k, none⟩ = some (.string x) := HG.out _ HB2.out
            clear hown' hgrow hO c0
            go_wp2_with fail
            go_roundw
            case rel => exact ⟨k + 1, by omega, by rfl, by rw [H3.out], by rw [H2.out, List.length_append, List.map_append]; exact HO2, HB2⟩
            case measure => first | (simp [intOf]; done) | (simp [intOf]; omega)
          · obtain ⟨h2, h3⟩ := putN_here (s := s) HR.out hx hd hlx hxs
            have q1 := str_ne hxs
            have H2 := hid h2
            have H3 := hid h3
            clear h2 h3 hd hx HO hlx hxs
            generalize l.getD k ⟨#[]⟩ = x at *
            generalize putN s l k = pn at *
            go_upto_region 9 with (at_builtin; refine wpList_append_own _ rfl _ _ 25 rfl w.heap.size 9 i0 (.string ⟨#[]⟩) 1 16 Try.underlying25 hi hz0 hz1 hz2 rfl (by decide) u5 (pn.length) _ rfl (hO.alloc _) ⟨wr.heap.size, 0, none⟩ 1 1 [.string s] rfl rfl (cell_one_new _ _ _) (by simp [Value.oneCell']) (by unfold maxLen; omega) (by omega) (by simp; omega) ?_; intro v' w2 hown' hgrow _)
            have HB2 := hid ((HB.out.alloc HB.out.size _).grown hgrow (by simp; omega) (fun j hj => (hO.lt j hj).1))
            have hbs2 := HB2.out.size
            have c2 : w2.cell? ⟨g, o + k, none⟩ = some (.string x) := HG.out _ HB2.out
            clear hgrow hO c0
            go_wp2_with (at_builtin; refine wpList_append_own _ rfl _ _ 25 rfl w.heap.size 9 i0 (.string ⟨#[]⟩) 1 16 Try.underlying25 hi hz0 hz1 hz2 rfl (by decide) v' (pn.length + 1) _ rfl (hown'.alloc _) ⟨w2.heap.size, 0, none⟩ 1 1 [.string x] rfl rfl (cell_one_new _ _ _) (by simp [Value.oneCell']) (by unfold maxLen; omega) (by omega) (by simp; omega) ?_; intro v3 w3 hown3 hgrow3 _)
            have HB3 := hid ((HB2.out.alloc HB2.out.size _).grown hgrow3 (by simp; omega) (fun j hj => (hown'.lt j hj).1))
            have HO3 := hid hown3
            clear hown' hown3 hgrow3 c2
            go_roundw
            case rel => exact ⟨k + 1, by omega, by rfl, by rw [H3.out], by rw [H2.out, List.length_append, List.length_append, List.map_append, List.map_append]; exact HO3, HB3⟩
            case measure => first | (simp [intOf]; done) | (simp [intOf]; omega)
    · obtain rfl : m = k := by omega
      have j1 : ¬ ((m : Int) < (m : Int)) := by omega
      have hall := HAll.out m (by rw [HM.out]; exact Nat.le_refl _)
      have hpn := HB0.out m
      have hbs := HB.out.size
      have hO := HO.out
      cases hd : putD s l m with
      | true =>
        rw [hd, if_pos rfl] at hall
        have HALL := hid hall
        clear hd hall hO
        go_wp2_with fail
        go_ret
        exact ⟨_, rfl, by rw [← HALL.out]; exact HO.out, HB.out⟩
      | false =>
        rw [hd, if_neg (by decide)] at hall
        have HALL := hid hall
        clear hd hall HO
        generalize putN s l m = pn at *
        go_wp2_with (at_builtin; refine wpList_append_own _ rfl _ _ 25 rfl w.heap.size 9 i0 (.string ⟨#[]⟩) 1 16 Try.underlying25 hi hz0 hz1 hz2 rfl (by decide) u5 (pn.length) _ rfl (hO.alloc _) ⟨wr.heap.size, 0, none⟩ 1 1 [.string s] rfl rfl (cell_one_new _ _ _) (by simp [Value.oneCell']) (by unfold maxLen; omega) (by omega) (by simp; omega) ?_; intro v' w2 hown' hgrow _)
        have HB2 := hid ((HB.out.alloc HB.out.size _).grown hgrow (by simp; omega) (fun j hj => (hO.lt j hj).1))
        have HO2 := hid hown'
        clear hown' hgrow hO
        go_ret
        exact ⟨_, rfl, by rw [← HALL.out, List.length_append, List.map_append]; exact HO2.out, HB2.out⟩
end Go.Proofs.Ytknddbmnciodaaa
