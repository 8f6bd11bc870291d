/- The laws' small functions: rows that are held against each other and written over, a byte so often, the first example. -/
import Derived.Test.YtjcanlopilifoaaRef
namespace Go.Proofs.Ytjcanlopilifoaa
open Go.RowKit
open Gr
set_option linter.unusedVariables false
set_option maxHeartbeats 4000000 in
theorem ints_any {W : World} {ba bb : Nat} {va vb : Value} {l : List Nat} (hl : l.length ≤ 1000000) (ha : W.ownsRow ba 3 1 va l.length (l.map nI)) (hb : W.ownsRow bb 3 1 vb l.length (l.map nI)) (hsep : ∀ k, va.ownBlock = some k → k < bb) :
    Calls Try.prog 11 #[va, vb] W fun e w' => e = .returned (.bool true) ∧ Below ba W w' := by
  obtain ⟨A, ca, rfl, _, hA⟩ := row_form ha
  obtain ⟨B, cb, rfl, _, hB⟩ := row_form hb
  obtain ⟨n, hn⟩ : ∃ n, n = l.length := ⟨_, rfl⟩
  rw [← hn] at hl hA hB ⊢
  have HN := hid hn
  have HA := hid hA
  have HB := hid hB
  have HS := hid hsep
  clear hn ha hb hA hB hsep
  go_enter Try.func11, Try.ntmps11
  go_wp2_with fail
  go_loopw [5] (fun v5 wr => ∃ k : Nat, k ≤ n ∧ v5 = .int .i64 (k : Int) ∧ Below ba W wr ∧ ∀ j, j < n → (k ≤ j → ∀ g, A = some ⟨g, 0, none⟩ → wr.cell? ⟨g, j, none⟩ = some (nI (l.getD j 0)) ∧ wr.frozen? ⟨g, j, none⟩ = false) ∧ (∀ g, B = some ⟨g, 0, none⟩ → wr.cell? ⟨g, j, none⟩ = some (nI (l.getD j 0)))) (fun v5 _ => n - (intOf v5).toNat)
  case atStart =>
    refine ⟨0, Nat.zero_le _, rfl, Below.refl _ _, fun j hj => ⟨fun _ g hg => ?_, fun g hg => ?_⟩⟩
    · obtain ⟨g', h1, _, _, h2, h3⟩ := HA.out j hj
      have := HN.out
      rw [h1] at hg; cases hg
      refine ⟨?_, h3⟩
      rw [h2, List.getElem?_map, List.getD_eq_getElem?_getD, List.getElem?_eq_getElem (by omega)]; rfl
    · obtain ⟨g', h1, _, _, h2, h3⟩ := HB.out j hj
      have := HN.out
      rw [h1] at hg; cases hg
      rw [h2, List.getElem?_map, List.getD_eq_getElem?_getD, List.getElem?_eq_getElem (by omega)]; rfl
  case round =>
    obtain ⟨k, hk, rfl, hBl, hcs⟩ := hrel
    by_cases hlt : k < n
    · obtain ⟨g, rfl, hg1, hg2, _, _⟩ := HA.out k hlt
      obtain ⟨g', rfl, hg3, hg4, _, _⟩ := HB.out k hlt
      have hgg : g < bb := HS.out g rfl
      have i1 : (k : Int) < (n : Int) := by omega
      have c0 := ((hcs k hlt).1 (Nat.le_refl _) g rfl).1
      have f0 := ((hcs k hlt).1 (Nat.le_refl _) g rfl).2
      have c1 := (hcs k hlt).2 g' rfl
      generalize l.getD k 0 = x at *
      unfold nI at c0 c1
      have wk : IntKind.i64.wrap ((k : Int) + 1) = ((k + 1 : Nat) : Int) := by rw [IntKind.wrap_i64]; omega
      have HC := hid hcs
      clear hcs
      go_wp2_with fail
      go_region
      have c2 : wr.drew.cell? ⟨g, k, none⟩ = some (.int .i64 (x : Int)) := c0
      have f2 : wr.drew.frozen? ⟨g, k, none⟩ = false := f0
      obtain ⟨W3, hW3⟩ : ∃ W3, W3 = (wr.setCell ⟨g, k, none⟩ (.int .i64 (-7))).drew := ⟨_, rfl⟩
      have HB3 : Hid (Below ba W W3) := hid (by rw [hW3]; exact (hBl.setCell (p := ⟨g, k, none⟩) hg1 _).drew)
      have HC3 : Hid (∀ j, j < n → (k + 1 ≤ j → ∀ g0, some (⟨g, 0, none⟩ : Addr) = some ⟨g0, 0, none⟩ → W3.cell? ⟨g0, j, none⟩ = some (nI (l.getD j 0)) ∧ W3.frozen? ⟨g0, j, none⟩ = false) ∧ (∀ g0, some (⟨g', 0, none⟩ : Addr) = some ⟨g0, 0, none⟩ → W3.cell? ⟨g0, j, none⟩ = some (nI (l.getD j 0)))) := hid (by
        intro j hj
        refine ⟨fun hkj g0 e => ?_, fun g0 e => ?_⟩
        · obtain ⟨h1, h2⟩ := (HC.out j hj).1 (by omega) g0 e
          cases e
          rw [hW3]
          refine ⟨?_, ?_⟩
          · show (wr.setCell ⟨g, k, none⟩ (.int .i64 (-7))).cell? _ = _
            rw [World.cell?_setCell_other _ _ _ _ (by intro e; have := congrArg Addr.off e; simp at this; omega)]
            exact h1
          · show (wr.setCell ⟨g, k, none⟩ (.int .i64 (-7))).frozen? _ = _
            rw [World.frozen?_setCell]; exact h2
        · have h1 := (HC.out j hj).2 g0 e
          cases e
          rw [hW3]
          show (wr.setCell ⟨g, k, none⟩ (.int .i64 (-7))).cell? _ = _
          rw [World.cell?_setCell_other _ _ _ _ (by intro e; have := congrArg Addr.block e; simp at this; omega)]
          exact h1)
      clear hBl c0 c1 f0
      go_wp2_with fail
      rw [← hW3]
      go_roundw
      case rel => exact ⟨k + 1, by omega, by rfl, HB3.out, HC3.out⟩
      case measure => first | (simp [intOf]; done) | (simp [intOf]; omega)
    · obtain rfl : k = n := by omega
      have q1 : ¬ ((k : Int) < (k : Int)) := by omega
      clear hcs
      go_wp2_with fail
      go_ret
      exact ⟨rfl, hBl⟩
set_option maxHeartbeats 4000000 in
theorem texts_any {W : World} {ba bb : Nat} {va vb : Value} {l : List ByteArray} (hl : l.length ≤ 1000000) (ha : W.ownsRow ba 9 1 va l.length (l.map Value.string)) (hb : W.ownsRow bb 9 1 vb l.length (l.map Value.string)) (hsep : ∀ k, va.ownBlock = some k → k < bb) :
    Calls Try.prog 8 #[va, vb] W fun e w' => e = .returned (.bool true) ∧ Below ba W w' := by
  obtain ⟨A, ca, rfl, _, hA⟩ := row_form ha
  obtain ⟨B, cb, rfl, _, hB⟩ := row_form hb
  obtain ⟨n, hn⟩ : ∃ n, n = l.length := ⟨_, rfl⟩
  rw [← hn] at hl hA hB ⊢
  have HN := hid hn
  have HA := hid hA
  have HB := hid hB
  have HS := hid hsep
  clear hn ha hb hA hB hsep
  go_enter Try.func8, Try.ntmps8
  go_wp2_with fail
  go_loopw [5] (fun v5 wr => ∃ k : Nat, k ≤ n ∧ v5 = .int .i64 (k : Int) ∧ Below ba W wr ∧ ∀ j, j < n → (k ≤ j → ∀ g, A = some ⟨g, 0, none⟩ → wr.cell? ⟨g, j, none⟩ = some (.string (l.getD j ⟨#[]⟩)) ∧ wr.frozen? ⟨g, j, none⟩ = false) ∧ (∀ g, B = some ⟨g, 0, none⟩ → wr.cell? ⟨g, j, none⟩ = some (.string (l.getD j ⟨#[]⟩)))) (fun v5 _ => n - (intOf v5).toNat)
  case atStart =>
    refine ⟨0, Nat.zero_le _, rfl, Below.refl _ _, fun j hj => ⟨fun _ g hg => ?_, fun g hg => ?_⟩⟩
    · obtain ⟨g', h1, _, _, h2, h3⟩ := HA.out j hj
      have := HN.out
      rw [h1] at hg; cases hg
      refine ⟨?_, h3⟩
      rw [h2, List.getElem?_map, List.getD_eq_getElem?_getD, List.getElem?_eq_getElem (by omega)]; rfl
    · obtain ⟨g', h1, _, _, h2, h3⟩ := HB.out j hj
      have := HN.out
      rw [h1] at hg; cases hg
      rw [h2, List.getElem?_map, List.getD_eq_getElem?_getD, List.getElem?_eq_getElem (by omega)]; rfl
  case round =>
    obtain ⟨k, hk, rfl, hBl, hcs⟩ := hrel
    by_cases hlt : k < n
    · obtain ⟨g, rfl, hg1, hg2, _, _⟩ := HA.out k hlt
      obtain ⟨g', rfl, hg3, hg4, _, _⟩ := HB.out k hlt
      have hgg : g < bb := HS.out g rfl
      have i1 : (k : Int) < (n : Int) := by omega
      have c0 := ((hcs k hlt).1 (Nat.le_refl _) g rfl).1
      have f0 := ((hcs k hlt).1 (Nat.le_refl _) g rfl).2
      have c1 := (hcs k hlt).2 g' rfl
      generalize l.getD k ⟨#[]⟩ = x at *
      have wk : IntKind.i64.wrap ((k : Int) + 1) = ((k + 1 : Nat) : Int) := by rw [IntKind.wrap_i64]; omega
      have HC := hid hcs
      clear hcs
      go_wp2_with fail
      go_region
      have c2 : wr.drew.cell? ⟨g, k, none⟩ = some (.string x) := c0
      have f2 : wr.drew.frozen? ⟨g, k, none⟩ = false := f0
      obtain ⟨W3, hW3⟩ : ∃ W3, W3 = (wr.setCell ⟨g, k, none⟩ (.string ⟨#[115, 112, 111, 105, 108, 116]⟩)).drew := ⟨_, rfl⟩
      have HB3 : Hid (Below ba W W3) := hid (by rw [hW3]; exact (hBl.setCell (p := ⟨g, k, none⟩) hg1 _).drew)
      have HC3 : Hid (∀ j, j < n → (k + 1 ≤ j → ∀ g0, some (⟨g, 0, none⟩ : Addr) = some ⟨g0, 0, none⟩ → W3.cell? ⟨g0, j, none⟩ = some (.string (l.getD j ⟨#[]⟩)) ∧ W3.frozen? ⟨g0, j, none⟩ = false) ∧ (∀ g0, some (⟨g', 0, none⟩ : Addr) = some ⟨g0, 0, none⟩ → W3.cell? ⟨g0, j, none⟩ = some (.string (l.getD j ⟨#[]⟩)))) := hid (by
        intro j hj
        refine ⟨fun hkj g0 e => ?_, fun g0 e => ?_⟩
        · obtain ⟨h1, h2⟩ := (HC.out j hj).1 (by omega) g0 e
          cases e
          rw [hW3]
          refine ⟨?_, ?_⟩
          · show (wr.setCell ⟨g, k, none⟩ (.string ⟨#[115, 112, 111, 105, 108, 116]⟩)).cell? _ = _
            rw [World.cell?_setCell_other _ _ _ _ (by intro e; have := congrArg Addr.off e; simp at this; omega)]
            exact h1
          · show (wr.setCell ⟨g, k, none⟩ (.string ⟨#[115, 112, 111, 105, 108, 116]⟩)).frozen? _ = _
            rw [World.frozen?_setCell]; exact h2
        · have h1 := (HC.out j hj).2 g0 e
          cases e
          rw [hW3]
          show (wr.setCell ⟨g, k, none⟩ (.string ⟨#[115, 112, 111, 105, 108, 116]⟩)).cell? _ = _
          rw [World.cell?_setCell_other _ _ _ _ (by intro e; have := congrArg Addr.block e; simp at this; omega)]
          exact h1)
      clear hBl c0 c1 f0
      go_wp2_with fail
      rw [← hW3]
      go_roundw
      case rel => exact ⟨k + 1, by omega, by rfl, HB3.out, HC3.out⟩
      case measure => first | (simp [intOf]; done) | (simp [intOf]; omega)
    · obtain rfl : k = n := by omega
      have q1 : ¬ ((k : Int) < (k : Int)) := by omega
      clear hcs
      go_wp2_with fail
      go_ret
      exact ⟨rfl, hBl⟩
end Go.Proofs.Ytjcanlopilifoaa
