/- A text, a place more at the end of a row of the call's own. -/
import Derived.Test.YtknddbmnciodaaaRDrop
namespace Go.Proofs.Ytknddbmnciodaaa
open Go.RowKit
open Ix
set_option linter.unusedVariables false
theorem grow_tx {w : World} {base c n : Nat} {A : Option Addr} {l : List ByteArray} (h : w.ownsRow base 9 1 (.slice A n c) n (l.map Value.string)) (x : ByteArray) (hl : n ≤ 100000) (hb : base ≤ w.heap.size) :
    ∃ A' c' w', (Builtin.append_ #[25, 25] 25 #[.slice A n c, .slice (some ⟨w.heap.size, 0, none⟩) 1 1]).run Try.prog (w.alloc (.cells #[.string x] 9)) = .ok (.slice A' (n + 1) c') w' ∧ w'.ownsRow base 9 1 (.slice A' (n + 1) c') (n + 1) ((l ++ [x]).map Value.string) ∧ RowKit.Below base w w' ∧ (∀ v' n' xs', w.ownsRow base 37 3 v' n' xs' → w'.ownsRow base 37 3 v' n' xs') := by
  obtain ⟨i, hi, hx0, hx1, hx2⟩ := info_parts info9z
  have hn : n = l.length := by have := h.1; simp at this; omega
  obtain ⟨w5, hw5⟩ : ∃ w5, w5 = w.alloc (.cells #[.string x] 9) := ⟨_, rfl⟩
  have hb5 : RowKit.Below w.heap.size w w5 := by rw [hw5]; exact (RowKit.Below.refl _ w).alloc (Nat.le_refl _) _
  have hx5 : Has w5 w.heap.size #[.string x] 9 := by rw [hw5]; exact Has.new w _ _ _ rfl
  have r1 := own_below h hb5 (Nat.le_refl _)
  rw [← hw5]
  obtain ⟨v', w', e1, e2, e3, _⟩ := run_append_own (P := Try.prog) w5 base 25 25 9 i (.string ⟨#[]⟩) 1 16 Try.underlying25 hi hx0 hx1 hx2 rfl (by decide) _ n _ r1 ⟨w.heap.size, 0, none⟩ 1 1 [.string x] rfl (fun j u hu => by
    rw [Go.WideShapes.add_plain, Nat.zero_add, hx5.cell]
    simpa using hu) (by simp [Value.oneCell']) (by unfold maxLen; omega) (by omega) (Nat.le_trans hb hb5.size)
  have e6 : l.map Value.string ++ [.string x] = (l ++ [x]).map Value.string := by simp
  rw [e6] at e2
  obtain ⟨A', c', hv, hn', -⟩ := own_tx e2
  rw [← hn'] at hv
  subst hv
  exact ⟨A', c', w', e1, e2, (hb5.mono hb).grown e3 (Nat.le_trans hb hb5.size) (fun j hj => (r1.lt j hj).1), fun v n2 xs h2 => own_keep (own_below h2 hb5 (Nat.le_refl _)) r1 (by decide) e3⟩
theorem grow_ps {w : World} {base c n : Nat} {A : Option Addr} {l : List Pl} (h : w.ownsRow base 37 3 (.slice A n c) n (l.flatMap pl3)) (y : Pl) (hl : n ≤ 100000) (hb : base ≤ w.heap.size) :
    ∃ A' c' w', (Builtin.append_ #[26, 26] 26 #[.slice A n c, .slice (some ⟨w.heap.size, 0, none⟩) 1 1]).run Try.prog (w.alloc (.cells #[.string y.pack, .int .i64 y.at_, .int .i64 y.len] 37)) = .ok (.slice A' (n + 1) c') w' ∧ w'.ownsRow base 37 3 (.slice A' (n + 1) c') (n + 1) ((l ++ [y]).flatMap pl3) ∧ RowKit.Below base w w' ∧ (∀ v' n' xs', w.ownsRow base 9 1 v' n' xs' → w'.ownsRow base 9 1 v' n' xs') := by
  obtain ⟨i, hi, hx0, hx1, hx2⟩ := info_parts info37z
  have hn : n = l.length := by have := h.1; rw [flat_len pl3 3 (fun _ => rfl)] at this; omega
  obtain ⟨w5, hw5⟩ : ∃ w5, w5 = w.alloc (.cells #[.string y.pack, .int .i64 y.at_, .int .i64 y.len] 37) := ⟨_, rfl⟩
  have hb5 : RowKit.Below w.heap.size w w5 := by rw [hw5]; exact (RowKit.Below.refl _ w).alloc (Nat.le_refl _) _
  have hx5 : Has w5 w.heap.size #[.string y.pack, .int .i64 y.at_, .int .i64 y.len] 37 := by rw [hw5]; exact Has.new w _ _ _ rfl
  have r1 := own_below h hb5 (Nat.le_refl _)
  rw [← hw5]
  obtain ⟨v', w', e1, e2, e3, _⟩ := run_append_own (P := Try.prog) w5 base 26 26 37 i (.agg #[.string ⟨#[]⟩, .int .i64 0, .int .i64 0]) 3 32 Try.underlying26 hi hx0 hx1 hx2 rfl (by decide) _ n _ r1 ⟨w.heap.size, 0, none⟩ 1 1 [.string y.pack, .int .i64 y.at_, .int .i64 y.len] rfl (fun j u hu => by
    rw [Go.WideShapes.add_plain, Nat.zero_add, hx5.cell]
    simpa using hu) (by simp [Value.oneCell']) (by unfold maxLen; omega) (by omega) (Nat.le_trans hb hb5.size)
  have e6 : l.flatMap pl3 ++ [.string y.pack, .int .i64 y.at_, .int .i64 y.len] = (l ++ [y]).flatMap pl3 := by simp [pl3]
  rw [e6] at e2
  obtain ⟨A', c', hv, hn', -⟩ := own_ps e2
  rw [← hn'] at hv
  subst hv
  exact ⟨A', c', w', e1, e2, (hb5.mono hb).grown e3 (Nat.le_trans hb hb5.size) (fun j hj => (r1.lt j hj).1), fun v n2 xs h2 => own_keep (own_below h2 hb5 (Nat.le_refl _)) r1 (by decide) e3⟩
end Go.Proofs.Ytknddbmnciodaaa
