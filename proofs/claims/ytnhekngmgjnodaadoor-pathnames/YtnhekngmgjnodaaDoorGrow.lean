/- A text, a number more at the end of a row of the call's own. -/
import Derived.Test.YtnhekngmgjnodaaDoorSteps
import Derived.Laws.OwnMore
namespace Go.Proofs.YtnhekngmgjnodaaDoor
open Go.RowKit
open Pa
set_option linter.unusedVariables false
section
variable {ev : Operand → Value} {o : Oper} {w w' : World} {x y : Operand} {v u v' : Value} {t : TypeId}
theorem rn_app25 (ho : o.op = .call { callee := .builtin .append, args := #[x, y], argTypes := #[25, 25] }) (hx : ev x = v) (hy : ev y = u) (ht : o.type = t) (hr : (Builtin.append_ #[25, 25] t #[v, u]).run Tryd.prog w = .ok v' w') : (execOp ev o).run Tryd.prog w = .ok (.value v') w' := by
  subst ht
  simp [execOp, ho, hx, hy, resolve, invoke, builtin, hr, Result.andThen]
theorem rn_app27 (ho : o.op = .call { callee := .builtin .append, args := #[x, y], argTypes := #[27, 27] }) (hx : ev x = v) (hy : ev y = u) (ht : o.type = t) (hr : (Builtin.append_ #[27, 27] t #[v, u]).run Tryd.prog w = .ok v' w') : (execOp ev o).run Tryd.prog w = .ok (.value v') w' := by
  subst ht
  simp [execOp, ho, hx, hy, resolve, invoke, builtin, hr, Result.andThen]
end
theorem wpList_val {ops : Array Oper} {rest : List Oper} {o : Oper} {a : Act} {w w' : World} {v : Value} {Q : Exit → Act → World → Prop} (hgd : o.guard = none) (hr : (execOp a.eval o).run Tryd.prog w = .ok (.value v) w') (h : wpList Tryd.prog ops Q rest (a.put o.dst v) w') : wpList Tryd.prog ops Q (o :: rest) a w :=
  wpList_plain hgd fun K hK => by
    unfold Oper.wp
    rw [hr]
    exact hK _ _ h
theorem grow_tx {w : World} {base c n : Nat} {A : Option Addr} {l : List ByteArray} (h : w.ownsRow base 9 1 (.slice A n c) n (l.map Value.string)) (x : ByteArray) (hl : n ≤ 200000) (hb : base ≤ w.heap.size) :
    ∃ A' c' w', (Builtin.append_ #[25, 25] 25 #[.slice A n c, .slice (some ⟨w.heap.size, 0, none⟩) 1 1]).run Tryd.prog (w.alloc (.cells #[.string x] 9)) = .ok (.slice A' (n + 1) c') w' ∧ w'.ownsRow base 9 1 (.slice A' (n + 1) c') (n + 1) ((l ++ [x]).map Value.string) ∧ Below base w w' := by
  obtain ⟨i, hi, hx0, hx1, hx2⟩ := info_parts info9z
  have hn : n = l.length := by have := h.1; simp at this; omega
  obtain ⟨w5, hw5⟩ : ∃ w5, w5 = w.alloc (.cells #[.string x] 9) := ⟨_, rfl⟩
  have hb5 : Below w.heap.size w w5 := by rw [hw5]; exact (Below.refl _ w).alloc (Nat.le_refl _) _
  have hx5 : Has w5 w.heap.size #[.string x] 9 := by rw [hw5]; exact Has.new w _ _ _ rfl
  have r1 := own_below h hb5 (Nat.le_refl _)
  rw [← hw5]
  obtain ⟨v', w', e1, e2, e3, _⟩ := run_append_own (P := Tryd.prog) w5 base 25 25 9 i (.string ⟨#[]⟩) 1 16 Tryd.underlying25 hi hx0 hx1 hx2 rfl (by decide) _ n _ r1 ⟨w.heap.size, 0, none⟩ 1 1 [.string x] rfl (fun j u hu => by
    rw [Go.WideShapes.add_plain, Nat.zero_add, hx5.cell]
    simpa using hu) (by simp [Value.oneCell']) (by unfold maxLen; omega) (by omega) (Nat.le_trans hb hb5.size)
  have e6 : l.map Value.string ++ [.string x] = (l ++ [x]).map Value.string := by simp
  rw [e6] at e2
  obtain ⟨A', c', hv, hn', -⟩ := own_tx e2
  rw [← hn'] at hv
  subst hv
  exact ⟨A', c', w', e1, e2, (hb5.mono hb).grown e3 (Nat.le_trans hb hb5.size) (fun j hj => (r1.lt j hj).1)⟩
theorem grow_is {w : World} {base c n : Nat} {A : Option Addr} {l : List Nat} (h : w.ownsRow base 3 1 (.slice A n c) n (l.map nI)) (x : Nat) (hl : n ≤ 200000) (hb : base ≤ w.heap.size) :
    ∃ A' c' w', (Builtin.append_ #[27, 27] 27 #[.slice A n c, .slice (some ⟨w.heap.size, 0, none⟩) 1 1]).run Tryd.prog (w.alloc (.cells #[.int .i64 (x : Int)] 3)) = .ok (.slice A' (n + 1) c') w' ∧ w'.ownsRow base 3 1 (.slice A' (n + 1) c') (n + 1) ((l ++ [x]).map nI) ∧ Below base w w' := by
  obtain ⟨i, hi, hx0, hx1, hx2⟩ := info_parts info3z
  have hn : n = l.length := by have := h.1; simp at this; omega
  obtain ⟨w5, hw5⟩ : ∃ w5, w5 = w.alloc (.cells #[.int .i64 (x : Int)] 3) := ⟨_, rfl⟩
  have hb5 : Below w.heap.size w w5 := by rw [hw5]; exact (Below.refl _ w).alloc (Nat.le_refl _) _
  have hx5 : Has w5 w.heap.size #[.int .i64 (x : Int)] 3 := by rw [hw5]; exact Has.new w _ _ _ rfl
  have r1 := own_below h hb5 (Nat.le_refl _)
  rw [← hw5]
  obtain ⟨v', w', e1, e2, e3, _⟩ := run_append_own (P := Tryd.prog) w5 base 27 27 3 i (.int .i64 0) 1 8 Tryd.underlying27 hi hx0 hx1 hx2 rfl (by decide) _ n _ r1 ⟨w.heap.size, 0, none⟩ 1 1 [.int .i64 (x : Int)] rfl (fun j u hu => by
    rw [Go.WideShapes.add_plain, Nat.zero_add, hx5.cell]
    simpa using hu) (by simp [Value.oneCell']) (by unfold maxLen; omega) (by omega) (Nat.le_trans hb hb5.size)
  have e6 : l.map nI ++ [.int .i64 (x : Int)] = (l ++ [x]).map nI := by simp [nI]
  rw [e6] at e2
  obtain ⟨A', c', hv, hn', -⟩ := row_is e2
  rw [← hn'] at hv
  subst hv
  exact ⟨A', c', w', e1, e2, (hb5.mono hb).grown e3 (Nat.le_trans hb hb5.size) (fun j hj => (r1.lt j hj).1)⟩
end Go.Proofs.YtnhekngmgjnodaaDoor
