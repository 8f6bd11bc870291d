/- What '==' says of structs. -/
import Derived.Test.YtgdiaflikfdnaaaCopy
import Derived.Laws.StructEq
namespace Go.Proofs.Ytgdiaflikfdnaaa
open Go.RowKit Go.Maps
theorem gd28 (op : BinOp) (w : World) (a b : Operand) (u v : Array Value) : (eqGuard op 33 a b (.agg u) (.agg v)).run Try.prog w = .ok () w := run_eqGuard_agg _ _ _ _ _ _ _ (by kernel_rfl)
theorem tl_eq (a b : ByteArray) : (a.toList = b.toList) = (a = b) := by
  rw [Lib.toList_data, Lib.toList_data]
  exact propext ⟨ba_ext, fun h => by rw [h]⟩
theorem ok_ite (p : Prop) [Decidable p] (w : World) (b : Bool) : (if p then Result.ok (Value.bool b) w else .ok (.bool (!b)) w) = .ok (.bool (decide p == b)) w := by
  by_cases h : p <;> cases b <;> simp [h]
theorem neq28 (w : World) (a b c d : ByteArray) : (binOp .neq 33 (obv a b) (obv c d)).run Try.prog w = .ok (.bool (!decide ((a, b) = (c, d)))) w := by
  unfold obv
  by_cases h1 : a = c
  · subst h1
    by_cases h2 : b = d
    · subst h2; simp [go_sem]
    · simp [go_sem, tl_eq, h2]
  · simp [go_sem, tl_eq, h1]
theorem eql28 (w : World) (a b c d : ByteArray) : (binOp .eql 33 (obv a b) (obv c d)).run Try.prog w = .ok (.bool (decide ((a, b) = (c, d)))) w := by
  unfold obv
  by_cases h1 : a = c
  · subst h1
    by_cases h2 : b = d
    · subst h2; simp [go_sem]
    · simp [go_sem, tl_eq, h2]
  · simp [go_sem, tl_eq, h1]
end Go.Proofs.Ytgdiaflikfdnaaa

