/- What '==' says of structs. -/
import Derived.Test.YtpeeelnkelnlkaaCopy
import Derived.Laws.StructEq
namespace Go.Proofs.Ytpeeelnkelnlkaa
open Go.RowKit Go.Maps
theorem gd67 (op : BinOp) (w : World) (a b : Operand) (u v : Array Value) : (eqGuard op 67 a b (.agg u) (.agg v)).run Try.prog w = .ok () w := run_eqGuard_agg _ _ _ _ _ _ _ (by kernel_rfl)
theorem gd61 (op : BinOp) (w : World) (a b : Operand) (u v : Array Value) : (eqGuard op 61 a b (.agg u) (.agg v)).run Try.prog w = .ok () w := run_eqGuard_agg _ _ _ _ _ _ _ (by kernel_rfl)
theorem gd83 (op : BinOp) (w : World) (a b : Operand) (u v : Array Value) : (eqGuard op 83 a b (.agg u) (.agg v)).run Try.prog w = .ok () w := run_eqGuard_agg _ _ _ _ _ _ _ (by kernel_rfl)
theorem gd28 (op : BinOp) (w : World) (a b : Operand) (u v : Array Value) : (eqGuard op 28 a b (.agg u) (.agg v)).run Try.prog w = .ok () w := run_eqGuard_agg _ _ _ _ _ _ _ (by kernel_rfl)
theorem gd90 (op : BinOp) (w : World) (a b : Operand) (u v : Array Value) : (eqGuard op 90 a b (.agg u) (.agg v)).run Try.prog w = .ok () w := run_eqGuard_agg _ _ _ _ _ _ _ (by kernel_rfl)
theorem tl_eq (a b : ByteArray) : (a.toList = b.toList) = (a = b) := by
  rw [Lib.toList_data, Lib.toList_data]
  exact propext ⟨ba_ext, fun h => by rw [h]⟩
theorem ok_ite (p : Prop) [Decidable p] (w : World) (b : Bool) : (if p then Result.ok (Value.bool b) w else .ok (.bool (!b)) w) = .ok (.bool (decide p == b)) w := by
  by_cases h : p <;> cases b <;> simp [h]
theorem neq67 (w : World) (c d : Option ByteArray) : (binOp .neq 67 (cv c) (cv d)).run Try.prog w = .ok (.bool (!decide (c = d))) w := by
  unfold cv
  cases c with
  | none =>
    cases d with
    | none => simp [go_sem]
    | some d => simp [go_sem]
  | some c =>
    cases d with
    | none => simp [go_sem]
    | some d =>
      simp [go_sem, tl_eq]
      by_cases h : c = d <;> simp [h]
theorem neq28 (w : World) (a b c d : ByteArray) : (binOp .neq 28 (obv a b) (obv c d)).run Try.prog w = .ok (.bool (!decide ((a, b) = (c, d)))) w := by
  unfold obv
  by_cases h1 : a = c
  · subst h1
    by_cases h2 : b = d
    · subst h2; simp [go_sem]
    · simp [go_sem, tl_eq, h2]
  · simp [go_sem, tl_eq, h1]
theorem eql28 (w : World) (a b c d : ByteArray) : (binOp .eql 28 (obv a b) (obv c d)).run Try.prog w = .ok (.bool (decide ((a, b) = (c, d)))) w := by
  unfold obv
  by_cases h1 : a = c
  · subst h1
    by_cases h2 : b = d
    · subst h2; simp [go_sem]
    · simp [go_sem, tl_eq, h2]
  · simp [go_sem, tl_eq, h1]
theorem eql61 (w : World) (x y : Bool) (m n : Int) : (binOp .eql 61 (.agg #[.bool x, .int .i64 m]) (.agg #[.bool y, .int .i64 n])).run Try.prog w = .ok (.bool (decide (x = y ∧ m = n))) w := by
  by_cases h2 : m = n
  · subst h2; cases x <;> cases y <;> simp [go_sem]
  · cases x <;> cases y <;> simp [go_sem, h2]
theorem oeq {c d : Option ByteArray} : (c = d) = (c.isSome = d.isSome ∧ c.getD ⟨#[]⟩ = d.getD ⟨#[]⟩) := by
  apply propext
  cases c <;> cases d <;> simp
theorem in67 (d : Nat) (w : World) (c e : Option ByteArray) : (Op.equalIn (d + 2) 67 (.agg #[.bool c.isSome, .string (c.getD ⟨#[]⟩)]) (.agg #[.bool e.isSome, .string (e.getD ⟨#[]⟩)])).run Try.prog w = .ok (decide (c = e)) w := by
  have e0 : (decide (c = e)) = decide (c.isSome = e.isSome ∧ c.getD ⟨#[]⟩ = e.getD ⟨#[]⟩) := decide_eq_decide.2 (by rw [oeq])
  rw [e0]
  generalize c.isSome = a1
  generalize e.isSome = a2
  generalize c.getD ⟨#[]⟩ = b1
  generalize e.getD ⟨#[]⟩ = b2
  by_cases h : b1 = b2
  · subst h; cases a1 <;> cases a2 <;> simp [go_sem]
  · cases a1 <;> cases a2 <;> simp [go_sem, tl_eq, h]
set_option maxHeartbeats 1000000 in
theorem neq83 (w : World) (p q : Wr) : (binOp .neq 83 (.agg (wcells p).toArray) (.agg (wcells q).toArray)).run Try.prog w = .ok (.bool (!decide (p = q))) w := by
  have e : (p = q) = (p.name = q.name ∧ p.was = q.was ∧ p.now = q.now) := by
    cases p; cases q; simp
  rw [show (decide (p = q)) = decide (p.name = q.name ∧ p.was = q.was ∧ p.now = q.now) from decide_eq_decide.2 (by rw [e])]
  have hS : Try.prog.underlying 83 = some (.struct (Try.prog.fieldsOf 83)) := by kernel_rfl
  have i1 := in67 9997 w p.was q.was
  have i2 := in67 9997 w p.now q.now
  have s1 : (Op.equalIn 9999 9 (.string p.name) (.string q.name)).run Try.prog w = .ok (decide (p.name = q.name)) w := by
    rw [run_equalIn_string w 9998 9 p.name q.name Try.underlying9, str_eq]
  have p0 : ∀ r : Wr, (part 9 (wcells r).toArray 0).run Try.prog w = .ok (.string r.name) w := fun r => by unfold wcells; kernel_rfl
  have p1 : ∀ r : Wr, (part 67 (wcells r).toArray 1).run Try.prog w = .ok (.agg #[.bool r.was.isSome, .string (r.was.getD ⟨#[]⟩)]) w := fun r => by unfold wcells; kernel_rfl
  have p2 : ∀ r : Wr, (part 67 (wcells r).toArray 3).run Try.prog w = .ok (.agg #[.bool r.now.isSome, .string (r.now.getD ⟨#[]⟩)]) w := fun r => by unfold wcells; kernel_rfl
  rw [run_neq_struct, show (10000 : Nat) = 9999 + 1 from rfl, run_equalIn_agg w 9999 83 _ _ hS (by kernel_rfl)]
  simp only [Program.fieldsOf, Try.underlying83]
  rw [Bool.decide_and, Bool.decide_and]
  generalize decide (p.name = q.name) = x0 at *
  generalize decide (p.was = q.was) = x1 at *
  generalize decide (p.now = q.now) = x2 at *
  cases x0
  · simp [Op.eqFields, p0, s1, Result.andThen]
  · cases x1
    · simp [Op.eqFields, p0, p1, s1, i1, Result.andThen]
    · cases x2 <;> simp [Op.eqFields, p0, p1, p2, s1, i1, i2, Result.andThen]
end Go.Proofs.Ytpeeelnkelnlkaa
