/- More single operations, over any frame; a region whose last operation is a call. -/
import Derived.Test.YtfbjpgcgdhhfnaaCUp
namespace Go.Proofs.Ytfbjpgcgdhhfnaa
open Go.RowKit
/-- a call, as the last one -/
theorem st_callLast {P : Program} {Q : Exit → Act → World → Prop} {o : Oper} {a : Act} {w : World} (f : FuncId) (args : Array Value) (hr : (execOp a.eval o).run P w = .ok (.enter f args) w)
    (h : Calls P f args w fun e w'' => ∃ v, e = .returned v ∧ Q .normal (a.put o.dst v) w'') :
    o.wp P a w (fun a'' w'' => Q .normal a'' w'') Q := by
  unfold Oper.wp
  rw [hr, Oper.upon_enter]
  refine h.mono ?_
  rintro e w'' ⟨v, rfl, h1⟩
  exact h1
/-- a value, as the last one -/
theorem st_valLast {P : Program} {Q : Exit → Act → World → Prop} {o : Oper} {a : Act} {w : World} (v : Value) (hr : (execOp a.eval o).run P w = .ok (.value v) w) (h : Q .normal (a.put o.dst v) w) :
    o.wp P a w (fun a'' w'' => Q .normal a'' w'') Q := by
  unfold Oper.wp
  rw [hr]
  exact h
theorem rn_field24 {ev : Operand → Value} {o : Oper} {w : World} {x : Operand} {g k : Nat} (ho : o.op = .fieldAddr 24 x k) (hk : k < 2) (hx : ev x = .pointer (some ⟨g, 0, none⟩)) : (execOp ev o).run Try.prog w = .ok (.value (.pointer (some ⟨g, k, none⟩))) w := by
  rcases k with _ | _ | k
  · simp [execOp, ho, hx, go_sem]
  · simp [execOp, ho, hx, go_sem]
  · omega
theorem rn_load3 {ev : Operand → Value} {o : Oper} {w : World} {x : Operand} {g k : Nat} {v : Value} (ho : o.op = .load 3 x) (hx : ev x = .pointer (some ⟨g, k, none⟩)) (hc : w.cell? ⟨g, k, none⟩ = some v) : (execOp ev o).run Try.prog w = .ok (.value v) w := by
  simp [execOp, ho, hx, go_sem, hc]
theorem rn_from46 {ev : Operand → Value} {o : Oper} {w : World} {x y : Operand} {g q n c k : Nat} (ho : o.op = .slice 46 x (some y) none none) (hx : ev x = .slice (some ⟨g, q, none⟩) n c) (hy : ev y = .int .i64 (k : Int)) (h : k < n) (hn : n ≤ c) : (execOp ev o).run Try.prog w = .ok (.value (.slice (some ⟨g, q + k, none⟩) (n - k) (c - k))) w := by
  have h1 : (k : Int) ≤ (n : Int) := by omega
  have h3 : ¬ c ≤ k := by omega
  simp [execOp, ho, hx, hy, go_sem, h1]
  omega
theorem rn_to46 {ev : Operand → Value} {o : Oper} {w : World} {x y : Operand} {g q n c k : Nat} (ho : o.op = .slice 46 x none (some y) none) (hx : ev x = .slice (some ⟨g, q, none⟩) n c) (hy : ev y = .int .i64 (k : Int)) (h : k ≤ c) (hc : 0 < c) : (execOp ev o).run Try.prog w = .ok (.value (.slice (some ⟨g, q, none⟩) k c)) w := by
  have h1 : (k : Int) ≤ (c : Int) := by omega
  have h3 : ¬ c = 0 := by omega
  simp [execOp, ho, hx, hy, go_sem, h1, h3]
theorem rn_all46 {ev : Operand → Value} {o : Oper} {w : World} {x y : Operand} {g q n : Nat} (ho : o.op = .slice 46 x (some y) none none) (hx : ev x = .slice (some ⟨g, q, none⟩) n n) (hy : ev y = .int .i64 (n : Int)) : (execOp ev o).run Try.prog w = .ok (.value (.slice (some ⟨g, q, none⟩) 0 0)) w := by
  simp [execOp, ho, hx, hy, go_sem]
theorem rn_rest46 {ev : Operand → Value} {o : Oper} {w : World} {x y : Operand} {g q n k : Nat} (ho : o.op = .slice 46 x (some y) none none) (hx : ev x = .slice (some ⟨g, q, none⟩) n n) (hy : ev y = .int .i64 (k : Int)) (h : k ≤ n) : (execOp ev o).run Try.prog w = .ok (.value (.slice (if n = k then some ⟨g, q, none⟩ else some ⟨g, q + k, none⟩) (n - k) (n - k))) w := by
  by_cases he : n = k
  · subst he; rw [if_pos rfl, rn_all46 ho hx hy]; simp
  · rw [if_neg he]; exact rn_from46 ho hx hy (by omega) (Nat.le_refl _)
theorem Mat.drop {w : World} {v : Value} {m : List (List Nat)} {g o n c K : Nat} (h : Mat w v m) (hv : v = .slice (Option.some ⟨g, o, none⟩) n c) (hn : m.length = n) (hK : K < n) (c' : Nat) : Mat w (.slice (Option.some ⟨g, o + K, none⟩) (n - K) c') (m.drop K) := by
  obtain ⟨g', o', cap, e, h2, hg, hc⟩ := h.some (by omega)
  rw [hv] at e
  simp only [Value.slice.injEq, Option.some.injEq, Addr.mk.injEq] at e
  obtain ⟨⟨rfl, rfl, _⟩, _, _⟩ := e
  refine ⟨_, c', by rw [List.length_drop, hn], by rw [List.length_drop]; omega, fun _ => ⟨g, o + K, rfl, hg, fun j hj => ?_⟩⟩
  rw [List.length_drop] at hj
  obtain ⟨r, k1, k2⟩ := hc (K + j) (by omega)
  refine ⟨r, by rw [Nat.add_assoc]; exact k1, ?_⟩
  rw [List.getD_eq_getElem?_getD, List.getElem?_drop, ← List.getD_eq_getElem?_getD]; exact k2
end Go.Proofs.Ytfbjpgcgdhhfnaa
