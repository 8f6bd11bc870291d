/- What single operations do, over any frame. -/
import Derived.Test.YtfbjpgcgdhhfnaaSl
import Derived.Test.YtfbjpgcgdhhfnaaLast
namespace Go.Proofs.Ytfbjpgcgdhhfnaa
open Go.RowKit
def vals (l : List Value) : Nat → Value := fun i => l.getD i undef
theorem rn_move {ev : Operand → Value} {o : Oper} {w : World} {x : Operand} {v : Value} (ho : o.op = .move x) (hx : ev x = v) : (execOp ev o).run Try.prog w = .ok (.value v) w := by
  subst hx; simp [execOp, ho, go_sem]
theorem rn_load5 {ev : Operand → Value} {o : Oper} {w : World} {x : Operand} {g k : Nat} {v : Value} (ho : o.op = .load 5 x) (hx : ev x = .pointer (some ⟨g, k, none⟩)) (hc : w.cell? ⟨g, k, none⟩ = some v) : (execOp ev o).run Try.prog w = .ok (.value v) w := by
  simp [execOp, ho, hx, go_sem, hc]
theorem rn_load31 {ev : Operand → Value} {o : Oper} {w : World} {x : Operand} {g k : Nat} {v : Value} (ho : o.op = .load 31 x) (hx : ev x = .pointer (some ⟨g, k, none⟩)) (hc : w.cell? ⟨g, k, none⟩ = some v) : (execOp ev o).run Try.prog w = .ok (.value v) w := by
  simp [execOp, ho, hx, go_sem, hc]
theorem rn_load58 {ev : Operand → Value} {o : Oper} {w : World} {x : Operand} {g k : Nat} {v : Value} (ho : o.op = .load 58 x) (hx : ev x = .pointer (some ⟨g, k, none⟩)) (hc : w.cell? ⟨g, k, none⟩ = some v) : (execOp ev o).run Try.prog w = .ok (.value v) w := by
  simp [execOp, ho, hx, go_sem, hc]
theorem rn_at31 {ev : Operand → Value} {o : Oper} {w : World} {x y : Operand} {g q n c k : Nat} (ho : o.op = .indexAddr 31 x y) (hx : ev x = .slice (some ⟨g, q, none⟩) n c) (hy : ev y = .int .i64 (k : Int)) (h : k < n) : (execOp ev o).run Try.prog w = .ok (.value (.pointer (some ⟨g, q + k, none⟩))) w := by
  have h1 : (k : Int) < (n : Int) := by omega
  simp [execOp, ho, hx, hy, go_sem, h1]
theorem rn_at46 {ev : Operand → Value} {o : Oper} {w : World} {x y : Operand} {g q n c k : Nat} (ho : o.op = .indexAddr 46 x y) (hx : ev x = .slice (some ⟨g, q, none⟩) n c) (hy : ev y = .int .i64 (k : Int)) (h : k < n) : (execOp ev o).run Try.prog w = .ok (.value (.pointer (some ⟨g, q + k, none⟩))) w := by
  have h1 : (k : Int) < (n : Int) := by omega
  simp [execOp, ho, hx, hy, go_sem, h1]
theorem rn_xor {ev : Operand → Value} {o : Oper} {w : World} {x y : Operand} {m n : Nat} (ho : o.op = .binOp .xor 5 x y 5) (hx : ev x = .int .u8 (m : Int)) (hy : ev y = .int .u8 (n : Int)) (hm : m < 256) (hn : n < 256) : (execOp ev o).run Try.prog w = .ok (.value (.int .u8 ((m ^^^ n : Nat) : Int))) w := by
  have e := u8_xor_nat m n hm hn
  simp [execOp, ho, hx, hy, go_sem, e]
theorem enter26 {w : World} (args : Array Value) : (callFunc 26 args).run Try.prog w = .ok (.enter 26 args) w := by kernel_rfl
theorem enter46 {w : World} (args : Array Value) : (callFunc 46 args).run Try.prog w = .ok (.enter 46 args) w := by kernel_rfl
theorem enter45 {w : World} (args : Array Value) : (callFunc 45 args).run Try.prog w = .ok (.enter 45 args) w := by kernel_rfl
theorem rn_call2 {ev : Operand → Value} {o : Oper} {w : World} {f : FuncId} {x y : Operand} {t t' : TypeId} {u v : Value} (ho : o.op = .call { callee := .value (.func f), args := #[x, y], argTypes := #[t, t'] }) (hf : ev (.func f) = .func (.func f) #[] #[]) (hx : ev x = u) (hy : ev y = v) (hb : (callFunc f #[u, v]).run Try.prog w = .ok (.enter f #[u, v]) w) : (execOp ev o).run Try.prog w = .ok (.enter f #[u, v]) w := by
  simp [execOp, ho, hx, hy, hf, go_sem, hb]
theorem rn_call3 {ev : Operand → Value} {o : Oper} {w : World} {f : FuncId} {x y z : Operand} {t t' t'' : TypeId} {u v r : Value} (ho : o.op = .call { callee := .value (.func f), args := #[x, y, z], argTypes := #[t, t', t''] }) (hf : ev (.func f) = .func (.func f) #[] #[]) (hx : ev x = u) (hy : ev y = v) (hz : ev z = r) (hb : (callFunc f #[u, v, r]).run Try.prog w = .ok (.enter f #[u, v, r]) w) : (execOp ev o).run Try.prog w = .ok (.enter f #[u, v, r]) w := by
  simp [execOp, ho, hx, hy, hz, hf, go_sem, hb]
theorem rn_store5 {ev : Operand → Value} {o : Oper} {w : World} {x y : Operand} {g k : Nat} {n : Int} {old : Value} (ho : o.op = .store 5 x y) (hx : ev x = .pointer (some ⟨g, k, none⟩)) (hy : ev y = .int .u8 n) (hc : w.cell? ⟨g, k, none⟩ = some old) (hf : w.frozen? ⟨g, k, none⟩ = false) : (execOp ev o).run Try.prog w = .ok .skip (w.setCell ⟨g, k, none⟩ (.int .u8 n)) := by
  simp [execOp, ho, hx, hy, go_sem, hc, hf]
end Go.Proofs.Ytfbjpgcgdhhfnaa
