/- Single operations, as they are run. -/
import Derived.Test.YtknddbmnciodaaaGreatMk
import Derived.Test.YtknddbmnciodaaaGreatTl
import Derived.Test.YtknddbmnciodaaaGreatFun
namespace Go.Proofs.YtknddbmnciodaaaGreat
open Go.RowKit
open Ix
set_option linter.unusedVariables false
section
variable {ev : Operand → Value} {o : Oper} {w : World} {x y z : Operand}
theorem rn_move {v : Value} (ho : o.op = .move x) (hx : ev x = v) : (execOp ev o).run Tryz.prog w = .ok (.value v) w := by
  subst hx; simp [execOp, ho, go_sem]
theorem rn_assign {v : Value} (ho : o.op = .assign x) (hx : ev x = v) : (execOp ev o).run Tryz.prog w = .ok (.value v) w := by
  subst hx; simp [execOp, ho, go_sem]
theorem rn_load3 {g k : Nat} {v : Value} (ho : o.op = .load 3 x) (hx : ev x = .pointer (some ⟨g, k, none⟩)) (hc : w.cell? ⟨g, k, none⟩ = some v) : (execOp ev o).run Tryz.prog w = .ok (.value v) w := by
  simp [execOp, ho, hx, go_sem, hc]
theorem rn_load9 {g k : Nat} {v : Value} (ho : o.op = .load 9 x) (hx : ev x = .pointer (some ⟨g, k, none⟩)) (hc : w.cell? ⟨g, k, none⟩ = some v) : (execOp ev o).run Tryz.prog w = .ok (.value v) w := by
  simp [execOp, ho, hx, go_sem, hc]
theorem rn_load25 {g k : Nat} {v : Value} (ho : o.op = .load 29 x) (hx : ev x = .pointer (some ⟨g, k, none⟩)) (hc : w.cell? ⟨g, k, none⟩ = some v) : (execOp ev o).run Tryz.prog w = .ok (.value v) w := by
  simp [execOp, ho, hx, go_sem, hc]
theorem rn_load26 {g k : Nat} {v : Value} (ho : o.op = .load 30 x) (hx : ev x = .pointer (some ⟨g, k, none⟩)) (hc : w.cell? ⟨g, k, none⟩ = some v) : (execOp ev o).run Tryz.prog w = .ok (.value v) w := by
  simp [execOp, ho, hx, go_sem, hc]
theorem rn_load24 {g k : Nat} {v : Value} (ho : o.op = .load 33 x) (hx : ev x = .pointer (some ⟨g, k, none⟩)) (hc : w.cell? ⟨g, k, none⟩ = some v) : (execOp ev o).run Tryz.prog w = .ok (.value v) w := by
  simp [execOp, ho, hx, go_sem, hc]
theorem rn_load37 {g k : Nat} {u0 u1 u2 : Value} (ho : o.op = .load 24 x) (hx : ev x = .pointer (some ⟨g, k, none⟩)) (h0 : w.cell? ⟨g, k, none⟩ = some u0) (h1 : w.cell? ⟨g, k + 1, none⟩ = some u1) (h2 : w.cell? ⟨g, k + 2, none⟩ = some u2) : (execOp ev o).run Tryz.prog w = .ok (.value (.agg #[u0, u1, u2])) w := by
  simp [execOp, ho, hx, go_sem, h0, h1, h2]
theorem rn_ix25 {g f n c i : Nat} (ho : o.op = .indexAddr 29 x y) (hx : ev x = .slice (some ⟨g, f, none⟩) n c) (hy : ev y = .int .i64 (i : Int)) (hi : i < n) : (execOp ev o).run Tryz.prog w = .ok (.value (.pointer (some ⟨g, f + i, none⟩))) w := by
  have q1 : (i : Int) < (n : Int) := by omega
  simp [execOp, ho, hx, hy, go_sem, q1]
theorem rn_ix26 {g f n c i : Nat} (ho : o.op = .indexAddr 30 x y) (hx : ev x = .slice (some ⟨g, f, none⟩) n c) (hy : ev y = .int .i64 (i : Int)) (hi : i < n) : (execOp ev o).run Tryz.prog w = .ok (.value (.pointer (some ⟨g, f + i * 3, none⟩))) w := by
  have q1 : (i : Int) < (n : Int) := by omega
  simp [execOp, ho, hx, hy, go_sem, q1]
theorem rn_ix49 {g f n c i : Nat} (ho : o.op = .indexAddr 57 x y) (hx : ev x = .slice (some ⟨g, f, none⟩) n c) (hy : ev y = .int .i64 (i : Int)) (hi : i < n) : (execOp ev o).run Tryz.prog w = .ok (.value (.pointer (some ⟨g, f + i * 4, none⟩))) w := by
  have q1 : (i : Int) < (n : Int) := by omega
  simp [execOp, ho, hx, hy, go_sem, q1]
theorem rn_fa37_0 {g k : Nat} (ho : o.op = .fieldAddr 24 x 0) (hx : ev x = .pointer (some ⟨g, k, none⟩)) : (execOp ev o).run Tryz.prog w = .ok (.value (.pointer (some ⟨g, k, none⟩))) w := by
  simp [execOp, ho, hx, go_sem]
theorem rn_fa37_1 {g k : Nat} (ho : o.op = .fieldAddr 24 x 1) (hx : ev x = .pointer (some ⟨g, k, none⟩)) : (execOp ev o).run Tryz.prog w = .ok (.value (.pointer (some ⟨g, k + 1, none⟩))) w := by
  simp [execOp, ho, hx, go_sem]
theorem rn_fa37_2 {g k : Nat} (ho : o.op = .fieldAddr 24 x 2) (hx : ev x = .pointer (some ⟨g, k, none⟩)) : (execOp ev o).run Tryz.prog w = .ok (.value (.pointer (some ⟨g, k + 2, none⟩))) w := by
  simp [execOp, ho, hx, go_sem]
theorem rn_fa53_0 {g k : Nat} (ho : o.op = .fieldAddr 61 x 0) (hx : ev x = .pointer (some ⟨g, k, none⟩)) : (execOp ev o).run Tryz.prog w = .ok (.value (.pointer (some ⟨g, k, none⟩))) w := by
  simp [execOp, ho, hx, go_sem]
theorem rn_fa53_1 {g k : Nat} (ho : o.op = .fieldAddr 61 x 1) (hx : ev x = .pointer (some ⟨g, k, none⟩)) : (execOp ev o).run Tryz.prog w = .ok (.value (.pointer (some ⟨g, k + 1, none⟩))) w := by
  simp [execOp, ho, hx, go_sem]
theorem rn_fa28_2 {g k : Nat} (ho : o.op = .fieldAddr 35 x 2) (hx : ev x = .pointer (some ⟨g, k, none⟩)) : (execOp ev o).run Tryz.prog w = .ok (.value (.pointer (some ⟨g, k + 3, none⟩))) w := by
  simp [execOp, ho, hx, go_sem]
theorem rn_fa28_3 {g k : Nat} (ho : o.op = .fieldAddr 35 x 3) (hx : ev x = .pointer (some ⟨g, k, none⟩)) : (execOp ev o).run Tryz.prog w = .ok (.value (.pointer (some ⟨g, k + 4, none⟩))) w := by
  simp [execOp, ho, hx, go_sem]
theorem rn_fa28_4 {g k : Nat} (ho : o.op = .fieldAddr 35 x 4) (hx : ev x = .pointer (some ⟨g, k, none⟩)) : (execOp ev o).run Tryz.prog w = .ok (.value (.pointer (some ⟨g, k + 5, none⟩))) w := by
  simp [execOp, ho, hx, go_sem]
theorem rn_len25 {A : Option Addr} {n c : Nat} (ho : o.op = .call { callee := .builtin .len, args := #[x], argTypes := #[29] }) (hx : ev x = .slice A n c) : (execOp ev o).run Tryz.prog w = .ok (.value (.int .i64 (n : Int))) w := by
  simp [execOp, ho, hx, go_sem]
theorem rn_len26 {A : Option Addr} {n c : Nat} (ho : o.op = .call { callee := .builtin .len, args := #[x], argTypes := #[30] }) (hx : ev x = .slice A n c) : (execOp ev o).run Tryz.prog w = .ok (.value (.int .i64 (n : Int))) w := by
  simp [execOp, ho, hx, go_sem]
theorem rn_len49 {A : Option Addr} {n c : Nat} (ho : o.op = .call { callee := .builtin .len, args := #[x], argTypes := #[57] }) (hx : ev x = .slice A n c) : (execOp ev o).run Tryz.prog w = .ok (.value (.int .i64 (n : Int))) w := by
  simp [execOp, ho, hx, go_sem]
theorem rn_call1 {t : TypeId} {u : Value} {f : Operand} {F : Nat} (ho : o.op = .call { callee := .value f, args := #[x], argTypes := #[t] }) (hf : ev f = .func (.func F) #[] #[]) (hx : ev x = u) (he : (callFunc F #[u]).run Tryz.prog w = .ok (.enter F #[u]) w) : (execOp ev o).run Tryz.prog w = .ok (.enter F #[u]) w := by
  simp [execOp, ho, hf, hx, go_sem, he]
theorem rn_call2 {t t' : TypeId} {u v : Value} {f : Operand} {F : Nat} (ho : o.op = .call { callee := .value f, args := #[x, y], argTypes := #[t, t'] }) (hf : ev f = .func (.func F) #[] #[]) (hx : ev x = u) (hy : ev y = v) (he : (callFunc F #[u, v]).run Tryz.prog w = .ok (.enter F #[u, v]) w) : (execOp ev o).run Tryz.prog w = .ok (.enter F #[u, v]) w := by
  simp [execOp, ho, hf, hx, hy, go_sem, he]
theorem rn_bs108 {a b : Int} (ho : o.op = .buildSlice 112 2 #[(0, x), (1, y)]) (hx : ev x = .int .i64 a) (hy : ev y = .int .i64 b) : (execOp ev o).run Tryz.prog w = .ok (.value (.slice (some ⟨w.heap.size, 0, none⟩) 2 2)) (w.alloc (.cells #[.int .i64 a, .int .i64 b] 3)) := by
  simp [execOp, ho, hx, hy, go_sem]
theorem en36 (args : Array Value) (w : World) : (callFunc 36 args).run Tryz.prog w = .ok (.enter 36 args) w := by kernel_rfl
theorem en35 (args : Array Value) (w : World) : (callFunc 33 args).run Tryz.prog w = .ok (.enter 33 args) w := by kernel_rfl
theorem en57 (args : Array Value) (w : World) : (callFunc 51 args).run Tryz.prog w = .ok (.enter 51 args) w := by kernel_rfl
theorem en42 (args : Array Value) (w : World) : (callFunc 41 args).run Tryz.prog w = .ok (.enter 41 args) w := by kernel_rfl
theorem en56 (args : Array Value) (w : World) : (callFunc 50 args).run Tryz.prog w = .ok (.enter 50 args) w := by kernel_rfl
end
end Go.Proofs.YtknddbmnciodaaaGreat

