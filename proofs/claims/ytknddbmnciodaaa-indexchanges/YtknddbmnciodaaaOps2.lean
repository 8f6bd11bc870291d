/- More single operations, as they are run. -/
import Derived.Test.YtknddbmnciodaaaOps
namespace Go.Proofs.Ytknddbmnciodaaa
open Go.RowKit
open Ix
set_option linter.unusedVariables false
section
variable {ev : Operand → Value} {o : Oper} {w : World} {x y z : Operand}
theorem rn_len9 {A : ByteArray} (ho : o.op = .call { callee := .builtin .len, args := #[x], argTypes := #[9] }) (hx : ev x = .string A) : (execOp ev o).run Try.prog w = .ok (.value (.int .i64 (A.size : Int))) w := by
  simp [execOp, ho, hx, go_sem]
theorem rn_not {b c : Bool} (ho : o.op = .unOp .not 4 x) (hx : ev x = .bool b) (hc : (!b) = c) : (execOp ev o).run Try.prog w = .ok (.value (.bool c)) w := by
  subst hc; simp [execOp, ho, hx, go_sem]
theorem rn_neq3 {u v : Int} {c : Bool} (ho : o.op = .binOp .neq 3 x y 3) (hx : ev x = .int .i64 u) (hy : ev y = .int .i64 v) (hc : (u != v) = c) : (execOp ev o).run Try.prog w = .ok (.value (.bool c)) w := by
  subst hc; simp [execOp, ho, hx, hy, go_sem]
theorem rn_gtr3 {u v : Int} {c : Bool} (ho : o.op = .binOp .gtr 3 x y 3) (hx : ev x = .int .i64 u) (hy : ev y = .int .i64 v) (hc : decide (v < u) = c) : (execOp ev o).run Try.prog w = .ok (.value (.bool c)) w := by
  subst hc; simp [execOp, ho, hx, hy, go_sem]
theorem rn_lss3 {u v : Int} {c : Bool} (ho : o.op = .binOp .lss 3 x y 3) (hx : ev x = .int .i64 u) (hy : ev y = .int .i64 v) (hc : decide (u < v) = c) : (execOp ev o).run Try.prog w = .ok (.value (.bool c)) w := by
  subst hc; simp [execOp, ho, hx, hy, go_sem]
theorem rn_geq3 {u v : Int} {c : Bool} (ho : o.op = .binOp .geq 3 x y 3) (hx : ev x = .int .i64 u) (hy : ev y = .int .i64 v) (hc : decide (v ≤ u) = c) : (execOp ev o).run Try.prog w = .ok (.value (.bool c)) w := by
  subst hc; simp [execOp, ho, hx, hy, go_sem]
theorem rn_sub3 {u v r : Int} (ho : o.op = .binOp .sub 3 x y 3) (hx : ev x = .int .i64 u) (hy : ev y = .int .i64 v) (hc : IntKind.i64.wrap (u - v) = r) : (execOp ev o).run Try.prog w = .ok (.value (.int .i64 r)) w := by
  subst hc; simp [execOp, ho, hx, hy, go_sem]
theorem rn_geq9 {u v : ByteArray} {c : Bool} (ho : o.op = .binOp .geq 9 x y 9) (hx : ev x = .string u) (hy : ev y = .string v) (hc : (!lt u v) = c) : (execOp ev o).run Try.prog w = .ok (.value (.bool c)) w := by
  subst hc; rw [← bl]; simp [execOp, ho, hx, hy, go_sem]
theorem rn_gtr9 {u v : ByteArray} {c : Bool} (ho : o.op = .binOp .gtr 9 x y 9) (hx : ev x = .string u) (hy : ev y = .string v) (hc : lt v u = c) : (execOp ev o).run Try.prog w = .ok (.value (.bool c)) w := by
  subst hc; rw [← gtr_eq]; simp [execOp, ho, hx, hy, go_sem]
theorem rn_pickF {v : Value} (ho : o.op = .pick x y z) (hx : ev x = .bool false) (hz : ev z = v) : (execOp ev o).run Try.prog w = .ok (.value v) w := by
  subst hz; simp [execOp, ho, hx, go_sem]
theorem rn_pickT {v : Value} (ho : o.op = .pick x y z) (hx : ev x = .bool true) (hy : ev y = v) : (execOp ev o).run Try.prog w = .ok (.value v) w := by
  subst hy; simp [execOp, ho, hx, go_sem]
theorem en29 (args : Array Value) (w : World) : (callFunc 29 args).run Try.prog w = .ok (.enter 29 args) w := by kernel_rfl
theorem en30 (args : Array Value) (w : World) : (callFunc 30 args).run Try.prog w = .ok (.enter 30 args) w := by kernel_rfl
theorem en11 (args : Array Value) (w : World) : (callFunc 11 args).run Try.prog w = .ok (.enter 11 args) w := by kernel_rfl
end
end Go.Proofs.Ytknddbmnciodaaa
