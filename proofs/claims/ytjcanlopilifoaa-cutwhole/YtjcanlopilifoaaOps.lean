/- What single operations do, over any frame. -/
import Derived.Test.YtjcanlopilifoaaWalks
namespace Go.Proofs.Ytjcanlopilifoaa
open Go.RowKit
open Gr
set_option linter.unusedVariables false
section
variable {ev : Operand → Value} {o : Oper} {w : World} {x y z : Operand}
theorem rn_ix24 {g n c i : Nat} (ho : o.op = .indexAddr 24 x y) (hx : ev x = .slice (some ⟨g, 0, none⟩) n c) (hy : ev y = .int .i64 (i : Int)) (hi : i < n) : (execOp ev o).run Try.prog w = .ok (.value (.pointer (some ⟨g, i, none⟩))) w := by
  have q1 : (i : Int) < (n : Int) := by omega
  simp [execOp, ho, hx, hy, go_sem, q1]
theorem rn_ix27 {g n c i : Nat} (ho : o.op = .indexAddr 27 x y) (hx : ev x = .slice (some ⟨g, 0, none⟩) n c) (hy : ev y = .int .i64 (i : Int)) (hi : i < n) : (execOp ev o).run Try.prog w = .ok (.value (.pointer (some ⟨g, i, none⟩))) w := by
  have q1 : (i : Int) < (n : Int) := by omega
  simp [execOp, ho, hx, hy, go_sem, q1]
theorem rn_len9 {A : ByteArray} (ho : o.op = .call { callee := .builtin .len, args := #[x], argTypes := #[9] }) (hx : ev x = .string A) : (execOp ev o).run Try.prog w = .ok (.value (.int .i64 (A.size : Int))) w := by
  simp [execOp, ho, hx, go_sem]
theorem rn_len27 {A : Option Addr} {n c : Nat} (ho : o.op = .call { callee := .builtin .len, args := #[x], argTypes := #[27] }) (hx : ev x = .slice A n c) : (execOp ev o).run Try.prog w = .ok (.value (.int .i64 (n : Int))) w := by
  simp [execOp, ho, hx, go_sem]
theorem rn_addI {u v s : Int} (ho : o.op = .binOp .add 3 x y 3) (hx : ev x = .int .i64 u) (hy : ev y = .int .i64 v) (hz : IntKind.i64.wrap (u + v) = s) : (execOp ev o).run Try.prog w = .ok (.value (.int .i64 s)) w := by
  subst hz
  simp [execOp, ho, hx, hy, go_sem]
theorem rn_subI {u v s : Int} (ho : o.op = .binOp .sub 3 x y 3) (hx : ev x = .int .i64 u) (hy : ev y = .int .i64 v) (hz : IntKind.i64.wrap (u - v) = s) : (execOp ev o).run Try.prog w = .ok (.value (.int .i64 s)) w := by
  subst hz
  simp [execOp, ho, hx, hy, go_sem]
theorem rn_gtr3 {u v : Int} {c : Bool} (ho : o.op = .binOp .gtr 3 x y 3) (hx : ev x = .int .i64 u) (hy : ev y = .int .i64 v) (hc : decide (v < u) = c) : (execOp ev o).run Try.prog w = .ok (.value (.bool c)) w := by
  subst hc
  simp [execOp, ho, hx, hy, go_sem]
theorem rn_geq3 {u v : Int} {c : Bool} (ho : o.op = .binOp .geq 3 x y 3) (hx : ev x = .int .i64 u) (hy : ev y = .int .i64 v) (hc : decide (v ≤ u) = c) : (execOp ev o).run Try.prog w = .ok (.value (.bool c)) w := by
  subst hc
  simp [execOp, ho, hx, hy, go_sem]
theorem rn_neq3 {u v : Int} {c : Bool} (ho : o.op = .binOp .neq 3 x y 3) (hx : ev x = .int .i64 u) (hy : ev y = .int .i64 v) (hc : (u != v) = c) : (execOp ev o).run Try.prog w = .ok (.value (.bool c)) w := by
  subst hc
  simp [execOp, ho, hx, hy, go_sem]
theorem rn_sl9x {A p : ByteArray} {lo hi : Nat} (ho : o.op = .slice 9 x (some y) (some z) none) (hx : ev x = .string A) (hy : ev y = .int .i64 (lo : Int)) (hz : ev z = .int .i64 (hi : Int)) (h1 : lo ≤ hi) (h2 : hi ≤ A.size) (hp : A.extract lo hi = p) : (execOp ev o).run Try.prog w = .ok (.value (.string p)) w := by
  subst hp
  exact rn_sl9 ho hx hy hz h1 h2
theorem rn_neqS {u : ByteArray} (ho : o.op = .binOp .neq 9 x y 9) (hx : ev x = .string u) (hy : ev y = .string u) : (execOp ev o).run Try.prog w = .ok (.value (.bool false)) w := by
  simp [execOp, ho, hx, hy, go_sem]
theorem rn_pickF {v : Value} (ho : o.op = .pick x y z) (hx : ev x = .bool false) (hz : ev z = v) : (execOp ev o).run Try.prog w = .ok (.value v) w := by
  subst hz; simp [execOp, ho, hx, go_sem]
end
end Go.Proofs.Ytjcanlopilifoaa
