/- Single operations, as they are run. -/
import Derived.Test.YtnhekngmgjnodaaDoorTl
import Derived.Test.YtnhekngmgjnodaaDoorRd
namespace Go.Proofs.YtnhekngmgjnodaaDoor
open Go.RowKit
open Pa
set_option linter.unusedVariables false
section
variable {ev : Operand → Value} {o : Oper} {w : World} {x y z : Operand}
theorem rn_move {v : Value} (ho : o.op = .move x) (hx : ev x = v) : (execOp ev o).run Tryd.prog w = .ok (.value v) w := by
  subst hx; simp [execOp, ho, go_sem]
theorem rn_assign {v : Value} (ho : o.op = .assign x) (hx : ev x = v) : (execOp ev o).run Tryd.prog w = .ok (.value v) w := by
  subst hx; simp [execOp, ho, go_sem]
theorem rn_load3 {g k : Nat} {v : Value} (ho : o.op = .load 3 x) (hx : ev x = .pointer (some ⟨g, k, none⟩)) (hc : w.cell? ⟨g, k, none⟩ = some v) : (execOp ev o).run Tryd.prog w = .ok (.value v) w := by
  simp [execOp, ho, hx, go_sem, hc]
theorem rn_load9 {g k : Nat} {v : Value} (ho : o.op = .load 9 x) (hx : ev x = .pointer (some ⟨g, k, none⟩)) (hc : w.cell? ⟨g, k, none⟩ = some v) : (execOp ev o).run Tryd.prog w = .ok (.value v) w := by
  simp [execOp, ho, hx, go_sem, hc]
theorem rn_load25 {g k : Nat} {v : Value} (ho : o.op = .load 25 x) (hx : ev x = .pointer (some ⟨g, k, none⟩)) (hc : w.cell? ⟨g, k, none⟩ = some v) : (execOp ev o).run Tryd.prog w = .ok (.value v) w := by
  simp [execOp, ho, hx, go_sem, hc]
theorem rn_ix25 {g f n c i : Nat} (ho : o.op = .indexAddr 25 x y) (hx : ev x = .slice (some ⟨g, f, none⟩) n c) (hy : ev y = .int .i64 (i : Int)) (hi : i < n) : (execOp ev o).run Tryd.prog w = .ok (.value (.pointer (some ⟨g, f + i, none⟩))) w := by
  have q1 : (i : Int) < (n : Int) := by omega
  simp [execOp, ho, hx, hy, go_sem, q1]
theorem rn_ix22 {g f n c i : Nat} (ho : o.op = .indexAddr 22 x y) (hx : ev x = .slice (some ⟨g, f, none⟩) n c) (hy : ev y = .int .i64 (i : Int)) (hi : i < n) : (execOp ev o).run Tryd.prog w = .ok (.value (.pointer (some ⟨g, f + i * 3, none⟩))) w := by
  have q1 : (i : Int) < (n : Int) := by omega
  simp [execOp, ho, hx, hy, go_sem, q1]
theorem rn_fa38_0 {g k : Nat} (ho : o.op = .fieldAddr 38 x 0) (hx : ev x = .pointer (some ⟨g, k, none⟩)) : (execOp ev o).run Tryd.prog w = .ok (.value (.pointer (some ⟨g, k, none⟩))) w := by
  simp [execOp, ho, hx, go_sem]
theorem rn_fa38_1 {g k : Nat} (ho : o.op = .fieldAddr 38 x 1) (hx : ev x = .pointer (some ⟨g, k, none⟩)) : (execOp ev o).run Tryd.prog w = .ok (.value (.pointer (some ⟨g, k + 1, none⟩))) w := by
  simp [execOp, ho, hx, go_sem]
theorem rn_fa38_2 {g k : Nat} (ho : o.op = .fieldAddr 38 x 2) (hx : ev x = .pointer (some ⟨g, k, none⟩)) : (execOp ev o).run Tryd.prog w = .ok (.value (.pointer (some ⟨g, k + 2, none⟩))) w := by
  simp [execOp, ho, hx, go_sem]
theorem rn_len25 {A : Option Addr} {n c : Nat} (ho : o.op = .call { callee := .builtin .len, args := #[x], argTypes := #[25] }) (hx : ev x = .slice A n c) : (execOp ev o).run Tryd.prog w = .ok (.value (.int .i64 (n : Int))) w := by
  simp [execOp, ho, hx, go_sem]
theorem rn_len22 {A : Option Addr} {n c : Nat} (ho : o.op = .call { callee := .builtin .len, args := #[x], argTypes := #[22] }) (hx : ev x = .slice A n c) : (execOp ev o).run Tryd.prog w = .ok (.value (.int .i64 (n : Int))) w := by
  simp [execOp, ho, hx, go_sem]
theorem rn_call1 {t : TypeId} {u : Value} {f : Operand} {F : Nat} (ho : o.op = .call { callee := .value f, args := #[x], argTypes := #[t] }) (hf : ev f = .func (.func F) #[] #[]) (hx : ev x = u) (he : (callFunc F #[u]).run Tryd.prog w = .ok (.enter F #[u]) w) : (execOp ev o).run Tryd.prog w = .ok (.enter F #[u]) w := by
  simp [execOp, ho, hf, hx, go_sem, he]
theorem rn_call2 {t t' : TypeId} {u v : Value} {f : Operand} {F : Nat} (ho : o.op = .call { callee := .value f, args := #[x, y], argTypes := #[t, t'] }) (hf : ev f = .func (.func F) #[] #[]) (hx : ev x = u) (hy : ev y = v) (he : (callFunc F #[u, v]).run Tryd.prog w = .ok (.enter F #[u, v]) w) : (execOp ev o).run Tryd.prog w = .ok (.enter F #[u, v]) w := by
  simp [execOp, ho, hf, hx, hy, go_sem, he]
theorem rn_len9 {A : ByteArray} (ho : o.op = .call { callee := .builtin .len, args := #[x], argTypes := #[9] }) (hx : ev x = .string A) : (execOp ev o).run Tryd.prog w = .ok (.value (.int .i64 (A.size : Int))) w := by
  simp [execOp, ho, hx, go_sem]
theorem rn_not {b c : Bool} (ho : o.op = .unOp .not 4 x) (hx : ev x = .bool b) (hc : (!b) = c) : (execOp ev o).run Tryd.prog w = .ok (.value (.bool c)) w := by
  subst hc; simp [execOp, ho, hx, go_sem]
theorem rn_neq3 {u v : Int} {c : Bool} (ho : o.op = .binOp .neq 3 x y 3) (hx : ev x = .int .i64 u) (hy : ev y = .int .i64 v) (hc : (u != v) = c) : (execOp ev o).run Tryd.prog w = .ok (.value (.bool c)) w := by
  subst hc; simp [execOp, ho, hx, hy, go_sem]
theorem rn_gtr3 {u v : Int} {c : Bool} (ho : o.op = .binOp .gtr 3 x y 3) (hx : ev x = .int .i64 u) (hy : ev y = .int .i64 v) (hc : decide (v < u) = c) : (execOp ev o).run Tryd.prog w = .ok (.value (.bool c)) w := by
  subst hc; simp [execOp, ho, hx, hy, go_sem]
theorem rn_lss3 {u v : Int} {c : Bool} (ho : o.op = .binOp .lss 3 x y 3) (hx : ev x = .int .i64 u) (hy : ev y = .int .i64 v) (hc : decide (u < v) = c) : (execOp ev o).run Tryd.prog w = .ok (.value (.bool c)) w := by
  subst hc; simp [execOp, ho, hx, hy, go_sem]
theorem rn_sub3 {u v r : Int} (ho : o.op = .binOp .sub 3 x y 3) (hx : ev x = .int .i64 u) (hy : ev y = .int .i64 v) (hc : IntKind.i64.wrap (u - v) = r) : (execOp ev o).run Tryd.prog w = .ok (.value (.int .i64 r)) w := by
  subst hc; simp [execOp, ho, hx, hy, go_sem]
theorem rn_pickF {v : Value} (ho : o.op = .pick x y z) (hx : ev x = .bool false) (hz : ev z = v) : (execOp ev o).run Tryd.prog w = .ok (.value v) w := by
  subst hz; simp [execOp, ho, hx, go_sem]
theorem rn_pickT {v : Value} (ho : o.op = .pick x y z) (hx : ev x = .bool true) (hy : ev y = v) : (execOp ev o).run Tryd.prog w = .ok (.value v) w := by
  subst hy; simp [execOp, ho, hx, go_sem]
theorem rn_bs25 {p : ByteArray} (ho : o.op = .buildSlice 25 1 #[(0, x)]) (hx : ev x = .string p) : (execOp ev o).run Tryd.prog w = .ok (.value (.slice (some ⟨w.heap.size, 0, none⟩) 1 1)) (w.alloc (.cells #[.string p] 9)) := by
  simp [execOp, ho, hx, go_sem]
theorem en24 (args : Array Value) (w : World) : (callFunc 24 args).run Tryd.prog w = .ok (.enter 24 args) w := by kernel_rfl
end
theorem row_below {W W' : World} {b : Nat} {e : TypeId} {size : Nat} {v : Value} {k : Nat} {xs : List Value} (h : W.ownsRow b e size v k xs) (hb : Below W.heap.size W W') : W'.ownsRow b e size v k xs := own_below h hb (Nat.le_refl _)
theorem row_set {W : World} {b : Nat} {e : TypeId} {size : Nat} {v : Value} {k : Nat} {xs : List Value} (h : W.ownsRow b e size v k xs) (j i : Nat) (u : Value) (hj : j < b) : (W.setCell ⟨j, i, none⟩ u).ownsRow b e size v k xs := by
  refine ⟨h.1, ?_⟩
  rcases h.2 with hn | ⟨g, cap, cur, hv, hbg, hh, rest⟩
  · exact .inl hn
  · exact .inr ⟨g, cap, cur, hv, hbg, (Below.heap_setCell _ _ _ _ (by show g ≠ j; omega)).trans hh, rest⟩
theorem info9z : (Tryd.prog.info? 9).map (fun i => (i.zero, i.size, i.bytes)) = some (some (.string ⟨#[]⟩), 1, 16) := by kernel_rfl
theorem info3z : (Tryd.prog.info? 3).map (fun i => (i.zero, i.size, i.bytes)) = some (some (.int .i64 0), 1, 8) := by kernel_rfl
theorem toL_len (s : ByteArray) : s.toList.length = s.size := by rw [ByteArray.toList_eq]; rfl
theorem toL_no {s : ByteArray} (h : ¬ s.size = 0) : s.toList.isEmpty = false := by
  cases e : s.toList with
  | nil => rw [← toL_len, e] at h; exact absurd rfl h
  | cons a b => rfl
theorem empty_iff (s : ByteArray) : s = ⟨#[]⟩ ↔ s.size = 0 := by
  constructor
  · rintro rfl; rfl
  · intro h
    apply ByteArray.ext
    apply Array.eq_empty_of_size_eq_zero
    exact h
end Go.Proofs.YtnhekngmgjnodaaDoor
