/- What single operations do, over any frame. -/
import Derived.Test.YtnihohcdamhidaaChain
import Derived.Test.YtnihohcdamhidaaLit
namespace Go.Proofs.Ytnihohcdamhidaa
open Go.RowKit
theorem wantS_some {base g : Nat} {o : Oper} {a : Act} (hg : o.guard = some (g, true)) (h : a.tmps.getD (base + g) undef = .bool true) : wantS base o a = true := by
  simp only [wantS, hg, h]; rfl
theorem wantS_somef {base g : Nat} {o : Oper} {a : Act} (hg : o.guard = some (g, false)) (h : a.tmps.getD (base + g) undef = .bool false) : wantS base o a = true := by
  simp only [wantS, hg, h]; rfl
theorem wantS_none {base : Nat} {o : Oper} {a : Act} (hg : o.guard = none) : wantS base o a = true := by
  simp only [wantS, hg]
theorem rn_move {ev : Operand → Value} {o : Oper} {w : World} {x : Operand} {v : Value} (ho : o.op = .move x) (hx : ev x = v) : (execOp ev o).run Try.prog w = .ok (.value v) w := by
  subst hx; simp [execOp, ho, go_sem]
theorem rn_assign {ev : Operand → Value} {o : Oper} {w : World} {x : Operand} {v : Value} (ho : o.op = .assign x) (hx : ev x = v) : (execOp ev o).run Try.prog w = .ok (.value v) w := by
  subst hx; simp [execOp, ho, go_sem]
theorem rn_pick {ev : Operand → Value} {o : Oper} {w : World} {c t f : Operand} {v : Value} (ho : o.op = .pick c t f) (hc : ev c = .bool true) (ht : ev t = v) : (execOp ev o).run Try.prog w = .ok (.value v) w := by
  subst ht; simp [execOp, ho, hc, go_sem]
theorem rn_pickf {ev : Operand → Value} {o : Oper} {w : World} {c t f : Operand} {v : Value} (ho : o.op = .pick c t f) (hc : ev c = .bool false) (ht : ev f = v) : (execOp ev o).run Try.prog w = .ok (.value v) w := by
  subst ht; simp [execOp, ho, hc, go_sem]
theorem rn_not {ev : Operand → Value} {o : Oper} {w : World} {x : Operand} {b : Bool} (ho : o.op = .unOp .not 4 x) (hx : ev x = .bool b) : (execOp ev o).run Try.prog w = .ok (.value (.bool !b)) w := by
  simp [execOp, ho, hx, go_sem]
theorem rn_eql {ev : Operand → Value} {o : Oper} {w : World} {t t' : TypeId} {x y : Operand} {k : IntKind} {m n : Int} (ho : o.op = .binOp .eql t x y t') (hx : ev x = .int k m) (hy : ev y = .int k n) : (execOp ev o).run Try.prog w = .ok (.value (.bool (m == n))) w := by
  simp [execOp, ho, hx, hy, go_sem]
theorem rn_eqlT {ev : Operand → Value} {o : Oper} {w : World} {t t' : TypeId} {x y : Operand} {k : IntKind} {n : Int} (ho : o.op = .binOp .eql t x y t') (hx : ev x = .int k n) (hy : ev y = .int k n) : (execOp ev o).run Try.prog w = .ok (.value (.bool true)) w := by
  rw [rn_eql ho hx hy]; simp
theorem rn_len {ev : Operand → Value} {o : Oper} {w : World} {x : Operand} {a : Option Addr} {n c : Nat} (ho : o.op = .call { callee := .builtin .len, args := #[x], argTypes := #[32] }) (hx : ev x = .slice a n c) : (execOp ev o).run Try.prog w = .ok (.value (.int .i64 (n : Int))) w := by
  have hl := run_len_slice (P := Try.prog) (w := w) 32 o.type a n c (by kernel_rfl)
  simp [execOp, ho, hx, go_sem, hl]
theorem rn_at {ev : Operand → Value} {o : Oper} {w : World} {x : Operand} {g n c k : Nat} (ho : o.op = .indexAddr 32 x (.const (.int .i64 (k : Int)))) (hx : ev x = .slice (some ⟨g, 0, none⟩) n c) (hk : ev (.const (.int .i64 (k : Int))) = .int .i64 (k : Int)) (h : k < n) : (execOp ev o).run Try.prog w = .ok (.value (.pointer (some ⟨g, k, none⟩))) w := by
  have h1 : (k : Int) < (n : Int) := by omega
  simp [execOp, ho, hx, hk, go_sem, h1, Try.underlying32]
theorem rn_load {ev : Operand → Value} {o : Oper} {w : World} {x : Operand} {g k : Nat} {v : Value} (ho : o.op = .load 5 x) (hx : ev x = .pointer (some ⟨g, k, none⟩)) (hc : w.cell? ⟨g, k, none⟩ = some v) : (execOp ev o).run Try.prog w = .ok (.value v) w := by
  simp [execOp, ho, hx, go_sem, hc]
theorem rn_conv {ev : Operand → Value} {o : Oper} {w : World} {x : Operand} {v : Value} {s : ByteArray} (ho : o.op = .convert 32 9 x) (hx : ev x = v) (hc : (convert 32 9 v).run Try.prog w = .ok (.string s) w) : (execOp ev o).run Try.prog w = .ok (.value (.string s)) w := by
  simp [execOp, ho, hx, go_sem, hc]
theorem enter15 {w : World} (args : Array Value) : (callFunc 15 args).run Try.prog w = .ok (.enter 15 args) w := by kernel_rfl
theorem enter29 {w : World} (args : Array Value) : (callFunc 29 args).run Try.prog w = .ok (.enter 29 args) w := by kernel_rfl
theorem enter31 {w : World} (args : Array Value) : (callFunc 31 args).run Try.prog w = .ok (.enter 31 args) w := by kernel_rfl
theorem rn_call2 {ev : Operand → Value} {o : Oper} {w : World} {f : FuncId} {x y : Operand} {t t' : TypeId} {u v : Value} (ho : o.op = .call { callee := .value (.func f), args := #[x, y], argTypes := #[t, t'] }) (hf : ev (.func f) = .func (.func f) #[] #[]) (hx : ev x = u) (hy : ev y = v) (hb : (callFunc f #[u, v]).run Try.prog w = .ok (.enter f #[u, v]) w) : (execOp ev o).run Try.prog w = .ok (.enter f #[u, v]) w := by
  simp [execOp, ho, hx, hy, hf, go_sem, hb]
theorem rn_call3 {ev : Operand → Value} {o : Oper} {w : World} {f : FuncId} {x y z : Operand} {t t' t'' : TypeId} {u v r : Value} (ho : o.op = .call { callee := .value (.func f), args := #[x, y, z], argTypes := #[t, t', t''] }) (hf : ev (.func f) = .func (.func f) #[] #[]) (hx : ev x = u) (hy : ev y = v) (hz : ev z = r) (hb : (callFunc f #[u, v, r]).run Try.prog w = .ok (.enter f #[u, v, r]) w) : (execOp ev o).run Try.prog w = .ok (.enter f #[u, v, r]) w := by
  simp [execOp, ho, hx, hy, hz, hf, go_sem, hb]
theorem rn_call1 {ev : Operand → Value} {o : Oper} {w : World} {f : FuncId} {x : Operand} {t : TypeId} {u : Value} (ho : o.op = .call { callee := .value (.func f), args := #[x], argTypes := #[t] }) (hf : ev (.func f) = .func (.func f) #[] #[]) (hx : ev x = u) (hb : (callFunc f #[u]).run Try.prog w = .ok (.enter f #[u]) w) : (execOp ev o).run Try.prog w = .ok (.enter f #[u]) w := by
  simp [execOp, ho, hx, hf, go_sem, hb]
theorem rn_b32 {ev : Operand → Value} {o : Oper} {w : World} {x y : Operand} {m n : Int} (ho : o.op = .buildSlice 32 2 #[(0, x), (1, y)]) (hx : ev x = .int .u8 m) (hy : ev y = .int .u8 n) :
    (execOp ev o).run Try.prog w = .ok (.value (.slice (some ⟨w.heap.size, 0, none⟩) 2 2)) (w.alloc (.cells #[.int .u8 m, .int .u8 n] 5)) := by
  simp [execOp, ho, hx, hy, go_sem]
theorem rn_b57 {ev : Operand → Value} {o : Oper} {w : World} {x y : Operand} {m n : ByteArray} (ho : o.op = .buildSlice 57 2 #[(0, x), (1, y)]) (hx : ev x = .string m) (hy : ev y = .string n) :
    (execOp ev o).run Try.prog w = .ok (.value (.slice (some ⟨w.heap.size, 0, none⟩) 2 2)) (w.alloc (.cells #[.string m, .string n] 9)) := by
  simp [execOp, ho, hx, hy, go_sem]
theorem rn_b574 {ev : Operand → Value} {o : Oper} {w : World} {x y z u : Operand} {m n k l : ByteArray} (ho : o.op = .buildSlice 57 4 #[(0, x), (1, y), (2, z), (3, u)]) (hx : ev x = .string m) (hy : ev y = .string n) (hz : ev z = .string k) (hu : ev u = .string l) :
    (execOp ev o).run Try.prog w = .ok (.value (.slice (some ⟨w.heap.size, 0, none⟩) 4 4)) (w.alloc (.cells #[.string m, .string n, .string k, .string l] 9)) := by
  simp [execOp, ho, hx, hy, hz, hu, go_sem]
theorem fall {p : Nat → Prop} {n : Nat} (h : p n) (hs : ∀ d, d < n → p d) : ∀ d, d < n + 1 → p d := fun d hd => by
  by_cases he : d = n
  · subst he; exact h
  · exact hs d (by omega)
end Go.Proofs.Ytnihohcdamhidaa
