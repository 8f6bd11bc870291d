/- Single operations, as they are run. -/
import Derived.Test.YtjhjolnflkekoaaDoorPcs
import Derived.Test.YtjhjolnflkekoaaDoorTl
namespace Go.Proofs.YtjhjolnflkekoaaDoor
open Go.RowKit Go.Maps
open Pk
set_option linter.unusedVariables false
section
variable {ev : Operand → Value} {o : Oper} {w : World} {x y z : Operand}
theorem rn_move {v : Value} (ho : o.op = .move x) (hx : ev x = v) : (execOp ev o).run Tryd.prog w = .ok (.value v) w := by
  subst hx; simp [execOp, ho, go_sem]
theorem rn_assign {v : Value} (ho : o.op = .assign x) (hx : ev x = v) : (execOp ev o).run Tryd.prog w = .ok (.value v) w := by
  subst hx; simp [execOp, ho, go_sem]
theorem rn_load3 {g k : Nat} {v : Value} (ho : o.op = .load 3 x) (hx : ev x = .pointer (some ⟨g, k, none⟩)) (hc : w.cell? ⟨g, k, none⟩ = some v) : (execOp ev o).run Tryd.prog w = .ok (.value v) w := by
  simp [execOp, ho, hx, go_sem, hc]
theorem rn_load9 {g k : Nat} {v : Value} (ho : o.op = .load 9 x) (hx : ev x = .pointer (some ⟨g, k, none⟩)) (hc : w.cell? ⟨g, k, none⟩ = some v) : (execOp ev o).run Tryd.prog w = .ok (.value v) w := by
  simp [execOp, ho, hx, go_sem, hc]
theorem rn_load22 {g k : Nat} {v : Value} (ho : o.op = .load 22 x) (hx : ev x = .pointer (some ⟨g, k, none⟩)) (hc : w.cell? ⟨g, k, none⟩ = some v) : (execOp ev o).run Tryd.prog w = .ok (.value v) w := by
  simp [execOp, ho, hx, go_sem, hc]
theorem rn_load25 {g k : Nat} {v : Value} (ho : o.op = .load 25 x) (hx : ev x = .pointer (some ⟨g, k, none⟩)) (hc : w.cell? ⟨g, k, none⟩ = some v) : (execOp ev o).run Tryd.prog w = .ok (.value v) w := by
  simp [execOp, ho, hx, go_sem, hc]
theorem rn_load29 {g k : Nat} {v : Value} (ho : o.op = .load 29 x) (hx : ev x = .pointer (some ⟨g, k, none⟩)) (hc : w.cell? ⟨g, k, none⟩ = some v) : (execOp ev o).run Tryd.prog w = .ok (.value v) w := by
  simp [execOp, ho, hx, go_sem, hc]
theorem rn_load32 {g k : Nat} {v : Value} (ho : o.op = .load 32 x) (hx : ev x = .pointer (some ⟨g, k, none⟩)) (hc : w.cell? ⟨g, k, none⟩ = some v) : (execOp ev o).run Tryd.prog w = .ok (.value v) w := by
  simp [execOp, ho, hx, go_sem, hc]
theorem rn_ix22 {g n c i : Nat} (ho : o.op = .indexAddr 22 x y) (hx : ev x = .slice (some ⟨g, 0, none⟩) n c) (hy : ev y = .int .i64 (i : Int)) (hi : i < n) : (execOp ev o).run Tryd.prog w = .ok (.value (.pointer (some ⟨g, i, none⟩))) w := by
  have q1 : (i : Int) < (n : Int) := by omega
  simp [execOp, ho, hx, hy, go_sem, q1]
theorem rn_ix25 {g n c i : Nat} (ho : o.op = .indexAddr 25 x y) (hx : ev x = .slice (some ⟨g, 0, none⟩) n c) (hy : ev y = .int .i64 (i : Int)) (hi : i < n) : (execOp ev o).run Tryd.prog w = .ok (.value (.pointer (some ⟨g, i * 4, none⟩))) w := by
  have q1 : (i : Int) < (n : Int) := by omega
  simp [execOp, ho, hx, hy, go_sem, q1]
theorem rn_ix29 {g n c i : Nat} (ho : o.op = .indexAddr 29 x y) (hx : ev x = .slice (some ⟨g, 0, none⟩) n c) (hy : ev y = .int .i64 (i : Int)) (hi : i < n) : (execOp ev o).run Tryd.prog w = .ok (.value (.pointer (some ⟨g, i * 4, none⟩))) w := by
  have q1 : (i : Int) < (n : Int) := by omega
  simp [execOp, ho, hx, hy, go_sem, q1]
theorem rn_ix32 {g n c i : Nat} (ho : o.op = .indexAddr 32 x y) (hx : ev x = .slice (some ⟨g, 0, none⟩) n c) (hy : ev y = .int .i64 (i : Int)) (hi : i < n) : (execOp ev o).run Tryd.prog w = .ok (.value (.pointer (some ⟨g, i * 3, none⟩))) w := by
  have q1 : (i : Int) < (n : Int) := by omega
  simp [execOp, ho, hx, hy, go_sem, q1]
theorem rn_ix43 {g n c i : Nat} (ho : o.op = .indexAddr 43 x y) (hx : ev x = .slice (some ⟨g, 0, none⟩) n c) (hy : ev y = .int .i64 (i : Int)) (hi : i < n) : (execOp ev o).run Tryd.prog w = .ok (.value (.pointer (some ⟨g, i, none⟩))) w := by
  have q1 : (i : Int) < (n : Int) := by omega
  simp [execOp, ho, hx, hy, go_sem, q1]
theorem rn_ixo {g f n c i : Nat} (ho : o.op = .indexAddr 22 x y) (hx : ev x = .slice (some ⟨g, f, none⟩) n c) (hy : ev y = .int .i64 (i : Int)) (hi : i < n) : (execOp ev o).run Tryd.prog w = .ok (.value (.pointer (some ⟨g, f + i, none⟩))) w := by
  have q1 : (i : Int) < (n : Int) := by omega
  simp [execOp, ho, hx, hy, go_sem, q1]
theorem rn_fa34_0 {g k : Nat} (ho : o.op = .fieldAddr 34 x 0) (hx : ev x = .pointer (some ⟨g, k, none⟩)) : (execOp ev o).run Tryd.prog w = .ok (.value (.pointer (some ⟨g, k, none⟩))) w := by
  simp [execOp, ho, hx, go_sem]
theorem rn_fa34_1 {g k : Nat} (ho : o.op = .fieldAddr 34 x 1) (hx : ev x = .pointer (some ⟨g, k, none⟩)) : (execOp ev o).run Tryd.prog w = .ok (.value (.pointer (some ⟨g, k + 1, none⟩))) w := by
  simp [execOp, ho, hx, go_sem]
theorem rn_fa34_2 {g k : Nat} (ho : o.op = .fieldAddr 34 x 2) (hx : ev x = .pointer (some ⟨g, k, none⟩)) : (execOp ev o).run Tryd.prog w = .ok (.value (.pointer (some ⟨g, k + 2, none⟩))) w := by
  simp [execOp, ho, hx, go_sem]
theorem rn_fa34_3 {g k : Nat} (ho : o.op = .fieldAddr 34 x 3) (hx : ev x = .pointer (some ⟨g, k, none⟩)) : (execOp ev o).run Tryd.prog w = .ok (.value (.pointer (some ⟨g, k + 3, none⟩))) w := by
  simp [execOp, ho, hx, go_sem]
theorem rn_fa39_0 {g k : Nat} (ho : o.op = .fieldAddr 39 x 0) (hx : ev x = .pointer (some ⟨g, k, none⟩)) : (execOp ev o).run Tryd.prog w = .ok (.value (.pointer (some ⟨g, k, none⟩))) w := by
  simp [execOp, ho, hx, go_sem]
theorem rn_fa39_1 {g k : Nat} (ho : o.op = .fieldAddr 39 x 1) (hx : ev x = .pointer (some ⟨g, k, none⟩)) : (execOp ev o).run Tryd.prog w = .ok (.value (.pointer (some ⟨g, k + 1, none⟩))) w := by
  simp [execOp, ho, hx, go_sem]
theorem rn_fa39_2 {g k : Nat} (ho : o.op = .fieldAddr 39 x 2) (hx : ev x = .pointer (some ⟨g, k, none⟩)) : (execOp ev o).run Tryd.prog w = .ok (.value (.pointer (some ⟨g, k + 2, none⟩))) w := by
  simp [execOp, ho, hx, go_sem]
theorem rn_fa39_3 {g k : Nat} (ho : o.op = .fieldAddr 39 x 3) (hx : ev x = .pointer (some ⟨g, k, none⟩)) : (execOp ev o).run Tryd.prog w = .ok (.value (.pointer (some ⟨g, k + 3, none⟩))) w := by
  simp [execOp, ho, hx, go_sem]
theorem rn_fa42_0 {g k : Nat} (ho : o.op = .fieldAddr 42 x 0) (hx : ev x = .pointer (some ⟨g, k, none⟩)) : (execOp ev o).run Tryd.prog w = .ok (.value (.pointer (some ⟨g, k, none⟩))) w := by
  simp [execOp, ho, hx, go_sem]
theorem rn_fa42_1 {g k : Nat} (ho : o.op = .fieldAddr 42 x 1) (hx : ev x = .pointer (some ⟨g, k, none⟩)) : (execOp ev o).run Tryd.prog w = .ok (.value (.pointer (some ⟨g, k + 1, none⟩))) w := by
  simp [execOp, ho, hx, go_sem]
theorem rn_fa42_2 {g k : Nat} (ho : o.op = .fieldAddr 42 x 2) (hx : ev x = .pointer (some ⟨g, k, none⟩)) : (execOp ev o).run Tryd.prog w = .ok (.value (.pointer (some ⟨g, k + 2, none⟩))) w := by
  simp [execOp, ho, hx, go_sem]
theorem rn_len22 {A : Option Addr} {n c : Nat} (ho : o.op = .call { callee := .builtin .len, args := #[x], argTypes := #[22] }) (hx : ev x = .slice A n c) : (execOp ev o).run Tryd.prog w = .ok (.value (.int .i64 (n : Int))) w := by
  simp [execOp, ho, hx, go_sem]
theorem rn_len25 {A : Option Addr} {n c : Nat} (ho : o.op = .call { callee := .builtin .len, args := #[x], argTypes := #[25] }) (hx : ev x = .slice A n c) : (execOp ev o).run Tryd.prog w = .ok (.value (.int .i64 (n : Int))) w := by
  simp [execOp, ho, hx, go_sem]
theorem rn_len29 {A : Option Addr} {n c : Nat} (ho : o.op = .call { callee := .builtin .len, args := #[x], argTypes := #[29] }) (hx : ev x = .slice A n c) : (execOp ev o).run Tryd.prog w = .ok (.value (.int .i64 (n : Int))) w := by
  simp [execOp, ho, hx, go_sem]
theorem rn_len32 {A : Option Addr} {n c : Nat} (ho : o.op = .call { callee := .builtin .len, args := #[x], argTypes := #[32] }) (hx : ev x = .slice A n c) : (execOp ev o).run Tryd.prog w = .ok (.value (.int .i64 (n : Int))) w := by
  simp [execOp, ho, hx, go_sem]
theorem rn_len9 {A : ByteArray} {n : Nat} (ho : o.op = .call { callee := .builtin .len, args := #[x], argTypes := #[9] }) (hx : ev x = .string A) (hn : A.size = n) : (execOp ev o).run Tryd.prog w = .ok (.value (.int .i64 (n : Int))) w := by
  subst hn; simp [execOp, ho, hx, go_sem]
theorem rn_not {b c : Bool} (ho : o.op = .unOp .not 4 x) (hx : ev x = .bool b) (hc : (!b) = c) : (execOp ev o).run Tryd.prog w = .ok (.value (.bool c)) w := by
  subst hc
  simp [execOp, ho, hx, go_sem]
theorem rn_neq26 {u v : Int} {c : Bool} (ho : o.op = .binOp .neq 26 x y 26) (hx : ev x = .int .i64 u) (hy : ev y = .int .i64 v) (hc : (u != v) = c) : (execOp ev o).run Tryd.prog w = .ok (.value (.bool c)) w := by
  subst hc; simp [execOp, ho, hx, hy, go_sem]
theorem rn_eql26 {u v : Int} {c : Bool} (ho : o.op = .binOp .eql 26 x y 26) (hx : ev x = .int .i64 u) (hy : ev y = .int .i64 v) (hc : (u == v) = c) : (execOp ev o).run Tryd.prog w = .ok (.value (.bool c)) w := by
  subst hc; simp [execOp, ho, hx, hy, go_sem]
theorem rn_eql3 {u v : Int} {c : Bool} (ho : o.op = .binOp .eql 3 x y 3) (hx : ev x = .int .i64 u) (hy : ev y = .int .i64 v) (hc : (u == v) = c) : (execOp ev o).run Tryd.prog w = .ok (.value (.bool c)) w := by
  subst hc; simp [execOp, ho, hx, hy, go_sem]
theorem rn_neq3 {u v : Int} {c : Bool} (ho : o.op = .binOp .neq 3 x y 3) (hx : ev x = .int .i64 u) (hy : ev y = .int .i64 v) (hc : (u != v) = c) : (execOp ev o).run Tryd.prog w = .ok (.value (.bool c)) w := by
  subst hc; simp [execOp, ho, hx, hy, go_sem]
theorem rn_eql9 {u : ByteArray} (ho : o.op = .binOp .eql 9 x y 9) (hx : ev x = .string u) (hy : ev y = .string u) : (execOp ev o).run Tryd.prog w = .ok (.value (.bool true)) w := by
  simp [execOp, ho, hx, hy, go_sem]
theorem rn_pickF {v : Value} (ho : o.op = .pick x y z) (hx : ev x = .bool false) (hz : ev z = v) : (execOp ev o).run Tryd.prog w = .ok (.value v) w := by
  subst hz; simp [execOp, ho, hx, go_sem]
theorem rn_pickT {v : Value} (ho : o.op = .pick x y z) (hx : ev x = .bool true) (hy : ev y = v) : (execOp ev o).run Tryd.prog w = .ok (.value v) w := by
  subst hy; simp [execOp, ho, hx, go_sem]
theorem rn_bs1 {p : ByteArray} (ho : o.op = .buildSlice 22 1 #[(0, x)]) (hx : ev x = .string p) : (execOp ev o).run Tryd.prog w = .ok (.value (.slice (some ⟨w.heap.size, 0, none⟩) 1 1)) (w.alloc (.cells (sTx [p]) 9)) := by
  simp [execOp, ho, hx, go_sem, sTx]
theorem rn_bs0 (ho : o.op = .buildSlice 22 0 #[]) : (execOp ev o).run Tryd.prog w = .ok (.value (.slice (some ⟨w.heap.size, 0, none⟩) 0 0)) (w.alloc (.cells #[] 9)) := by
  simp [execOp, ho, go_sem]
theorem rn_bs0p (ho : o.op = .buildSlice 32 0 #[]) : (execOp ev o).run Tryd.prog w = .ok (.value (.slice (some ⟨w.heap.size, 0, none⟩) 0 0)) (w.alloc (.cells #[] 42)) := by
  simp [execOp, ho, go_sem]
theorem rn_call1 {t : TypeId} {u : Value} {f : Operand} {F : Nat} (ho : o.op = .call { callee := .value f, args := #[x], argTypes := #[t] }) (hf : ev f = .func (.func F) #[] #[]) (hx : ev x = u) (he : (callFunc F #[u]).run Tryd.prog w = .ok (.enter F #[u]) w) : (execOp ev o).run Tryd.prog w = .ok (.enter F #[u]) w := by
  simp [execOp, ho, hf, hx, go_sem, he]
theorem rn_call2 {t t' : TypeId} {u v : Value} {f : Operand} {F : Nat} (ho : o.op = .call { callee := .value f, args := #[x, y], argTypes := #[t, t'] }) (hf : ev f = .func (.func F) #[] #[]) (hx : ev x = u) (hy : ev y = v) (he : (callFunc F #[u, v]).run Tryd.prog w = .ok (.enter F #[u, v]) w) : (execOp ev o).run Tryd.prog w = .ok (.enter F #[u, v]) w := by
  simp [execOp, ho, hf, hx, hy, go_sem, he]
theorem en10 (args : Array Value) (w : World) : (callFunc 10 args).run Tryd.prog w = .ok (.enter 10 args) w := by kernel_rfl
theorem en11 (args : Array Value) (w : World) : (callFunc 11 args).run Tryd.prog w = .ok (.enter 11 args) w := by kernel_rfl
theorem en12 (args : Array Value) (w : World) : (callFunc 12 args).run Tryd.prog w = .ok (.enter 12 args) w := by kernel_rfl
theorem en13 (args : Array Value) (w : World) : (callFunc 13 args).run Tryd.prog w = .ok (.enter 13 args) w := by kernel_rfl
theorem en14 (args : Array Value) (w : World) : (callFunc 14 args).run Tryd.prog w = .ok (.enter 14 args) w := by kernel_rfl
theorem en20 (args : Array Value) (w : World) : (callFunc 20 args).run Tryd.prog w = .ok (.enter 20 args) w := by kernel_rfl
theorem en30 (args : Array Value) (w : World) : (callFunc 30 args).run Tryd.prog w = .ok (.enter 30 args) w := by kernel_rfl
theorem en32 (args : Array Value) (w : World) : (callFunc 32 args).run Tryd.prog w = .ok (.enter 32 args) w := by kernel_rfl
theorem rn_mk22 {n : Nat} (hn : n ≤ 1000000) (ho : o.op = .makeSlice 22 x y) (hx : ev x = .int .i64 (n : Int)) (hy : ev y = .int .i64 (n : Int)) : (execOp ev o).run Tryd.prog w = .ok (.value (.slice (some ⟨w.heap.size, 0, none⟩) n n)) (w.alloc (.cells (sTx (List.replicate n ⟨#[]⟩)) 9)) := by
  have h := makes_strs n hn w
  simp [execOp, ho, hx, hy, go_sem, h]
end
theorem makes_places (n : Nat) (hn : n ≤ 1000000) (w : World) : (Instr.makeSlice 32 (.int .i64 (n : Int)) (.int .i64 (n : Int))).run Tryd.prog w = .ok (.slice (some ⟨w.heap.size, 0, none⟩) n n) (w.alloc (.cells (tC (List.replicate n (⟨#[]⟩, 0, 0))) 42)) := by
  obtain ⟨i, hi, h1, h2, h3⟩ := info_parts (show (Tryd.prog.info? 42).map (fun i => (i.zero, i.size, i.bytes)) = some (some (.agg #[.string ⟨#[]⟩, .int .i64 0, .int .i64 0]), 3, 32) by kernel_rfl)
  rw [run_make w 32 42 i (.agg #[.string ⟨#[]⟩, .int .i64 0, .int .i64 0]) Tryd.underlying32 hi h1 .i64 .i64 (n : Int) (n : Int) (by omega) (Int.le_refl _) (by rw [h3]; omega) (by omega)]
  have e : madeCells (Value.agg #[.string ⟨#[]⟩, .int .i64 0, .int .i64 0]).cells (n * 3) = tC (List.replicate n (⟨#[]⟩, 0, 0)) := by
    apply Array.toList_inj.1
    have hz : (Value.agg #[.string ⟨#[]⟩, .int .i64 0, .int .i64 0]).cells = #[.string ⟨#[]⟩, .int .i64 0, .int .i64 0] := by kernel_rfl
    rw [hz]
    apply List.ext_getElem
    · rw [Array.length_toList, Array.length_toList, tC_size, List.length_replicate, size_madeCells]
    · intro k h1 h2
      have hk : k < n * 3 := by simpa [size_madeCells] using h1
      have hd : (List.replicate n ((⟨#[]⟩ : ByteArray), 0, 0))[k / 3]? = some (⟨#[]⟩, 0, 0) := by
        rw [List.getElem?_replicate, if_pos (by omega)]
      have key : ∀ u, (pl3 (⟨#[]⟩, 0, 0))[k % 3]? = some u → ((List.replicate n ((⟨#[]⟩ : ByteArray), 0, 0)).flatMap pl3)[k]? = some u := fun u hu => by
        have := flat_get pl3 3 (fun _ => rfl) _ (k / 3) _ hd (k % 3) u hu
        rwa [show k / 3 * 3 + k % 3 = k by omega] at this
      have e2 : ∀ u, ((List.replicate n ((⟨#[]⟩ : ByteArray), 0, 0)).flatMap pl3)[k]? = some u → (tC (List.replicate n (⟨#[]⟩, 0, 0))).toList[k] = u := fun u hu => by
        have h3 : (tC (List.replicate n (⟨#[]⟩, 0, 0))).toList[k]? = some u := hu
        exact Option.some.inj ((List.getElem?_eq_getElem h2).symm.trans h3)
      have e1 : (madeCells #[.string ⟨#[]⟩, .int .i64 0, .int .i64 0] (n * 3)).toList[k] = (#[.string ⟨#[]⟩, .int .i64 0, .int .i64 0] : Array Value)[k % 3]! := by
        simp [madeCells]
      rw [e1]
      have hm : k % 3 = 0 ∨ k % 3 = 1 ∨ k % 3 = 2 := by omega
      rcases hm with hm | hm | hm <;> rw [hm] at key ⊢
      · exact (e2 _ (key _ rfl)).symm
      · exact (e2 _ (key _ rfl)).symm
      · exact (e2 _ (key _ rfl)).symm
  rw [h2, Int.toNat_natCast, e]
theorem rn_mk32 {ev : Operand → Value} {o : Oper} {w : World} {x y : Operand} {n : Nat} (hn : n ≤ 1000000) (ho : o.op = .makeSlice 32 x y) (hx : ev x = .int .i64 (n : Int)) (hy : ev y = .int .i64 (n : Int)) : (execOp ev o).run Tryd.prog w = .ok (.value (.slice (some ⟨w.heap.size, 0, none⟩) n n)) (w.alloc (.cells (tC (List.replicate n (⟨#[]⟩, 0, 0))) 42)) := by
  have h := makes_places n hn w
  simp [execOp, ho, hx, hy, go_sem, h]
/-! stores of one cell -/
theorem wpList_st {ops : Array Oper} {rest : List Oper} {o : Oper} {a : Act} {w w' : World} {Q : Exit → Act → World → Prop} (hgd : o.guard = none) (hd : o.dst = none) (hr : (execOp a.eval o).run Tryd.prog w = .ok .skip w') (h : wpList Tryd.prog ops Q rest a w') : wpList Tryd.prog ops Q (o :: rest) a w :=
  wpList_plain hgd fun K hK => by
    unfold Oper.wp
    rw [hr]
    show K (a.put o.dst undef) w'
    rw [hd]
    exact hK _ _ h
section
variable {ev : Operand → Value} {o : Oper} {w : World} {x y : Operand}
theorem rn_st9 {g k : Nat} {s : ByteArray} {c : Value} (ho : o.op = .store 9 x y) (hx : ev x = .pointer (some ⟨g, k, none⟩)) (hy : ev y = .string s) (hc : w.cell? ⟨g, k, none⟩ = some c) (hf : w.frozen? ⟨g, k, none⟩ = false) : (execOp ev o).run Tryd.prog w = .ok .skip (w.setCell ⟨g, k, none⟩ (.string s)) := by
  simp [execOp, ho, hx, hy, go_sem, hc, hf]
theorem rn_st3 {g k : Nat} {s : Int} {c : Value} (ho : o.op = .store 3 x y) (hx : ev x = .pointer (some ⟨g, k, none⟩)) (hy : ev y = .int .i64 s) (hc : w.cell? ⟨g, k, none⟩ = some c) (hf : w.frozen? ⟨g, k, none⟩ = false) : (execOp ev o).run Tryd.prog w = .ok .skip (w.setCell ⟨g, k, none⟩ (.int .i64 s)) := by
  simp [execOp, ho, hx, hy, go_sem, hc, hf]
theorem rn_st22 {g k : Nat} {A : Option Addr} {n m : Nat} {c : Value} (ho : o.op = .store 22 x y) (hx : ev x = .pointer (some ⟨g, k, none⟩)) (hy : ev y = .slice A n m) (hc : w.cell? ⟨g, k, none⟩ = some c) (hf : w.frozen? ⟨g, k, none⟩ = false) : (execOp ev o).run Tryd.prog w = .ok .skip (w.setCell ⟨g, k, none⟩ (.slice A n m)) := by
  simp [execOp, ho, hx, hy, go_sem, hc, hf]
theorem rn_st25 {g k : Nat} {A : Option Addr} {n m : Nat} {c : Value} (ho : o.op = .store 25 x y) (hx : ev x = .pointer (some ⟨g, k, none⟩)) (hy : ev y = .slice A n m) (hc : w.cell? ⟨g, k, none⟩ = some c) (hf : w.frozen? ⟨g, k, none⟩ = false) : (execOp ev o).run Tryd.prog w = .ok .skip (w.setCell ⟨g, k, none⟩ (.slice A n m)) := by
  simp [execOp, ho, hx, hy, go_sem, hc, hf]
theorem rn_st32 {g k : Nat} {A : Option Addr} {n m : Nat} {c : Value} (ho : o.op = .store 32 x y) (hx : ev x = .pointer (some ⟨g, k, none⟩)) (hy : ev y = .slice A n m) (hc : w.cell? ⟨g, k, none⟩ = some c) (hf : w.frozen? ⟨g, k, none⟩ = false) : (execOp ev o).run Tryd.prog w = .ok .skip (w.setCell ⟨g, k, none⟩ (.slice A n m)) := by
  simp [execOp, ho, hx, hy, go_sem, hc, hf]
end
section
variable {ev : Operand → Value} {o : Oper} {w : World} {x y z : Operand}
theorem rn_add3 {u v s : Int} (ho : o.op = .binOp .add 3 x y 3) (hx : ev x = .int .i64 u) (hy : ev y = .int .i64 v) (hz : IntKind.i64.wrap (u + v) = s) : (execOp ev o).run Tryd.prog w = .ok (.value (.int .i64 s)) w := by
  subst hz; simp [execOp, ho, hx, hy, go_sem]
theorem rn_gtr3 {u v : Int} {c : Bool} (ho : o.op = .binOp .gtr 3 x y 3) (hx : ev x = .int .i64 u) (hy : ev y = .int .i64 v) (hc : decide (v < u) = c) : (execOp ev o).run Tryd.prog w = .ok (.value (.bool c)) w := by
  subst hc; simp [execOp, ho, hx, hy, go_sem]
theorem rn_lss3 {u v : Int} {c : Bool} (ho : o.op = .binOp .lss 3 x y 3) (hx : ev x = .int .i64 u) (hy : ev y = .int .i64 v) (hc : decide (u < v) = c) : (execOp ev o).run Tryd.prog w = .ok (.value (.bool c)) w := by
  subst hc; simp [execOp, ho, hx, hy, go_sem]
theorem rn_leq3 {u v : Int} {c : Bool} (ho : o.op = .binOp .leq 3 x y 3) (hx : ev x = .int .i64 u) (hy : ev y = .int .i64 v) (hc : decide (u ≤ v) = c) : (execOp ev o).run Tryd.prog w = .ok (.value (.bool c)) w := by
  subst hc; simp [execOp, ho, hx, hy, go_sem]
theorem rn_geq3 {u v : Int} {c : Bool} (ho : o.op = .binOp .geq 3 x y 3) (hx : ev x = .int .i64 u) (hy : ev y = .int .i64 v) (hc : decide (v ≤ u) = c) : (execOp ev o).run Tryd.prog w = .ok (.value (.bool c)) w := by
  subst hc; simp [execOp, ho, hx, hy, go_sem]
theorem rn_neq9 {u : ByteArray} (ho : o.op = .binOp .neq 9 x y 9) (hx : ev x = .string u) (hy : ev y = .string u) : (execOp ev o).run Tryd.prog w = .ok (.value (.bool false)) w := by
  simp [execOp, ho, hx, hy, go_sem]
theorem rn_sl9 {A p : ByteArray} {lo hi : Nat} (ho : o.op = .slice 9 x (some y) (some z) none) (hx : ev x = .string A) (hy : ev y = .int .i64 (lo : Int)) (hz : ev z = .int .i64 (hi : Int)) (h1 : lo ≤ hi) (h2 : hi ≤ A.size) (hp : A.extract lo hi = p) : (execOp ev o).run Tryd.prog w = .ok (.value (.string p)) w := by
  subst hp
  have q1 : (lo : Int) ≤ (hi : Int) := by omega
  have q2 : (hi : Int) ≤ (A.size : Int) := by omega
  simp [execOp, ho, hx, hy, hz, go_sem, q1, q2]
theorem rn_load42 {g k : Nat} {s : ByteArray} {a n : Int} (ho : o.op = .load 42 x) (hx : ev x = .pointer (some ⟨g, k, none⟩)) (h0 : w.cell? ⟨g, k, none⟩ = some (.string s)) (h1 : w.cell? ⟨g, k + 1, none⟩ = some (.int .i64 a)) (h2 : w.cell? ⟨g, k + 2, none⟩ = some (.int .i64 n)) : (execOp ev o).run Tryd.prog w = .ok (.value (.agg #[.string s, .int .i64 a, .int .i64 n])) w := by
  simp [execOp, ho, hx, go_sem, h0, h1, h2]
end
end Go.Proofs.YtjhjolnflkekoaaDoor
