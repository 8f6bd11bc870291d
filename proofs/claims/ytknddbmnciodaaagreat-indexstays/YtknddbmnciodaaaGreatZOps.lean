/- Single operations of the two walks; what a slot may hold: a value, a row, a state. -/
import Derived.Test.YtknddbmnciodaaaGreatOps
import Derived.Test.YtknddbmnciodaaaGreatEqs
import Derived.Test.YtknddbmnciodaaaGreatDg
import Derived.Test.YtknddbmnciodaaaGreatOf
import Derived.Test.YtknddbmnciodaaaGreatDrop
import Derived.Test.YtknddbmnciodaaaGreatSame
import Derived.Test.YtknddbmnciodaaaGreatTlS
namespace Go.Proofs.YtknddbmnciodaaaGreat
open Go.RowKit
open Ix
set_option linter.unusedVariables false
section
variable {ev : Operand → Value} {o : Oper} {w : World} {x y z : Operand}
theorem zn_move {v : Value} (ho : o.op = .move x) (hx : ev x = v) : (execOp ev o).run Tryz.prog w = .ok (.value v) w := by
  subst hx; simp [execOp, ho, go_sem]
theorem zn_assign {v : Value} (ho : o.op = .assign x) (hx : ev x = v) : (execOp ev o).run Tryz.prog w = .ok (.value v) w := by
  subst hx; simp [execOp, ho, go_sem]
theorem zn_load3 {g k : Nat} {v : Value} (ho : o.op = .load 3 x) (hx : ev x = .pointer (some ⟨g, k, none⟩)) (hc : w.cell? ⟨g, k, none⟩ = some v) : (execOp ev o).run Tryz.prog w = .ok (.value v) w := by
  simp [execOp, ho, hx, go_sem, hc]
theorem zn_load9 {g k : Nat} {v : Value} (ho : o.op = .load 9 x) (hx : ev x = .pointer (some ⟨g, k, none⟩)) (hc : w.cell? ⟨g, k, none⟩ = some v) : (execOp ev o).run Tryz.prog w = .ok (.value v) w := by
  simp [execOp, ho, hx, go_sem, hc]
theorem zn_load29 {g k : Nat} {v : Value} (ho : o.op = .load 29 x) (hx : ev x = .pointer (some ⟨g, k, none⟩)) (hc : w.cell? ⟨g, k, none⟩ = some v) : (execOp ev o).run Tryz.prog w = .ok (.value v) w := by
  simp [execOp, ho, hx, go_sem, hc]
theorem zn_load30 {g k : Nat} {v : Value} (ho : o.op = .load 30 x) (hx : ev x = .pointer (some ⟨g, k, none⟩)) (hc : w.cell? ⟨g, k, none⟩ = some v) : (execOp ev o).run Tryz.prog w = .ok (.value v) w := by
  simp [execOp, ho, hx, go_sem, hc]
theorem zn_load24 {g k : Nat} {u0 u1 u2 : Value} (ho : o.op = .load 24 x) (hx : ev x = .pointer (some ⟨g, k, none⟩)) (h0 : w.cell? ⟨g, k, none⟩ = some u0) (h1 : w.cell? ⟨g, k + 1, none⟩ = some u1) (h2 : w.cell? ⟨g, k + 2, none⟩ = some u2) : (execOp ev o).run Tryz.prog w = .ok (.value (.agg #[u0, u1, u2])) w := by
  simp [execOp, ho, hx, go_sem, h0, h1, h2]
theorem zn_load35 {g : Nat} {s : St} {a0 a1 a2 : Option Addr} {c0 c1 c2 : Nat} (ho : o.op = .load 35 x) (hx : ev x = .pointer (some ⟨g, 0, none⟩)) (h : Has w g (stV s a0 a1 a2 c0 c1 c2) 35) : (execOp ev o).run Tryz.prog w = .ok (.value (.agg (stV s a0 a1 a2 c0 c1 c2))) w := by
  have h0 : w.cell? ⟨g, 0, none⟩ = some (.int .i64 s.k) := by rw [h.cell]; rfl
  have h1 : w.cell? ⟨g, 1, none⟩ = some (.int .i64 s.n) := by rw [h.cell]; rfl
  have h2 : w.cell? ⟨g, 2, none⟩ = some (.int .i64 s.nx) := by rw [h.cell]; rfl
  have h3 : w.cell? ⟨g, 3, none⟩ = some (.slice a0 s.sn.length c0) := by rw [h.cell]; rfl
  have h4 : w.cell? ⟨g, 4, none⟩ = some (.slice a1 s.C.length c1) := by rw [h.cell]; rfl
  have h5 : w.cell? ⟨g, 5, none⟩ = some (.slice a2 s.P.length c2) := by rw [h.cell]; rfl
  simp [execOp, ho, hx, go_sem, h0, h1, h2, h3, h4, h5, stV]
theorem zn_ix29 {g f n c i : Nat} (ho : o.op = .indexAddr 29 x y) (hx : ev x = .slice (some ⟨g, f, none⟩) n c) (hy : ev y = .int .i64 (i : Int)) (hi : i < n) : (execOp ev o).run Tryz.prog w = .ok (.value (.pointer (some ⟨g, f + i, none⟩))) w := by
  have q1 : (i : Int) < (n : Int) := by omega
  simp [execOp, ho, hx, hy, go_sem, q1]
theorem zn_ix30 {g f n c i : Nat} (ho : o.op = .indexAddr 30 x y) (hx : ev x = .slice (some ⟨g, f, none⟩) n c) (hy : ev y = .int .i64 (i : Int)) (hi : i < n) : (execOp ev o).run Tryz.prog w = .ok (.value (.pointer (some ⟨g, f + i * 3, none⟩))) w := by
  have q1 : (i : Int) < (n : Int) := by omega
  simp [execOp, ho, hx, hy, go_sem, q1]
theorem zn_fa24_0 {g k : Nat} (ho : o.op = .fieldAddr 24 x 0) (hx : ev x = .pointer (some ⟨g, k, none⟩)) : (execOp ev o).run Tryz.prog w = .ok (.value (.pointer (some ⟨g, k, none⟩))) w := by
  simp [execOp, ho, hx, go_sem]
theorem zn_fa24_1 {g k : Nat} (ho : o.op = .fieldAddr 24 x 1) (hx : ev x = .pointer (some ⟨g, k, none⟩)) : (execOp ev o).run Tryz.prog w = .ok (.value (.pointer (some ⟨g, k + 1, none⟩))) w := by
  simp [execOp, ho, hx, go_sem]
theorem zn_fa35_3 {g k : Nat} (ho : o.op = .fieldAddr 35 x 3) (hx : ev x = .pointer (some ⟨g, k, none⟩)) : (execOp ev o).run Tryz.prog w = .ok (.value (.pointer (some ⟨g, k + 4, none⟩))) w := by
  simp [execOp, ho, hx, go_sem]
theorem zn_fa35_4 {g k : Nat} (ho : o.op = .fieldAddr 35 x 4) (hx : ev x = .pointer (some ⟨g, k, none⟩)) : (execOp ev o).run Tryz.prog w = .ok (.value (.pointer (some ⟨g, k + 5, none⟩))) w := by
  simp [execOp, ho, hx, go_sem]
theorem zn_len29 {A : Option Addr} {n c : Nat} (ho : o.op = .call { callee := .builtin .len, args := #[x], argTypes := #[29] }) (hx : ev x = .slice A n c) : (execOp ev o).run Tryz.prog w = .ok (.value (.int .i64 (n : Int))) w := by
  simp [execOp, ho, hx, go_sem]
theorem zn_call1 {t : TypeId} {u : Value} {f : Operand} {F : Nat} (ho : o.op = .call { callee := .value f, args := #[x], argTypes := #[t] }) (hf : ev f = .func (.func F) #[] #[]) (hx : ev x = u) (he : (callFunc F #[u]).run Tryz.prog w = .ok (.enter F #[u]) w) : (execOp ev o).run Tryz.prog w = .ok (.enter F #[u]) w := by
  simp [execOp, ho, hf, hx, go_sem, he]
theorem zn_call2 {t t' : TypeId} {u v : Value} {f : Operand} {F : Nat} (ho : o.op = .call { callee := .value f, args := #[x, y], argTypes := #[t, t'] }) (hf : ev f = .func (.func F) #[] #[]) (hx : ev x = u) (hy : ev y = v) (he : (callFunc F #[u, v]).run Tryz.prog w = .ok (.enter F #[u, v]) w) : (execOp ev o).run Tryz.prog w = .ok (.enter F #[u, v]) w := by
  simp [execOp, ho, hf, hx, hy, go_sem, he]
theorem zn_call3 {t t' t'' : TypeId} {u v s : Value} {f : Operand} {F : Nat} (ho : o.op = .call { callee := .value f, args := #[x, y, z], argTypes := #[t, t', t''] }) (hf : ev f = .func (.func F) #[] #[]) (hx : ev x = u) (hy : ev y = v) (hz : ev z = s) (he : (callFunc F #[u, v, s]).run Tryz.prog w = .ok (.enter F #[u, v, s]) w) : (execOp ev o).run Tryz.prog w = .ok (.enter F #[u, v, s]) w := by
  simp [execOp, ho, hf, hx, hy, hz, go_sem, he]
theorem zn_ext0 {u v : Value} (ho : o.op = .extract x 0) (hx : ev x = .tuple #[u, v]) : (execOp ev o).run Tryz.prog w = .ok (.value u) w := by
  simp [execOp, ho, hx, go_sem]
theorem zn_ext1 {u v : Value} (ho : o.op = .extract x 1) (hx : ev x = .tuple #[u, v]) : (execOp ev o).run Tryz.prog w = .ok (.value v) w := by
  simp [execOp, ho, hx, go_sem]
theorem zn_et0 {u v t : Value} (ho : o.op = .extract x 0) (hx : ev x = .tuple #[u, v, t]) : (execOp ev o).run Tryz.prog w = .ok (.value u) w := by
  simp [execOp, ho, hx, go_sem]
theorem zn_et1 {u v t : Value} (ho : o.op = .extract x 1) (hx : ev x = .tuple #[u, v, t]) : (execOp ev o).run Tryz.prog w = .ok (.value v) w := by
  simp [execOp, ho, hx, go_sem]
theorem zn_et2 {u v t : Value} (ho : o.op = .extract x 2) (hx : ev x = .tuple #[u, v, t]) : (execOp ev o).run Tryz.prog w = .ok (.value t) w := by
  simp [execOp, ho, hx, go_sem]
theorem zn_bs29_1 {p : ByteArray} (ho : o.op = .buildSlice 29 1 #[(0, x)]) (hx : ev x = .string p) : (execOp ev o).run Tryz.prog w = .ok (.value (.slice (some ⟨w.heap.size, 0, none⟩) 1 1)) (w.alloc (.cells (sTx [p]) 9)) := by
  simp [execOp, ho, hx, go_sem, sTx]
theorem zn_bs29_2 {p q : ByteArray} (ho : o.op = .buildSlice 29 2 #[(0, x), (1, y)]) (hx : ev x = .string p) (hy : ev y = .string q) : (execOp ev o).run Tryz.prog w = .ok (.value (.slice (some ⟨w.heap.size, 0, none⟩) 2 2)) (w.alloc (.cells (sTx [p, q]) 9)) := by
  simp [execOp, ho, hx, hy, go_sem, sTx]
theorem zn_bs30_1 {p : Pl} (ho : o.op = .buildSlice 30 1 #[(0, x)]) (hx : ev x = .agg (pl3 p).toArray) : (execOp ev o).run Tryz.prog w = .ok (.value (.slice (some ⟨w.heap.size, 0, none⟩) 1 1)) (w.alloc (.cells (pC [p]) 24)) := by
  simp [execOp, ho, hx, go_sem, pC, pl3]
theorem zn_bs30_2 {p q : Pl} (ho : o.op = .buildSlice 30 2 #[(0, x), (1, y)]) (hx : ev x = .agg (pl3 p).toArray) (hy : ev y = .agg (pl3 q).toArray) : (execOp ev o).run Tryz.prog w = .ok (.value (.slice (some ⟨w.heap.size, 0, none⟩) 2 2)) (w.alloc (.cells (pC [p, q]) 24)) := by
  simp [execOp, ho, hx, hy, go_sem, pC, pl3]
theorem zn_eql24 {p : Pl} (ho : o.op = .binOp .eql 24 x y 24) (hx : ev x = .agg (pl3 p).toArray) (hy : ev y = .agg (pl3 p).toArray) : (execOp ev o).run Tryz.prog w = .ok (.value (.bool true)) w := by
  have h := eql37 w p
  have hg : (eqGuard .eql 24 x y (.agg (pl3 p).toArray) (.agg (pl3 p).toArray)).run Tryz.prog w = .ok () w := run_eqGuard_agg w .eql 24 x y _ _ (by kernel_rfl)
  simp [execOp, ho, hx, hy, h, hg, Result.andThen]
theorem zn_neq24 {p : Pl} (ho : o.op = .binOp .neq 24 x y 24) (hx : ev x = .agg (pl3 p).toArray) (hy : ev y = .agg (pl3 p).toArray) : (execOp ev o).run Tryz.prog w = .ok (.value (.bool false)) w := by
  have h := neq37 w p
  have hg : (eqGuard .neq 24 x y (.agg (pl3 p).toArray) (.agg (pl3 p).toArray)).run Tryz.prog w = .ok () w := run_eqGuard_agg w .neq 24 x y _ _ (by kernel_rfl)
  simp [execOp, ho, hx, hy, h, hg, Result.andThen]
theorem zn_eql36 {u v : Int} {c : Bool} (ho : o.op = .binOp .eql 36 x y 36) (hx : ev x = .int .i64 u) (hy : ev y = .int .i64 v) (hc : (u == v) = c) : (execOp ev o).run Tryz.prog w = .ok (.value (.bool c)) w := by
  subst hc; simp [execOp, ho, hx, hy, go_sem]
theorem zn_eql3 {u v : Int} {c : Bool} (ho : o.op = .binOp .eql 3 x y 3) (hx : ev x = .int .i64 u) (hy : ev y = .int .i64 v) (hc : (u == v) = c) : (execOp ev o).run Tryz.prog w = .ok (.value (.bool c)) w := by
  subst hc; simp [execOp, ho, hx, hy, go_sem]
theorem zn_pickF {v : Value} (ho : o.op = .pick x y z) (hx : ev x = .bool false) (hz : ev z = v) : (execOp ev o).run Tryz.prog w = .ok (.value v) w := by
  subst hz; simp [execOp, ho, hx, go_sem]
theorem zn_pickT {v : Value} (ho : o.op = .pick x y z) (hx : ev x = .bool true) (hy : ev y = v) : (execOp ev o).run Tryz.prog w = .ok (.value v) w := by
  subst hy; simp [execOp, ho, hx, go_sem]
theorem zn_alloc24 (ho : o.op = .alloc 24) : (execOp ev o).run Tryz.prog w = .ok (.value (.pointer (some ⟨w.heap.size, 0, none⟩))) (w.alloc (.cells #[.string ⟨#[]⟩, .int .i64 0, .int .i64 0] 24)) := by
  simp [execOp, ho, go_sem]
theorem zn_alloc35 (ho : o.op = .alloc 35) : (execOp ev o).run Tryz.prog w = .ok (.value (.pointer (some ⟨w.heap.size, 0, none⟩))) (w.alloc (.cells stZ 35)) := by
  simp [execOp, ho, go_sem, stZ]
theorem zn_store24 {b : Nat} {u0 u1 u2 : Value} {p : Pl} (ho : o.op = .store 24 x y) (hx : ev x = .pointer (some ⟨b, 0, none⟩)) (hy : ev y = .agg (pl3 p).toArray) (h : Has w b #[u0, u1, u2] 24) : (execOp ev o).run Tryz.prog w = .ok .skip (((w.setCell ⟨b, 0, none⟩ (.string p.pack)).setCell ⟨b, 1, none⟩ (.int .i64 p.at_)).setCell ⟨b, 2, none⟩ (.int .i64 p.len)) := by
  have c0 : w.cell? ⟨b, 0, none⟩ = some u0 := by rw [h.cell]; rfl
  have c1 : w.cell? ⟨b, 1, none⟩ = some u1 := by rw [h.cell]; rfl
  have c2 : w.cell? ⟨b, 2, none⟩ = some u2 := by rw [h.cell]; rfl
  have g0 := h.frozen 0
  have g1 := h.frozen 1
  have g2 := h.frozen 2
  unfold pl3 at hy
  simp [execOp, ho, hx, hy, go_sem, c0, c1, c2, g0, g1, g2]
theorem zn_store35 {b : Nat} {u0 u1 u2 u3 u4 u5 : Value} {s : St} {A0 A1 A2 : Option Addr} {e0 e1 e2 : Nat} (ho : o.op = .store 35 x y) (hx : ev x = .pointer (some ⟨b, 0, none⟩)) (hy : ev y = .agg (stV s A0 A1 A2 e0 e1 e2)) (h : Has w b #[u0, u1, u2, u3, u4, u5] 35) : (execOp ev o).run Tryz.prog w = .ok .skip ((((((w.setCell ⟨b, 0, none⟩ (.int .i64 s.k)).setCell ⟨b, 1, none⟩ (.int .i64 s.n)).setCell ⟨b, 2, none⟩ (.int .i64 s.nx)).setCell ⟨b, 3, none⟩ (.slice A0 s.sn.length e0)).setCell ⟨b, 4, none⟩ (.slice A1 s.C.length e1)).setCell ⟨b, 5, none⟩ (.slice A2 s.P.length e2)) := by
  have c0 : w.cell? ⟨b, 0, none⟩ = some u0 := by rw [h.cell]; rfl
  have c1 : w.cell? ⟨b, 1, none⟩ = some u1 := by rw [h.cell]; rfl
  have c2 : w.cell? ⟨b, 2, none⟩ = some u2 := by rw [h.cell]; rfl
  have c3 : w.cell? ⟨b, 3, none⟩ = some u3 := by rw [h.cell]; rfl
  have c4 : w.cell? ⟨b, 4, none⟩ = some u4 := by rw [h.cell]; rfl
  have c5 : w.cell? ⟨b, 5, none⟩ = some u5 := by rw [h.cell]; rfl
  have g0 := h.frozen 0
  have g1 := h.frozen 1
  have g2 := h.frozen 2
  have g3 := h.frozen 3
  have g4 := h.frozen 4
  have g5 := h.frozen 5
  unfold stV at hy
  simp [execOp, ho, hx, hy, go_sem, c0, c1, c2, c3, c4, c5, g0, g1, g2, g3, g4, g5]
theorem en6z (args : Array Value) (w : World) : (callFunc 6 args).run Tryz.prog w = .ok (.enter 6 args) w := by kernel_rfl
theorem en7z (args : Array Value) (w : World) : (callFunc 7 args).run Tryz.prog w = .ok (.enter 7 args) w := by kernel_rfl
theorem en8z (args : Array Value) (w : World) : (callFunc 8 args).run Tryz.prog w = .ok (.enter 8 args) w := by kernel_rfl
theorem en9z (args : Array Value) (w : World) : (callFunc 9 args).run Tryz.prog w = .ok (.enter 9 args) w := by kernel_rfl
theorem en11z (args : Array Value) (w : World) : (callFunc 11 args).run Tryz.prog w = .ok (.enter 11 args) w := by kernel_rfl
theorem en12z (args : Array Value) (w : World) : (callFunc 12 args).run Tryz.prog w = .ok (.enter 12 args) w := by kernel_rfl
theorem en14z (args : Array Value) (w : World) : (callFunc 14 args).run Tryz.prog w = .ok (.enter 14 args) w := by kernel_rfl
theorem en16z (args : Array Value) (w : World) : (callFunc 16 args).run Tryz.prog w = .ok (.enter 16 args) w := by kernel_rfl
theorem en19z (args : Array Value) (w : World) : (callFunc 19 args).run Tryz.prog w = .ok (.enter 19 args) w := by kernel_rfl
end
theorem lit_tx (w : World) (l : List ByteArray) : Tx (w.alloc (.cells (sTx l) 9)) (some ⟨w.heap.size, 0, none⟩) l := has_tx (Has.new _ _ _ 9 rfl)
theorem lit_ps (w : World) (l : List Pl) : Ps (w.alloc (.cells (pC l) 24)) (some ⟨w.heap.size, 0, none⟩) l := has_ps (Has.new _ _ _ 24 rfl)
/-- a state that can be read -/
def StAt (W : World) (v : Value) (s : St) : Prop := ∃ A0 A1 A2 e0 e1 e2, v = .agg (stV s A0 A1 A2 e0 e1 e2) ∧ Sn W A0 s.sn ∧ Tx W A1 s.C ∧ Ps W A2 s.P
theorem StAt.below {W W' : World} {v : Value} {s : St} (h : StAt W v s) (hb : Below W.heap.size W W') : StAt W' v s := by
  obtain ⟨A0, A1, A2, e0, e1, e2, rfl, h0, h1, h2⟩ := h
  exact ⟨A0, A1, A2, e0, e1, e2, rfl, h0.below hb, h1.below hb, h2.below hb⟩
/-- no state -/
def stN : St := ⟨0, 0, 0, [], [], []⟩
/-- the state of an answer -/
def resS (s : St) (er : Int) : St := if er = 0 then s else stN
theorem Gives.st {w W : World} {v : Array Value} {s : St} {er : Int} (h : Gives w v s er W) (hl : s.C.length = s.P.length) : StAt W (.agg v) (resS s er) := by
  unfold resS
  by_cases he : er = 0
  · rw [if_pos he]
    obtain ⟨g0, g1, g2, rfl, l0, l1, l2, h0, h1, h2⟩ := (h.yes he).rows
    refine ⟨_, _, _, _, _, _, rfl, ?_, ?_, ?_⟩
    · intro j hj
      obtain ⟨c0, c1, c2⟩ := nC_cells h0 j hj
      exact ⟨g0, 0, rfl, h0.lt, by rw [Nat.zero_add]; exact c0, by rw [Nat.zero_add]; exact c1, by rw [Nat.zero_add]; exact c2⟩
    · exact has_tx h1
    · exact has_ps h2
  · rw [if_neg he]
    exact ⟨none, none, none, 0, 0, 0, congrArg Value.agg (h.no he), Sn.nil _ _, Tx.nil _ _, Ps.nil _ _⟩
/-- what a slot may hold -/
inductive K where
  | v (x : Value)
  | tx (l : List ByteArray)
  | ps (l : List Pl)
  | st (s : St)
  | res (s : St) (er : Int)
  | two (l : List En) (er : Int)
  | r1 (l : List En)
  | r2 (l : List En)
  | box24 (lo : Nat)
  | box35 (lo : Nat)
  | fin24 (p : Pl) (lo : Nat)
  | fin35 (s : St) (lo : Nat)
  | at24 (b : Nat) (p : Pl)
/-- no texts in it -/
def NoS (cs : Array Value) : Prop := ∀ (r : Nat) (s : ByteArray), cs[r]? ≠ some (.string s)
def KF : K → Value → World → Prop
  | .v x, v, _ => v = x
  | .tx l, v, W => ∃ b, v = .slice (some ⟨b, 0, none⟩) l.length l.length ∧ Tx W (some ⟨b, 0, none⟩) l
  | .ps l, v, W => ∃ b, v = .slice (some ⟨b, 0, none⟩) l.length l.length ∧ Ps W (some ⟨b, 0, none⟩) l
  | .st s, v, W => StAt W v s
  | .res s er, v, W => ∃ u, v = .tuple #[u, .int .i64 er] ∧ StAt W u s
  | .two l er, v, W => ∃ A1 A2 c1 c2, v = .tuple #[.slice A1 l.length c1, .slice A2 l.length c2, .int .i64 er] ∧ Tx W A1 (l.map Prod.fst) ∧ Ps W A2 (l.map Prod.snd)
  | .r1 l, v, W => ∃ A c, v = .slice A l.length c ∧ Tx W A (l.map Prod.fst)
  | .r2 l, v, W => ∃ A c, v = .slice A l.length c ∧ Ps W A (l.map Prod.snd)
  | .box24 lo, v, W => ∃ b, v = .pointer (some ⟨b, 0, none⟩) ∧ lo ≤ b ∧ ∃ u0 u1 u2, Has W b #[u0, u1, u2] 24
  | .box35 lo, v, W => ∃ b, v = .pointer (some ⟨b, 0, none⟩) ∧ lo ≤ b ∧ ∃ u0 u1 u2 u3 u4 u5, Has W b #[u0, u1, u2, u3, u4, u5] 35 ∧ NoS #[u0, u1, u2, u3, u4, u5]
  | .fin24 p lo, v, W => ∃ b, v = .pointer (some ⟨b, 0, none⟩) ∧ lo ≤ b ∧ Has W b (pl3 p).toArray 24
  | .fin35 s lo, v, W => ∃ b A0 A1 A2 e0 e1 e2, v = .pointer (some ⟨b, 0, none⟩) ∧ lo ≤ b ∧ Has W b (stV s A0 A1 A2 e0 e1 e2) 35 ∧ Sn W A0 s.sn ∧ Tx W A1 s.C ∧ Ps W A2 s.P
  | .at24 b p, _, W => Has W b (pl3 p).toArray 24
theorem KF_mono {k : K} {v : Value} {W W' : World} (hb : Below W.heap.size W W') (h : KF k v W) : KF k v W' := by
  cases k with
  | v x => exact h
  | tx l => obtain ⟨b, h1, h2⟩ := h; exact ⟨b, h1, h2.below hb⟩
  | ps l => obtain ⟨b, h1, h2⟩ := h; exact ⟨b, h1, h2.below hb⟩
  | st s => exact StAt.below h hb
  | res s er => obtain ⟨u, h1, h2⟩ := h; exact ⟨u, h1, h2.below hb⟩
  | two l er => obtain ⟨A1, A2, c1, c2, h1, h2, h3⟩ := h; exact ⟨A1, A2, c1, c2, h1, h2.below hb, h3.below hb⟩
  | r1 l => obtain ⟨A, c, h1, h2⟩ := h; exact ⟨A, c, h1, h2.below hb⟩
  | r2 l => obtain ⟨A, c, h1, h2⟩ := h; exact ⟨A, c, h1, h2.below hb⟩
  | box24 lo => obtain ⟨b, h1, h2, u0, u1, u2, h3⟩ := h; exact ⟨b, h1, h2, u0, u1, u2, h3.below hb h3.lt⟩
  | box35 lo => obtain ⟨b, h1, h2, u0, u1, u2, u3, u4, u5, h3, h4⟩ := h; exact ⟨b, h1, h2, u0, u1, u2, u3, u4, u5, h3.below hb h3.lt, h4⟩
  | fin24 p lo => obtain ⟨b, h1, h2, h3⟩ := h; exact ⟨b, h1, h2, h3.below hb h3.lt⟩
  | fin35 s lo => obtain ⟨b, A0, A1, A2, e0, e1, e2, h1, h2, h3, h4, h5, h6⟩ := h; exact ⟨b, A0, A1, A2, e0, e1, e2, h1, h2, h3.below hb h3.lt, h4.below hb, h5.below hb, h6.below hb⟩
  | at24 b p => exact Has.below h hb (Has.lt h)
/-! a box is written over -/
theorem noS_ne {w : World} {b g r : Nat} {cs : Array Value} {t : TypeId} {s : ByteArray} (h : Has w b cs t) (hn : NoS cs) (hc : w.cell? ⟨g, r, none⟩ = some (.string s)) : g ≠ b := fun x => by
  subst x
  rw [h.cell] at hc
  exact hn _ _ hc
theorem noS_st (s : St) (A0 A1 A2 : Option Addr) (e0 e1 e2 : Nat) : NoS (stV s A0 A1 A2 e0 e1 e2) := fun r x h => by
  unfold stV at h
  rcases r with _ | _ | _ | _ | _ | _ | r <;> simp at h
theorem noS_z : NoS stZ := fun r x h => by
  unfold stZ at h
  rcases r with _ | _ | _ | _ | _ | _ | r <;> simp at h
section
variable {w W : World} {b : Nat} {cs : Array Value} {t : TypeId}
theorem tx_past {A : Option Addr} {l : List ByteArray} (h : Tx w A l) (hb : Has w b cs t) (hn : NoS cs) (ho : Onl b w W) : Tx W A l := fun j hj => by
  obtain ⟨g, o, e, hg, hc⟩ := h j hj
  exact ⟨g, o, e, Nat.lt_of_lt_of_le hg ho.size, by rw [World.cell?_of_block (a := ⟨g, o + j, none⟩) (ho.block g hg (noS_ne hb hn hc))]; exact hc⟩
theorem ps_past {A : Option Addr} {l : List Pl} (h : Ps w A l) (hb : Has w b cs t) (hn : NoS cs) (ho : Onl b w W) : Ps W A l := fun j hj => by
  obtain ⟨g, o, e, hg, h1, h2, h3⟩ := h j hj
  have hk : ∀ r, W.cell? ⟨g, r, none⟩ = w.cell? ⟨g, r, none⟩ := fun r => World.cell?_of_block (a := ⟨g, r, none⟩) (ho.block g hg (noS_ne hb hn h1))
  exact ⟨g, o, e, Nat.lt_of_lt_of_le hg ho.size, by rw [hk]; exact h1, by rw [hk]; exact h2, by rw [hk]; exact h3⟩
theorem sn_past {A : Option Addr} {l : List Snp} (h : Sn w A l) (hb : Has w b cs t) (hn : NoS cs) (ho : Onl b w W) : Sn W A l := fun j hj => by
  obtain ⟨g, o, e, hg, h1, h2, h3⟩ := h j hj
  have hk : ∀ r, W.cell? ⟨g, r, none⟩ = w.cell? ⟨g, r, none⟩ := fun r => World.cell?_of_block (a := ⟨g, r, none⟩) (ho.block g hg (noS_ne hb hn h3))
  exact ⟨g, o, e, Nat.lt_of_lt_of_le hg ho.size, by rw [hk]; exact h1, by rw [hk]; exact h2, by rw [hk]; exact h3⟩
theorem st_past {v : Value} {s : St} (h : StAt w v s) (hb : Has w b cs t) (hn : NoS cs) (ho : Onl b w W) : StAt W v s := by
  obtain ⟨A0, A1, A2, e0, e1, e2, rfl, h0, h1, h2⟩ := h
  exact ⟨A0, A1, A2, e0, e1, e2, rfl, sn_past h0 hb hn ho, tx_past h1 hb hn ho, ps_past h2 hb hn ho⟩
end
theorem onl_put6 (b : Nat) (w : World) (v0 v1 v2 v3 v4 v5 : Value) : Onl b w ((((((w.setCell ⟨b, 0, none⟩ v0).setCell ⟨b, 1, none⟩ v1).setCell ⟨b, 2, none⟩ v2).setCell ⟨b, 3, none⟩ v3).setCell ⟨b, 4, none⟩ v4).setCell ⟨b, 5, none⟩ v5) :=
  (((((Onl.set b 0 v0 w).trans (Onl.set b 1 v1 _)).trans (Onl.set b 2 v2 _)).trans (Onl.set b 3 v3 _)).trans (Onl.set b 4 v4 _)).trans (Onl.set b 5 v5 _)
theorem onl_put3 (b : Nat) (w : World) (v0 v1 v2 : Value) : Onl b w (((w.setCell ⟨b, 0, none⟩ v0).setCell ⟨b, 1, none⟩ v1).setCell ⟨b, 2, none⟩ v2) :=
  ((Onl.set b 0 v0 w).trans (Onl.set b 1 v1 _)).trans (Onl.set b 2 v2 _)
/-- what may stand beside a state's box -/
def K.ok35 (s : St) : K → Prop
  | .fin35 s' _ => s' = s
  | .fin24 _ _ => False
  | .box24 _ => False
  | .at24 _ _ => False
  | _ => True
/-- what may stand beside a place's box -/
def K.ok24 (p : Pl) : K → Prop
  | .fin24 p' _ => p' = p
  | .at24 _ p' => p' = p
  | .box24 _ => True
  | .v _ => True
  | _ => False
theorem KF_put6 {k : K} {v : Value} {W : World} {b : Nat} {u0 u1 u2 u3 u4 u5 : Value} {s : St} {A0 A1 A2 : Option Addr} {e0 e1 e2 : Nat} (hk : k.ok35 s) (hb : Has W b #[u0, u1, u2, u3, u4, u5] 35) (hn : NoS #[u0, u1, u2, u3, u4, u5])
    (h0 : Sn W A0 s.sn) (h1 : Tx W A1 s.C) (h2 : Ps W A2 s.P) (h : KF k v W) : KF k v ((((((W.setCell ⟨b, 0, none⟩ (.int .i64 s.k)).setCell ⟨b, 1, none⟩ (.int .i64 s.n)).setCell ⟨b, 2, none⟩ (.int .i64 s.nx)).setCell ⟨b, 3, none⟩ (.slice A0 s.sn.length e0)).setCell ⟨b, 4, none⟩ (.slice A1 s.C.length e1)).setCell ⟨b, 5, none⟩ (.slice A2 s.P.length e2)) := by
  have ho := onl_put6 b W (.int .i64 s.k) (.int .i64 s.n) (.int .i64 s.nx) (.slice A0 s.sn.length e0) (.slice A1 s.C.length e1) (.slice A2 s.P.length e2)
  have hp := put6 hb (.int .i64 s.k) (.int .i64 s.n) (.int .i64 s.nx) (.slice A0 s.sn.length e0) (.slice A1 s.C.length e1) (.slice A2 s.P.length e2)
  generalize ((((((W.setCell ⟨b, 0, none⟩ (.int .i64 s.k)).setCell ⟨b, 1, none⟩ (.int .i64 s.n)).setCell ⟨b, 2, none⟩ (.int .i64 s.nx)).setCell ⟨b, 3, none⟩ (.slice A0 s.sn.length e0)).setCell ⟨b, 4, none⟩ (.slice A1 s.C.length e1)).setCell ⟨b, 5, none⟩ (.slice A2 s.P.length e2)) = W' at *
  cases k with
  | v x => exact h
  | tx l => obtain ⟨g, q1, q2⟩ := h; exact ⟨g, q1, tx_past q2 hb hn ho⟩
  | ps l => obtain ⟨g, q1, q2⟩ := h; exact ⟨g, q1, ps_past q2 hb hn ho⟩
  | st s => exact st_past h hb hn ho
  | res s er => obtain ⟨u, q1, q2⟩ := h; exact ⟨u, q1, st_past q2 hb hn ho⟩
  | two l er => obtain ⟨A1, A2, c1, c2, q1, q2, q3⟩ := h; exact ⟨A1, A2, c1, c2, q1, tx_past q2 hb hn ho, ps_past q3 hb hn ho⟩
  | r1 l => obtain ⟨A, c, q1, q2⟩ := h; exact ⟨A, c, q1, tx_past q2 hb hn ho⟩
  | r2 l => obtain ⟨A, c, q1, q2⟩ := h; exact ⟨A, c, q1, ps_past q2 hb hn ho⟩
  | box24 lo => exact hk.elim
  | fin24 p lo => exact hk.elim
  | at24 b p => exact hk.elim
  | box35 lo =>
    obtain ⟨g, q1, q2, x0, x1, x2, x3, x4, x5, q3, q4⟩ := h
    by_cases e : g = b
    · subst e
      exact ⟨g, q1, q2, _, _, _, _, _, _, hp, noS_st s A0 A1 A2 e0 e1 e2⟩
    · exact ⟨g, q1, q2, _, _, _, _, _, _, ho.has q3 e, q4⟩
  | fin35 s' lo =>
    obtain rfl : s' = s := hk
    obtain ⟨g, B0, B1, B2, d0, d1, d2, q1, q2, q3, q4, q5, q6⟩ := h
    by_cases e : g = b
    · subst e
      exact ⟨g, A0, A1, A2, e0, e1, e2, q1, q2, hp, sn_past h0 hb hn ho, tx_past h1 hb hn ho, ps_past h2 hb hn ho⟩
    · exact ⟨g, B0, B1, B2, d0, d1, d2, q1, q2, ho.has q3 e, sn_past q4 hb hn ho, tx_past q5 hb hn ho, ps_past q6 hb hn ho⟩
theorem KF_put3 {k : K} {v : Value} {W : World} {b : Nat} {u0 u1 u2 : Value} {p : Pl} (hk : k.ok24 p) (hb : Has W b #[u0, u1, u2] 24) (h : KF k v W) : KF k v (((W.setCell ⟨b, 0, none⟩ (.string p.pack)).setCell ⟨b, 1, none⟩ (.int .i64 p.at_)).setCell ⟨b, 2, none⟩ (.int .i64 p.len)) := by
  have ho := onl_put3 b W (.string p.pack) (.int .i64 p.at_) (.int .i64 p.len)
  have hp := put3 hb (.string p.pack) (.int .i64 p.at_) (.int .i64 p.len)
  generalize (((W.setCell ⟨b, 0, none⟩ (.string p.pack)).setCell ⟨b, 1, none⟩ (.int .i64 p.at_)).setCell ⟨b, 2, none⟩ (.int .i64 p.len)) = W' at *
  cases k with
  | v x => exact h
  | box24 lo =>
    obtain ⟨g, q1, q2, x0, x1, x2, q3⟩ := h
    by_cases e : g = b
    · subst e
      exact ⟨g, q1, q2, _, _, _, hp⟩
    · exact ⟨g, q1, q2, _, _, _, ho.has q3 e⟩
  | fin24 p' lo =>
    obtain rfl : p' = p := hk
    obtain ⟨g, q1, q2, q3⟩ := h
    by_cases e : g = b
    · subst e
      exact ⟨g, q1, q2, hp⟩
    · exact ⟨g, q1, q2, ho.has q3 e⟩
  | at24 g p' =>
    obtain rfl : p' = p := hk
    have h' : Has W g (pl3 p').toArray 24 := h
    by_cases e : g = b
    · subst e
      exact hp
    · exact ho.has h' e
  | tx l => exact hk.elim
  | ps l => exact hk.elim
  | st s => exact hk.elim
  | res s er => exact hk.elim
  | two l er => exact hk.elim
  | r1 l => exact hk.elim
  | r2 l => exact hk.elim
  | box35 lo => exact hk.elim
  | fin35 s lo => exact hk.elim
end Go.Proofs.YtknddbmnciodaaaGreat
