/- What more single operations do, over any frame. -/
import Derived.Test.YtnihohcdamhidaaRuns
namespace Go.Proofs.Ytnihohcdamhidaa
open Go.RowKit
/-- a row that was written out -/
def LitRow (w : World) (v : Value) (l : List Nat) : Prop := ∃ g, v = .slice (some ⟨g, 0, none⟩) l.length l.length ∧ Has w g (U8s l) 5
theorem LitRow.below {w w' : World} {v : Value} {l : List Nat} (h : LitRow w v l) (hb : Below w.heap.size w w') : LitRow w' v l := by
  obtain ⟨g, e, h⟩ := h; exact ⟨g, e, h.below hb h.lt⟩
theorem enter16 {w : World} (args : Array Value) : (callFunc 16 args).run Try.prog w = .ok (.enter 16 args) w := by kernel_rfl
theorem enter17 {w : World} (args : Array Value) : (callFunc 17 args).run Try.prog w = .ok (.enter 17 args) w := by kernel_rfl
theorem enter14 {w : World} (args : Array Value) : (callFunc 14 args).run Try.prog w = .ok (.enter 14 args) w := by kernel_rfl
theorem rn_b320 {ev : Operand → Value} {o : Oper} {w : World} (ho : o.op = .buildSlice 32 0 #[]) : (execOp ev o).run Try.prog w = .ok (.value (.slice (some ⟨w.heap.size, 0, none⟩) 0 0)) (w.alloc (.cells #[] 5)) := by
  simp [execOp, ho, go_sem]
theorem rn_b321 {ev : Operand → Value} {o : Oper} {w : World} {x : Operand} {m : Int} (ho : o.op = .buildSlice 32 1 #[(0, x)]) (hx : ev x = .int .u8 m) :
    (execOp ev o).run Try.prog w = .ok (.value (.slice (some ⟨w.heap.size, 0, none⟩) 1 1)) (w.alloc (.cells #[.int .u8 m] 5)) := by
  simp [execOp, ho, hx, go_sem]
theorem rn_b231 {ev : Operand → Value} {o : Oper} {w : World} {x : Operand} {a : Option Addr} {n c : Nat} (ho : o.op = .buildSlice 23 1 #[(0, x)]) (hx : ev x = .slice a n c) :
    (execOp ev o).run Try.prog w = .ok (.value (.slice (some ⟨w.heap.size, 0, none⟩) 1 1)) (w.alloc (.cells #[.slice a n c] 32)) := by
  simp [execOp, ho, hx, go_sem]
theorem rn_b232 {ev : Operand → Value} {o : Oper} {w : World} {x y : Operand} {a a' : Option Addr} {n c n' c' : Nat} (ho : o.op = .buildSlice 23 2 #[(0, x), (1, y)]) (hx : ev x = .slice a n c) (hy : ev y = .slice a' n' c') :
    (execOp ev o).run Try.prog w = .ok (.value (.slice (some ⟨w.heap.size, 0, none⟩) 2 2)) (w.alloc (.cells #[.slice a n c, .slice a' n' c'] 32)) := by
  simp [execOp, ho, hx, hy, go_sem]
theorem rn_mk13 {ev : Operand → Value} {o : Oper} {w : World} {x y : Operand} (ho : o.op = .makeSlice 32 x y) (hx : ev x = .int .i64 13) (hy : ev y = .int .i64 13) :
    (execOp ev o).run Try.prog w = .ok (.value (.slice (some ⟨w.heap.size, 0, none⟩) 13 13)) (w.alloc (.cells (U8s (List.replicate 13 0)) 5)) := by
  have h : (Instr.makeSlice 32 (.int .i64 13) (.int .i64 13)).run Try.prog w = .ok (.slice (some ⟨w.heap.size, 0, none⟩) 13 13) (w.alloc (.cells (U8s (List.replicate 13 0)) 5)) := makes_u8 13 (by decide) w
  generalize U8s (List.replicate 13 0) = U at *
  simp [execOp, ho, hx, hy, go_sem, h]
theorem rn_build29 {ev : Operand → Value} {o : Oper} {w : World} {x y : Operand} {m n : Int} (ho : o.op = .build 29 #[(0, x), (1, y)]) (hx : ev x = .int .i64 m) (hy : ev y = .int .i64 n) :
    (execOp ev o).run Try.prog w = .ok (.value (.agg #[.int .i64 m, .int .i64 n])) w := by
  simp [execOp, ho, hx, hy, go_sem]
theorem rn_at23 {ev : Operand → Value} {o : Oper} {w : World} {x : Operand} {g n c : Nat} (ho : o.op = .indexAddr 23 x (.const (.int .i64 0))) (hx : ev x = .slice (some ⟨g, 0, none⟩) n c) (hk : ev (.const (.int .i64 0)) = .int .i64 0) (h : 0 < n) : (execOp ev o).run Try.prog w = .ok (.value (.pointer (some ⟨g, 0, none⟩))) w := by
  have h1 : ¬ n = 0 := by omega
  simp [execOp, ho, hx, hk, go_sem, h1, Try.underlying23]
theorem rn_load32 {ev : Operand → Value} {o : Oper} {w : World} {x : Operand} {g k : Nat} {v : Value} (ho : o.op = .load 32 x) (hx : ev x = .pointer (some ⟨g, k, none⟩)) (hc : w.cell? ⟨g, k, none⟩ = some v) : (execOp ev o).run Try.prog w = .ok (.value v) w := by
  simp [execOp, ho, hx, go_sem, hc]
theorem rn_append {ev : Operand → Value} {o : Oper} {w : World} {x y : Operand} {u v r : Value} {w' : World} (ho : o.op = .call { callee := .builtin .append, args := #[x, y], argTypes := #[23, 23] }) (hx : ev x = u) (hy : ev y = v) (hr : (Builtin.append_ #[23, 23] o.type #[u, v]).run Try.prog w = .ok r w') : (execOp ev o).run Try.prog w = .ok (.value r) w' := by
  simp [execOp, ho, resolve, invoke, builtin, hx, hy, hr, Result.andThen]
/-- one row more behind a list that has no room: new memory -/
theorem append_full {w : World} (ty : TypeId) {T n : Nat} {xs : List Value} {b : Nat} {r : Value} (hT : Has w T xs.toArray 32) (hn : xs.length = n) (hb : Has w b #[r] 32) (hs : n ≤ 1000) :
    ∃ cap cs, (Builtin.append_ #[23, 23] ty #[.slice (some ⟨T, 0, none⟩) n n, .slice (some ⟨b, 0, none⟩) 1 1]).run Try.prog w = .ok (.slice (some ⟨w.heap.size, 0, none⟩) (n + 1) cap) (w.drew.alloc (.cells cs 32)) ∧ n + 1 ≤ cap ∧ cap ≤ maxLen ∧ ∀ j, j < n + 1 → cs[j]? = (xs ++ [r])[j]? := by
  obtain ⟨i, hi, hz0, hz1, hz2⟩ := el32.info
  have holds : ∀ j u, xs[j]? = some u → w.cell? ((⟨T, 0, none⟩ : Addr).add j) = some u := fun j u hu => by
    rw [Addr.add_mid, Nat.zero_add, hT.cell]; simpa using hu
  have hnb := World.news_of_block hb
  have hr := run_append_grow (P := Try.prog) w 23 ty 32 i (.slice none 0 0) el32.ht hi hz0 ⟨T, 0, none⟩ n n xs (by simp [hz1, hn]) holds ⟨b, 0, none⟩ 1 1 #[r].toList (by simp [hz1]) hnb (by omega) (by omega) (growslice_fits (by omega) (by rw [hz2]; omega))
  have hge := grownCap_ge w (n + 1) n 32
  have hcm := grownCap_le_maxLen w (n + 1) n 32 (by unfold maxLen; omega)
  refine ⟨_, _, hr, hge, hcm, fun j hj => ?_⟩
  rw [← Array.getElem?_toList]
  simp only [Array.toList_append]
  rw [List.getElem?_append_left (by simp; omega)]
theorem one12 : (oneM 12).length = 12 ∧ ∀ j : Fin 12, ((oneM 12).getD j.val []).length = 12 := by decide +kernel
theorem one12b : (oneM 12 ++ [(oneM 12).getD 0 []]).length = 13 := by decide +kernel
theorem append_wide {base T : Nat} {w : World} (h : RowsAt base T 12 w (oneM 12)) {g0 b : Nat} (hc0 : w.cell? ⟨T, 0, none⟩ = some (.slice (some ⟨g0, 0, none⟩) 12 12)) (hb : Has w b #[.slice (some ⟨g0, 0, none⟩) 12 12] 32) :
    ∃ cap cs, (Builtin.append_ #[23, 23] 23 #[.slice (some ⟨T, 0, none⟩) 12 12, .slice (some ⟨b, 0, none⟩) 1 1]).run Try.prog w = .ok (.slice (some ⟨w.heap.size, 0, none⟩) 13 cap) (w.drew.alloc (.cells cs 32)) ∧ Mat (w.drew.alloc (.cells cs 32)) (.slice (some ⟨w.heap.size, 0, none⟩) 13 cap) (oneM 12 ++ [(oneM 12).getD 0 []]) := by
  obtain ⟨hl, hrl⟩ := one12
  obtain ⟨_, _, B, h3, h4⟩ := h
  have hx : (tops 12 B (oneM 12)).toList.length = 12 := by simp [tops]
  obtain ⟨cap, cs, hr, k1, k2, k3⟩ := append_full 23 (T := T) (n := 12) (xs := (tops 12 B (oneM 12)).toList) (by simpa using h3) hx hb (by decide)
  have hg0 : g0 = B 0 := by
    rw [h3.cell, tops_get 12 B _ 0 (by decide), if_pos (by omega)] at hc0
    simp only [Option.some.injEq, Value.slice.injEq, Addr.mk.injEq, and_true] at hc0
    exact hc0.1.symm
  refine ⟨cap, cs, hr, _, cap, by rw [one12b], by rw [one12b]; decide, fun _ => ⟨w.heap.size, 0, rfl, by simp, fun j hj => ?_⟩⟩
  rw [one12b] at hj
  have hn := Has.new w.drew w.heap.size cs 32 rfl
  have hrow : ∀ i, i < 12 → Row8 (w.drew.alloc (.cells cs 32)) (.slice (some ⟨B i, 0, none⟩) ((oneM 12).getD i []).length ((oneM 12).getD i []).length) ((oneM 12).getD i []) := fun i hi => by
    obtain ⟨_, _, _, e, f⟩ := h4 i (by omega)
    have e' : Has w.drew (B i) (U8s ((oneM 12).getD i [])) 5 := e
    exact row_lit (e'.alloc _) f (by have := hrl ⟨i, hi⟩; simp only at this; omega)
  by_cases hj12 : j < 12
  · refine ⟨_, ?_, by rw [getD_app_old _ _ _ _ (by omega)]; exact hrow j hj12⟩
    rw [Nat.zero_add, hn.cell, k3 j hj, List.getElem?_append_left (by omega), Array.getElem?_toList, tops_get 12 B _ j hj12, if_pos (by omega)]
  · obtain rfl : j = 12 := by omega
    refine ⟨.slice (some ⟨B 0, 0, none⟩) ((oneM 12).getD 0 []).length ((oneM 12).getD 0 []).length, ?_, by rw [getD_app_new _ _ _ _ (by omega)]; exact hrow 0 (by decide)⟩
    have h0 := hrl ⟨0, by decide⟩
    simp only at h0
    rw [Nat.zero_add, hn.cell, k3 12 hj, List.getElem?_append_right (by omega), hx, h0, ← hg0]; rfl
end Go.Proofs.Ytnihohcdamhidaa
