/- The lists that SolveNames walks over, laid in any order; the answers. -/
import Derived.Test.YtjgjcbgeekfkkaaAwake
import Derived.Test.YtjgjcbgeekfkkaaAll
import Derived.Test.YtjgjcbgeekfkkaaOps
namespace Go.Proofs.Ytjgjcbgeekfkkaa
open Go.RowKit
def nmM : List (List (List Nat)) := [[], [[]], [[1], [1, 2]], [[], []], List.replicate 256 [], [List.replicate 256 0]]
theorem nm_err : ∀ j : Fin 6, errT (nmM.getD j.1 []) = 4 ∧ errD (nmM.getD j.1 []) = 4 ∧ errS (nmM.getD j.1 []) (List.replicate (nmM.getD j.1 []).length 0) = 4 ∧ (nmM.getD j.1 []).length ≤ 256 := by decide +kernel
theorem nm_a : errT [[1, 2]] = 4 ∧ errS [[1]] [] = 4 ∧ errS [[0]] [1] = 5 ∧ errD [[0, 0, 3], [0, 2, 0], [0, 4, 1]] = 0 ∧ ansD [[0, 0, 3], [0, 2, 0], [0, 4, 1]] = [[0, 1, 0], [0, 0, 1], [0, 0, 0]] := by decide +kernel
/-- the list of the six -/
def Six (w : World) (v : Value) : Prop := ∃ g, v = .slice (some ⟨g, 0, none⟩) 6 6 ∧ g < w.heap.size ∧ ∀ j, j < 6 → ∃ x, w.cell? ⟨g, j, none⟩ = some x ∧ Mat w x (nmM.getD j [])
theorem Six.below {w w' : World} {v : Value} (h : Six w v) (hb : Below w.heap.size w w') : Six w' v := by
  obtain ⟨g, h1, h2, h3⟩ := h
  refine ⟨g, h1, Nat.lt_of_lt_of_le h2 hb.size, fun j hj => ?_⟩
  obtain ⟨x, k1, k2⟩ := h3 j hj
  exact ⟨x, cell_below hb h2 k1, k2.below hb⟩
/-- what each slot holds when it is done -/
def FN (i : Nat) (v : Value) (w : World) : Prop := match i with
  | 0 => Mat w v [[]]
  | 1 => Row8 w v [1]
  | 2 => Row8 w v [1, 2]
  | 3 => Mat w v [[1], [1, 2]]
  | 4 => Row8 w v []
  | 5 => Row8 w v []
  | 6 => Mat w v [[], []]
  | 7 => Mat w v (List.replicate 256 [])
  | 8 => Row8 w v (List.replicate 256 0)
  | 9 => Mat w v [List.replicate 256 0]
  | 10 => Six w v
  | 11 => v = .int .i64 6
  | 12 => v = .int .i64 0
  | _ => True
theorem FN.mono (i : Nat) (v : Value) (w w' : World) (h : FN i v w) (hb : Below w.heap.size w w') : FN i v w' := by
  match i with
  | 0 => exact Mat.below (h := h) hb
  | 1 => exact Row8.below (h := h) hb
  | 2 => exact Row8.below (h := h) hb
  | 3 => exact Mat.below (h := h) hb
  | 4 => exact Row8.below (h := h) hb
  | 5 => exact Row8.below (h := h) hb
  | 6 => exact Mat.below (h := h) hb
  | 7 => exact Mat.below (h := h) hb
  | 8 => exact Row8.below (h := h) hb
  | 9 => exact Mat.below (h := h) hb
  | 10 => exact Six.below h hb
  | 11 => exact h
  | 12 => exact h
  | _ + 13 => trivial
theorem Row8.form {w : World} {v : Value} {l : List Nat} (h : Row8 w v l) : ∃ a c, v = .slice a l.length c := by obtain ⟨a, c, e, _⟩ := h; exact ⟨a, c, e⟩
theorem Mat.form {w : World} {v : Value} {m : List (List Nat)} (h : Mat w v m) : ∃ a c, v = .slice a m.length c := by obtain ⟨a, c, e, _⟩ := h; exact ⟨a, c, e⟩
theorem rn_b230 {ev : Operand → Value} {o : Oper} {w : World} (ho : o.op = .buildSlice 23 0 #[]) :
    (execOp ev o).run Try.prog w = .ok (.value (.slice (some ⟨w.heap.size, 0, none⟩) 0 0)) (w.alloc (.cells (U8s []) 5)) := by
  simp [execOp, ho, go_sem, U8s]
theorem rn_b231 {ev : Operand → Value} {o : Oper} {w : World} {x : Operand} {m : Nat} (ho : o.op = .buildSlice 23 1 #[(0, x)]) (hx : ev x = .int .u8 (m : Int)) :
    (execOp ev o).run Try.prog w = .ok (.value (.slice (some ⟨w.heap.size, 0, none⟩) 1 1)) (w.alloc (.cells (U8s [m]) 5)) := by
  simp [execOp, ho, hx, go_sem, U8s]
theorem rn_b232 {ev : Operand → Value} {o : Oper} {w : World} {x y : Operand} {m n : Nat} (ho : o.op = .buildSlice 23 2 #[(0, x), (1, y)]) (hx : ev x = .int .u8 (m : Int)) (hy : ev y = .int .u8 (n : Int)) :
    (execOp ev o).run Try.prog w = .ok (.value (.slice (some ⟨w.heap.size, 0, none⟩) 2 2)) (w.alloc (.cells (U8s [m, n]) 5)) := by
  simp [execOp, ho, hx, hy, go_sem, U8s]
theorem rn_b221 {ev : Operand → Value} {o : Oper} {w : World} {x : Operand} {a : Option Addr} {n c : Nat} (ho : o.op = .buildSlice 22 1 #[(0, x)]) (hx : ev x = .slice a n c) :
    (execOp ev o).run Try.prog w = .ok (.value (.slice (some ⟨w.heap.size, 0, none⟩) 1 1)) (w.alloc (.cells #[.slice a n c] 23)) := by
  simp [execOp, ho, hx, go_sem]
theorem rn_b222 {ev : Operand → Value} {o : Oper} {w : World} {x y : Operand} {a a' : Option Addr} {n c n' c' : Nat} (ho : o.op = .buildSlice 22 2 #[(0, x), (1, y)]) (hx : ev x = .slice a n c) (hy : ev y = .slice a' n' c') :
    (execOp ev o).run Try.prog w = .ok (.value (.slice (some ⟨w.heap.size, 0, none⟩) 2 2)) (w.alloc (.cells #[.slice a n c, .slice a' n' c'] 23)) := by
  simp [execOp, ho, hx, hy, go_sem]
theorem rn_b366 {ev : Operand → Value} {o : Oper} {w : World} {x0 x1 x2 x3 x4 x5 : Operand} {a0 a1 a2 a3 a4 a5 : Option Addr} {n0 c0 n1 c1 n2 c2 n3 c3 n4 c4 n5 c5 : Nat} (ho : o.op = .buildSlice 36 6 #[(0, x0), (1, x1), (2, x2), (3, x3), (4, x4), (5, x5)])
    (h0 : ev x0 = .slice a0 n0 c0) (h1 : ev x1 = .slice a1 n1 c1) (h2 : ev x2 = .slice a2 n2 c2) (h3 : ev x3 = .slice a3 n3 c3) (h4 : ev x4 = .slice a4 n4 c4) (h5 : ev x5 = .slice a5 n5 c5) :
    (execOp ev o).run Try.prog w = .ok (.value (.slice (some ⟨w.heap.size, 0, none⟩) 6 6)) (w.alloc (.cells #[.slice a0 n0 c0, .slice a1 n1 c1, .slice a2 n2 c2, .slice a3 n3 c3, .slice a4 n4 c4, .slice a5 n5 c5] 22)) := by
  simp [execOp, ho, h0, h1, h2, h3, h4, h5, go_sem]
theorem rn_mk22 {ev : Operand → Value} {o : Oper} {w : World} {x : Operand} {n : Nat} (ho : o.op = .makeSlice 22 x x) (hx : ev x = .int .i64 (n : Int)) (hn : n ≤ 1000000) :
    (execOp ev o).run Try.prog w = .ok (.value (.slice (some ⟨w.heap.size, 0, none⟩) n n)) (w.alloc (.cells (noRows n) 23)) := by
  have := makes_rows n hn w
  simp [execOp, ho, hx, go_sem, this]
theorem rn_mk23 {ev : Operand → Value} {o : Oper} {w : World} {x : Operand} {n : Nat} (ho : o.op = .makeSlice 23 x x) (hx : ev x = .int .i64 (n : Int)) (hn : n ≤ 1000000) :
    (execOp ev o).run Try.prog w = .ok (.value (.slice (some ⟨w.heap.size, 0, none⟩) n n)) (w.alloc (.cells (U8s (List.replicate n 0)) 5)) := by
  have := makes_u8 n hn w
  simp [execOp, ho, hx, go_sem, this]
theorem rn_len36 {ev : Operand → Value} {o : Oper} {w : World} {x : Operand} {a : Option Addr} {n c : Nat} (ho : o.op = .call { callee := .builtin .len, args := #[x], argTypes := #[36] }) (hx : ev x = .slice a n c) : (execOp ev o).run Try.prog w = .ok (.value (.int .i64 (n : Int))) w := by
  have hl := run_len_slice (P := Try.prog) (w := w) 36 o.type a n c (by kernel_rfl)
  simp [execOp, ho, hx, go_sem, hl]
/-- new lists of rows -/
theorem new_row (w : World) (l : List Nat) (hx : ∀ x ∈ l, x < 256) (hl : l.length ≤ 1000000) : Row8 (w.alloc (.cells (U8s l) 5)) (.slice (some ⟨w.heap.size, 0, none⟩) l.length l.length) l := row_lit (Has.new w _ _ 5 rfl) hx hl
theorem new_m1 {w : World} {v0 : Value} {l0 : List Nat} (h0 : Row8 w v0 l0) : Mat (w.alloc (.cells #[v0] 23)) (.slice (some ⟨w.heap.size, 0, none⟩) 1 1) [l0] := by
  refine mat_lit (m := [l0]) (vs := [v0]) (Has.new w _ _ 23 rfl) rfl (by simp) (fun j hj => ?_)
  obtain rfl : j = 0 := by have : j < 1 := hj; omega
  exact h0.below (b1 (Below.refl _ _) _)
theorem new_m2 {w : World} {v0 v1 : Value} {l0 l1 : List Nat} (h0 : Row8 w v0 l0) (h1 : Row8 w v1 l1) : Mat (w.alloc (.cells #[v0, v1] 23)) (.slice (some ⟨w.heap.size, 0, none⟩) 2 2) [l0, l1] := by
  refine mat_lit (m := [l0, l1]) (vs := [v0, v1]) (Has.new w _ _ 23 rfl) rfl (by simp) (fun j hj => ?_)
  have hj' : j < 2 := hj
  by_cases hj0 : j = 0
  · subst hj0; exact h0.below (b1 (Below.refl _ _) _)
  · obtain rfl : j = 1 := by omega
    exact h1.below (b1 (Below.refl _ _) _)
theorem new_m3 {w : World} {v0 v1 v2 : Value} {l0 l1 l2 : List Nat} (h0 : Row8 w v0 l0) (h1 : Row8 w v1 l1) (h2 : Row8 w v2 l2) : Mat (w.alloc (.cells #[v0, v1, v2] 23)) (.slice (some ⟨w.heap.size, 0, none⟩) 3 3) [l0, l1, l2] := by
  refine mat_lit (m := [l0, l1, l2]) (vs := [v0, v1, v2]) (Has.new w _ _ 23 rfl) rfl (by simp) (fun j hj => ?_)
  have hj' : j < 3 := hj
  by_cases hj0 : j = 0
  · subst hj0; exact h0.below (b1 (Below.refl _ _) _)
  by_cases hj1 : j = 1
  · subst hj1; exact h1.below (b1 (Below.refl _ _) _)
  · obtain rfl : j = 2 := by omega
    exact h2.below (b1 (Below.refl _ _) _)
theorem new_noRows (w : World) (n : Nat) (hn : n ≤ 1000000) : Mat (w.alloc (.cells (noRows n) 23)) (.slice (some ⟨w.heap.size, 0, none⟩) n n) (List.replicate n []) := by
  have := mat_lit (m := List.replicate n []) (c := n) (vs := List.replicate n (Value.slice none 0 0)) (Has.new w _ (noRows n) 23 rfl) (by simp) (by simpa using hn) (fun j hj => by
    have hj' : j < n := by simpa using hj
    rw [show (List.replicate n (Value.slice none 0 0)).getD j (.bool false) = .slice none 0 0 by simp [List.getD_eq_getElem?_getD, hj'], show (List.replicate n ([] : List Nat)).getD j [] = [] by simp [List.getD_eq_getElem?_getD, hj']]
    exact Row8.nil _)
  simpa using this
theorem new_six {w : World} {v1 v2 v3 v4 v5 : Value} (h1 : Mat w v1 [[]]) (h2 : Mat w v2 [[1], [1, 2]]) (h3 : Mat w v3 [[], []]) (h4 : Mat w v4 (List.replicate 256 [])) (h5 : Mat w v5 [List.replicate 256 0]) :
    Six (w.alloc (.cells #[.slice none 0 0, v1, v2, v3, v4, v5] 22)) (.slice (some ⟨w.heap.size, 0, none⟩) 6 6) := by
  have hh := Has.new w w.heap.size #[.slice none 0 0, v1, v2, v3, v4, v5] 22 rfl
  have B := b1 (Below.refl w.heap.size w) (.cells #[.slice none 0 0, v1, v2, v3, v4, v5] 22)
  refine ⟨_, rfl, hh.lt, fun j hj => ?_⟩
  rw [hh.cell]
  match j, hj with
  | 0, _ => exact ⟨_, rfl, Mat.nil _⟩
  | 1, _ => exact ⟨_, rfl, h1.below B⟩
  | 2, _ => exact ⟨_, rfl, h2.below B⟩
  | 3, _ => exact ⟨_, rfl, h3.below B⟩
  | 4, _ => exact ⟨_, rfl, h4.below B⟩
  | 5, _ => exact ⟨_, rfl, h5.below B⟩
end Go.Proofs.Ytjgjcbgeekfkkaa
