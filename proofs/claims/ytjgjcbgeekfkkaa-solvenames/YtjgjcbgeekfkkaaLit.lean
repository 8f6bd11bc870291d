/- Matrices that are written out; the examples' answers. -/
import Derived.Test.YtjgjcbgeekfkkaaProg2
namespace Go.Proofs.Ytjgjcbgeekfkkaa
open Go.RowKit
theorem row_lit {w : World} {g c : Nat} {l : List Nat} (h : Has w g (U8s l) 5) (hx : ∀ x ∈ l, x < 256) (hl : l.length ≤ 1000000) : Row8 w (.slice (some ⟨g, 0, none⟩) l.length c) l :=
  ⟨_, _, rfl, by omega, hx, fun _ => ⟨g, 0, rfl, h.lt, fun j hj => by rw [Nat.zero_add, h.cell, U8s_get _ _ hj]⟩⟩
theorem mat_lit {w : World} {g c : Nat} {vs : List Value} {m : List (List Nat)} {t : TypeId} (h : Has w g vs.toArray t) (hl : vs.length = m.length) (hm : m.length ≤ 1000000) (hr : ∀ j, j < m.length → Row8 w (vs.getD j (.bool false)) (m.getD j [])) : Mat w (.slice (some ⟨g, 0, none⟩) m.length c) m :=
  ⟨_, _, rfl, by omega, fun _ => ⟨g, 0, rfl, h.lt, fun j hj => ⟨vs.getD j (.bool false), by rw [Nat.zero_add, h.cell]; simp [List.getD_eq_getElem?_getD, List.getElem?_eq_getElem (show j < vs.length by omega)], hr j hj⟩⟩⟩
/-- two rows of two numbers, laid anew -/
theorem lit22 (w : World) (a b c d : Nat) (ha : a < 256) (hb : b < 256) (hc : c < 256) (hd : d < 256) : Mat (((w.alloc (.cells #[.int .u8 (a : Int), .int .u8 (b : Int)] 5)).alloc (.cells #[.int .u8 (c : Int), .int .u8 (d : Int)] 5)).alloc (.cells #[.slice (some ⟨w.heap.size, 0, none⟩) 2 2, .slice (some ⟨w.heap.size + 1, 0, none⟩) 2 2] 23)) (.slice (some ⟨w.heap.size + 1 + 1, 0, none⟩) 2 2) [[a, b], [c, d]] := by
  have h0 := ((Has.new w w.heap.size (U8s [a, b]) 5 rfl).alloc (.cells (U8s [c, d]) 5)).alloc (.cells #[.slice (some ⟨w.heap.size, 0, none⟩) 2 2, .slice (some ⟨w.heap.size + 1, 0, none⟩) 2 2] 23)
  have h1 := (Has.new (w.alloc (.cells (U8s [a, b]) 5)) (w.heap.size + 1) (U8s [c, d]) 5 (by simp)).alloc (.cells #[.slice (some ⟨w.heap.size, 0, none⟩) 2 2, .slice (some ⟨w.heap.size + 1, 0, none⟩) 2 2] 23)
  have h2 := Has.new ((w.alloc (.cells (U8s [a, b]) 5)).alloc (.cells (U8s [c, d]) 5)) (w.heap.size + 1 + 1) #[.slice (some ⟨w.heap.size, 0, none⟩) 2 2, .slice (some ⟨w.heap.size + 1, 0, none⟩) 2 2] 23 (by simp)
  refine mat_lit (m := [[a, b], [c, d]]) (vs := [.slice (some ⟨w.heap.size, 0, none⟩) 2 2, .slice (some ⟨w.heap.size + 1, 0, none⟩) 2 2]) h2 rfl (by simp) (fun j hj => ?_)
  have hj' : j < 2 := hj
  by_cases hj0 : j = 0
  · subst hj0; exact row_lit h0 (by simp [ha, hb]) (by simp)
  · obtain rfl : j = 1 := by omega
    exact row_lit h1 (by simp [hc, hd]) (by simp)
/-- one row of one number -/
theorem lit11 (w : World) (a : Nat) (ha : a < 256) : Mat ((w.alloc (.cells #[.int .u8 (a : Int)] 5)).alloc (.cells #[.slice (some ⟨w.heap.size, 0, none⟩) 1 1] 23)) (.slice (some ⟨w.heap.size + 1, 0, none⟩) 1 1) [[a]] := by
  have h0 := (Has.new w w.heap.size (U8s [a]) 5 rfl).alloc (.cells #[.slice (some ⟨w.heap.size, 0, none⟩) 1 1] 23)
  have h2 := Has.new (w.alloc (.cells (U8s [a]) 5)) (w.heap.size + 1) #[.slice (some ⟨w.heap.size, 0, none⟩) 1 1] 23 (by simp)
  refine mat_lit (m := [[a]]) (vs := [.slice (some ⟨w.heap.size, 0, none⟩) 1 1]) h2 rfl (by simp) (fun j hj => ?_)
  obtain rfl : j = 0 := by have : j < 1 := hj; omega
  exact row_lit h0 (by simp [ha]) (by simp)
theorem ex_t1 : ansT [[1, 1], [0, 1]] = [[1, 1], [0, 1]] ∧ errT [[1, 1], [0, 1]] = 0 := by decide +kernel
theorem ex_t2 : errT [[1, 1], [1, 1]] = 5 := by decide +kernel
theorem ex_k : ansK [[1, 1], [1, 1]] = 1 ∧ errD [[1, 1], [1, 1]] = 0 := by decide +kernel
theorem ex_t3 : ansT [[2]] = [[142]] ∧ errT [[2]] = 0 := by decide +kernel
theorem ex_s : ansS [[1, 1], [0, 1]] [3, 1] = [2, 1] ∧ errS [[1, 1], [0, 1]] [3, 1] = 0 := by decide +kernel
end Go.Proofs.Ytjgjcbgeekfkkaa
