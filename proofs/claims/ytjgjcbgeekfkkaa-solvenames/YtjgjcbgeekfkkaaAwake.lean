/- awake: the examples. -/
import Derived.Test.YtjgjcbgeekfkkaaLit
namespace Go.Proofs.Ytjgjcbgeekfkkaa
open Go.RowKit
theorem b22 {w W : World} (h : Below w.heap.size w W) (a b c : Obj) : Below w.heap.size w (((W.alloc a).alloc b).alloc c) := ((h.alloc h.size a).alloc (Nat.le_trans h.size (by simp)) b).alloc (Nat.le_trans h.size (by simp; omega)) c
theorem b11 {w W : World} (h : Below w.heap.size w W) (a b : Obj) : Below w.heap.size w ((W.alloc a).alloc b) := (h.alloc h.size a).alloc (Nat.le_trans h.size (by simp)) b
theorem b1 {w W : World} (h : Below w.heap.size w W) (a : Obj) : Below w.heap.size w (W.alloc a) := h.alloc h.size a
theorem rowC_lit {w : World} {g : Nat} {l : List Nat} (h : Has w g (U8s l) 5) (hx : ∀ x ∈ l, x < 256) (hl : l.length ≤ 1000000) : RowC w (.slice (some ⟨g, 0, none⟩) l.length l.length) l :=
  ⟨row_lit h hx hl, fun a n c e => by simp only [Value.slice.injEq] at e; omega⟩
set_option maxRecDepth 20000 in
theorem awake_any (w : World) : Calls Try.prog 7 #[] w fun e w' => e = .returned (.bool true) ∧ Below w.heap.size w w' := by
  have B0 := Below.refl w.heap.size w
  go_enter Try.func7, Try.ntmps7
  go_wp2_with fail
  refine (turn_any _ [[1, 1], [0, 1]] _ (lit22 w 1 1 0 1 (by decide) (by decide) (by decide) (by decide))).mono ?_
  rintro e w1 ⟨va, rfl, hA, b1'⟩
  have B1 := belowCall (b22 B0 _ _ _) b1'
  have MA := hid hA.mat
  rw [ex_t1.1] at MA
  rw [ex_t1.2]
  clear hA b1'
  go_wp2_with fail
  refine (turn_any _ [[1, 1], [1, 1]] _ (lit22 w1 1 1 1 1 (by decide) (by decide) (by decide) (by decide))).mono ?_
  rintro e w2 ⟨vx, rfl, _, b2'⟩
  rw [ex_t2]
  have C2 := belowCall (b22 (Below.refl w1.heap.size w1) _ _ _) b2'
  have B2 := belowCall B1 C2
  clear b2'
  go_wp2_with fail
  refine (rank_any _ [[1, 1], [1, 1]] _ (lit22 w2 1 1 1 1 (by decide) (by decide) (by decide) (by decide))).mono ?_
  rintro e w3 ⟨rfl, b3'⟩
  rw [ex_k.1, ex_k.2]
  have C3 := belowCall C2 (belowCall (b22 (Below.refl w2.heap.size w2) _ _ _) b3')
  have B3 := belowCall B1 C3
  clear b3' C2 B2
  go_wp2_with fail
  refine (turn_any _ [[2]] _ (lit11 w3 2 (by decide))).mono ?_
  rintro e w4 ⟨vb, rfl, hB, b4'⟩
  have D4 := belowCall (b11 (Below.refl w3.heap.size w3) _ _) b4'
  have C4 := belowCall C3 D4
  have MB := hid hB.mat
  rw [ex_t3.1] at MB
  rw [ex_t3.2]
  have B4 := belowCall B1 C4
  clear hB b4' C3 B3 D4
  go_wp2_with fail
  have hL5 := lit22 w4 1 1 0 1 (by decide) (by decide) (by decide) (by decide)
  refine (solve_any _ _ [[1, 1], [0, 1]] [3, 1] _ (hL5.below ((Below.refl _ _).alloc (Nat.le_refl _) _)) (rowC_lit (l := [3, 1]) (Has.new _ _ _ _ (by simp)) (by simp) (by simp))).mono ?_
  rintro e w5 ⟨vv, rfl, hV, b5'⟩
  rw [ex_s.1] at hV
  rw [ex_s.2]
  have C5 := belowCall C4 (belowCall (b1 (b22 (Below.refl w4.heap.size w4) _ _ _) _) b5')
  have D5 := belowCall (b1 (b22 (Below.refl w4.heap.size w4) _ _ _) _) b5'
  have B5 := belowCall B1 C5
  have HV := hid (hV.row (by simp) (by simp))
  clear hL5 b5' hV B4
  go_wp2_with fail
  refine (refSame_any va _ [[1, 1], [0, 1]] [[1, 1], [0, 1]] _ ((MA.out.below C5).below (b22 (Below.refl w5.heap.size w5) _ _ _)) (lit22 w5 1 1 0 1 (by decide) (by decide) (by decide) (by decide))).mono ?_
  rintro e w6 ⟨rfl, b6'⟩
  have C6 := belowCall (b22 (Below.refl w5.heap.size w5) _ _ _) b6'
  rw [decide_eq_true rfl]
  clear b6' MA
  go_wp2_with fail
  refine (refSame_any vb _ [[142]] [[142]] _ (((MB.out.below D5).below C6).below (b11 (Below.refl w6.heap.size w6) _ _)) (lit11 w6 142 (by decide))).mono ?_
  rintro e w7 ⟨rfl, b7'⟩
  have C7 := belowCall C6 (belowCall (b11 (Below.refl w6.heap.size w6) _ _) b7')
  rw [decide_eq_true rfl]
  have q1 : (convert 23 9 vv).run Try.prog w7 = .ok (.string { data := #[2, 1] }) w7 := conv_row (HV.out.below C7)
  clear b7' MB
  go_wp2_with fail
  go_ret
  exact ⟨rfl, belowCall B5 C7⟩
end Go.Proofs.Ytjgjcbgeekfkkaa
