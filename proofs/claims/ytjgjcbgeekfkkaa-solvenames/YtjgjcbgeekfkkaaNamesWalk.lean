/- The walk of SolveNames. -/
import Derived.Test.YtjgjcbgeekfkkaaNamesLit
namespace Go.Proofs.Ytjgjcbgeekfkkaa
open Go.RowKit
theorem rowC_nil (w : World) : RowC w (.slice none 0 0) [] := ⟨Row8.nil _, fun a n c e => by simp only [Value.slice.injEq] at e; omega⟩
/-- one row of two numbers -/
theorem lit12 (w : World) (a b : Nat) (ha : a < 256) (hb : b < 256) : Mat ((w.alloc (.cells #[.int .u8 (a : Int), .int .u8 (b : Int)] 5)).alloc (.cells #[.slice (some ⟨w.heap.size, 0, none⟩) 2 2] 23)) (.slice (some ⟨w.heap.size + 1, 0, none⟩) 1 1) [[a, b]] := by
  have h0 := (Has.new w w.heap.size (U8s [a, b]) 5 rfl).alloc (.cells #[.slice (some ⟨w.heap.size, 0, none⟩) 2 2] 23)
  have h2 := Has.new (w.alloc (.cells (U8s [a, b]) 5)) (w.heap.size + 1) #[.slice (some ⟨w.heap.size, 0, none⟩) 2 2] 23 (by simp)
  refine mat_lit (m := [[a, b]]) (vs := [.slice (some ⟨w.heap.size, 0, none⟩) 2 2]) h2 rfl (by simp) (fun j hj => ?_)
  obtain rfl : j = 0 := by have : j < 1 := hj; omega
  exact row_lit h0 (by simp [ha, hb]) (by simp)
/-- three rows of three numbers -/
theorem lit33 (w : World) (l0 l1 l2 : List Nat) (n0 : l0.length = 3) (n1 : l1.length = 3) (n2 : l2.length = 3) (x0 : ∀ x ∈ l0, x < 256) (x1 : ∀ x ∈ l1, x < 256) (x2 : ∀ x ∈ l2, x < 256) :
    Mat ((((w.alloc (.cells (U8s l0) 5)).alloc (.cells (U8s l1) 5)).alloc (.cells (U8s l2) 5)).alloc (.cells #[.slice (some ⟨w.heap.size, 0, none⟩) 3 3, .slice (some ⟨w.heap.size + 1, 0, none⟩) 3 3, .slice (some ⟨w.heap.size + 1 + 1, 0, none⟩) 3 3] 23)) (.slice (some ⟨w.heap.size + 1 + 1 + 1, 0, none⟩) 3 3) [l0, l1, l2] := by
  have h0 := (((Has.new w w.heap.size (U8s l0) 5 rfl).alloc (.cells (U8s l1) 5)).alloc (.cells (U8s l2) 5)).alloc (.cells #[.slice (some ⟨w.heap.size, 0, none⟩) 3 3, .slice (some ⟨w.heap.size + 1, 0, none⟩) 3 3, .slice (some ⟨w.heap.size + 1 + 1, 0, none⟩) 3 3] 23)
  have h1 := ((Has.new (w.alloc (.cells (U8s l0) 5)) (w.heap.size + 1) (U8s l1) 5 (by simp)).alloc (.cells (U8s l2) 5)).alloc (.cells #[.slice (some ⟨w.heap.size, 0, none⟩) 3 3, .slice (some ⟨w.heap.size + 1, 0, none⟩) 3 3, .slice (some ⟨w.heap.size + 1 + 1, 0, none⟩) 3 3] 23)
  have h2 := (Has.new ((w.alloc (.cells (U8s l0) 5)).alloc (.cells (U8s l1) 5)) (w.heap.size + 1 + 1) (U8s l2) 5 (by simp)).alloc (.cells #[.slice (some ⟨w.heap.size, 0, none⟩) 3 3, .slice (some ⟨w.heap.size + 1, 0, none⟩) 3 3, .slice (some ⟨w.heap.size + 1 + 1, 0, none⟩) 3 3] 23)
  have h3 := Has.new (((w.alloc (.cells (U8s l0) 5)).alloc (.cells (U8s l1) 5)).alloc (.cells (U8s l2) 5)) (w.heap.size + 1 + 1 + 1) #[.slice (some ⟨w.heap.size, 0, none⟩) 3 3, .slice (some ⟨w.heap.size + 1, 0, none⟩) 3 3, .slice (some ⟨w.heap.size + 1 + 1, 0, none⟩) 3 3] 23 (by simp)
  refine mat_lit (m := [l0, l1, l2]) (vs := [.slice (some ⟨w.heap.size, 0, none⟩) 3 3, .slice (some ⟨w.heap.size + 1, 0, none⟩) 3 3, .slice (some ⟨w.heap.size + 1 + 1, 0, none⟩) 3 3]) h3 rfl (by simp) (fun j hj => ?_)
  have hj' : j < 3 := hj
  by_cases hj0 : j = 0
  · subst hj0
    have := row_lit (c := 3) h0 x0 (by omega)
    rw [n0] at this; exact this
  by_cases hj1 : j = 1
  · subst hj1
    have := row_lit (c := 3) h1 x1 (by omega)
    rw [n1] at this; exact this
  · obtain rfl : j = 2 := by omega
    have := row_lit (c := 3) h2 x2 (by omega)
    rw [n2] at this; exact this
theorem lit9 (w : World) (a b c d e f g h i : Nat) (x0 : ∀ x ∈ [a, b, c], x < 256) (x1 : ∀ x ∈ [d, e, f], x < 256) (x2 : ∀ x ∈ [g, h, i], x < 256) :
    Mat ((((w.alloc (.cells #[.int .u8 (a : Int), .int .u8 (b : Int), .int .u8 (c : Int)] 5)).alloc (.cells #[.int .u8 (d : Int), .int .u8 (e : Int), .int .u8 (f : Int)] 5)).alloc (.cells #[.int .u8 (g : Int), .int .u8 (h : Int), .int .u8 (i : Int)] 5)).alloc (.cells #[.slice (some ⟨w.heap.size, 0, none⟩) 3 3, .slice (some ⟨w.heap.size + 1, 0, none⟩) 3 3, .slice (some ⟨w.heap.size + 1 + 1, 0, none⟩) 3 3] 23)) (.slice (some ⟨w.heap.size + 1 + 1 + 1, 0, none⟩) 3 3) [[a, b, c], [d, e, f], [g, h, i]] :=
  lit33 w [a, b, c] [d, e, f] [g, h, i] rfl rfl rfl x0 x1 x2
theorem b13 {w W : World} (h : Below w.heap.size w W) (a b c d : Obj) : Below w.heap.size w ((((W.alloc a).alloc b).alloc c).alloc d) := b1 (b22 h a b c) d
set_option maxRecDepth 20000 in
set_option maxHeartbeats 1000000 in
theorem names_walk (w : World) : Calls Try.prog 4 #[] w fun e w' => e = .returned (.bool true) ∧ Below w.heap.size w w' := by
  have B0 := Below.refl w.heap.size w
  go_enter Try.func4, Try.ntmps4
  go_wp2_with fail
  refine wp_region_all_lit (by kernel_rfl) 19 (by kernel_rfl) (by simp) (Below w.heap.size w) FN FN.mono B0.drew ⟨?_, ?_, ?_, ?_, ?_, ?_, ?_, ?_, ?_, ?_, ?_, ?_, ?_, trivial⟩ ?_
  · intro a' w' hC hF
    exact st_new _ _ rfl (rn_b221 rfl rfl) (b1 hC _) (b1 (Below.refl _ _) _) (new_m1 (Row8.nil _))
  · intro a' w' hC hF
    exact st_new _ _ rfl (rn_b231 (m := 1) rfl rfl) (b1 hC _) (b1 (Below.refl _ _) _) (new_row _ [1] (by decide) (by decide))
  · intro a' w' hC hF
    exact st_new _ _ rfl (rn_b232 (m := 1) (n := 2) rfl rfl rfl) (b1 hC _) (b1 (Below.refl _ _) _) (new_row _ [1, 2] (by decide) (by decide))
  · intro a' w' hC hF
    have r1 : Row8 w' (a'.tmps.getD 20 undef) [1] := hF 1 (by decide)
    have r2 : Row8 w' (a'.tmps.getD 21 undef) [1, 2] := hF 2 (by decide)
    obtain ⟨p, c, e⟩ := r1.form
    obtain ⟨p', c', e'⟩ := r2.form
    rw [e] at r1
    rw [e'] at r2
    exact st_new _ _ rfl (rn_b222 rfl e e') (b1 hC _) (b1 (Below.refl _ _) _) (new_m2 r1 r2)
  · intro a' w' hC hF
    exact st_new _ _ rfl (rn_b230 rfl) (b1 hC _) (b1 (Below.refl _ _) _) (new_row _ [] (by decide) (by decide))
  · intro a' w' hC hF
    exact st_new _ _ rfl (rn_b230 rfl) (b1 hC _) (b1 (Below.refl _ _) _) (new_row _ [] (by decide) (by decide))
  · intro a' w' hC hF
    have r1 : Row8 w' (a'.tmps.getD 23 undef) [] := hF 4 (by decide)
    have r2 : Row8 w' (a'.tmps.getD 24 undef) [] := hF 5 (by decide)
    obtain ⟨p, c, e⟩ := r1.form
    obtain ⟨p', c', e'⟩ := r2.form
    rw [e] at r1
    rw [e'] at r2
    exact st_new _ _ rfl (rn_b222 rfl e e') (b1 hC _) (b1 (Below.refl _ _) _) (new_m2 r1 r2)
  · intro a' w' hC hF
    exact st_new _ _ rfl (rn_mk22 (n := 256) rfl rfl (by decide)) (b1 hC _) (b1 (Below.refl _ _) _) (new_noRows _ 256 (by decide))
  · intro a' w' hC hF
    exact st_new _ _ rfl (rn_mk23 (n := 256) rfl rfl (by decide)) (b1 hC _) (b1 (Below.refl _ _) _) (new_row _ (List.replicate 256 0) (by decide +kernel) (by decide +kernel))
  · intro a' w' hC hF
    have r1 : Row8 w' (a'.tmps.getD 27 undef) (List.replicate 256 0) := hF 8 (by decide)
    obtain ⟨p, c, e⟩ := r1.form
    rw [e] at r1
    exact st_new _ _ rfl (rn_b221 rfl e) (b1 hC _) (b1 (Below.refl _ _) _) (new_m1 r1)
  · intro a' w' hC hF
    have r1 : Mat w' (a'.tmps.getD 19 undef) [[]] := hF 0 (by decide)
    have r2 : Mat w' (a'.tmps.getD 22 undef) [[1], [1, 2]] := hF 3 (by decide)
    have r3 : Mat w' (a'.tmps.getD 25 undef) [[], []] := hF 6 (by decide)
    have r4 : Mat w' (a'.tmps.getD 26 undef) (List.replicate 256 []) := hF 7 (by decide)
    have r5 : Mat w' (a'.tmps.getD 28 undef) [List.replicate 256 0] := hF 9 (by decide)
    obtain ⟨p1, c1, e1⟩ := r1.form
    obtain ⟨p2, c2, e2⟩ := r2.form
    obtain ⟨p3, c3, e3⟩ := r3.form
    obtain ⟨p4, c4, e4⟩ := r4.form
    obtain ⟨p5, c5, e5⟩ := r5.form
    rw [e1] at r1
    rw [e2] at r2
    rw [e3] at r3
    rw [e4] at r4
    rw [e5] at r5
    exact st_new _ _ rfl (rn_b366 rfl rfl e1 e2 e3 e4 e5) (b1 hC _) (b1 (Below.refl _ _) _) (new_six r1 r2 r3 r4 r5)
  · intro a' w' hC hF
    obtain ⟨g, e, _⟩ : Six w' (a'.tmps.getD 29 undef) := hF 10 (by decide)
    exact st_new _ _ rfl (rn_len36 rfl e) hC (Below.refl _ _) rfl
  · intro a' w' hC hF
    exact st_new _ _ rfl (rn_move rfl rfl) hC (Below.refl _ _) rfl
  intro val w1 B1 hF
  have f10 : Six w1 (val 10) := hF 10 (by decide)
  have f11 : val 11 = .int .i64 6 := hF 11 (by decide)
  have f12 : val 12 = .int .i64 0 := hF 12 (by decide)
  clear hF
  obtain ⟨g, f10, hg, hsix⟩ := f10
  simp only [List.length_cons, List.length_nil, Nat.reduceAdd, puts, Act.put, List.setIfInBounds_toArray, List.set_cons_succ, List.set_cons_zero, f10, f11, f12]
  have HS := hid hsix
  clear hsix f10 f11 f12
  generalize val 0 = q0
  generalize val 1 = q1
  generalize val 2 = q2
  generalize val 3 = q3
  generalize val 4 = q4
  generalize val 5 = q5
  generalize val 6 = q6
  generalize val 7 = q7
  generalize val 8 = q8
  generalize val 9 = q9
  clear val
  go_wp2_with fail
  generalize hbs : w1.heap.size = base at *
  go_loopg [31] 6 (fun g1 s31 wx => ∃ k : Nat, k + g1 = 6 ∧ s31 = .int .i64 (k : Int) ∧ Below base w1 wx)
  case atStart => exact ⟨0, by omega, rfl, by rw [← hbs]; exact Below.refl _ _⟩
  case round =>
    obtain ⟨k, hkg, rfl, hb⟩ := hrel
    cases gk with
    | zero =>
      have hz : ¬ ((k : Int) < 6) := by omega
      have B2 : Below w.heap.size w wr := belowCall B1 (by rw [hbs]; exact hb)
      clear hkg
      obtain ⟨y1, y2, y3, y4, y5⟩ := nm_a
      go_wp2_with fail
      refine (turn_any _ [[1, 2]] _ (lit12 wr 1 2 (by decide) (by decide))).mono ?_
      rintro e w3 ⟨t3, rfl, _, b3'⟩
      rw [y1]
      have B3 := belowCall B2 (belowCall (b11 (Below.refl _ _) _ _) b3')
      clear b3' B2
      go_wp2_with fail
      refine (solve_any _ _ [[1]] [] _ (lit11 w3 1 (by decide)) (rowC_nil _)).mono ?_
      rintro e w4 ⟨t4, rfl, _, b4'⟩
      rw [y2]
      have B4 := belowCall B3 (belowCall (b11 (Below.refl _ _) _ _) b4')
      clear b4' B3
      go_wp2_with fail
      have hL := lit11 w4 0 (by decide)
      refine (solve_any _ _ [[0]] [1] _ (hL.below (b1 (Below.refl _ _) _)) (rowC_lit (l := [1]) (Has.new _ _ _ _ (by simp)) (by simp) (by simp))).mono ?_
      rintro e w5 ⟨t5, rfl, _, b5'⟩
      rw [y3]
      have B5 := belowCall B4 (belowCall (b1 (b11 (Below.refl _ _) _ _) _) b5')
      clear b5' B4 hL
      go_wp2_with fail
      refine (down_any _ [[0, 0, 3], [0, 2, 0], [0, 4, 1]] _ (lit9 w5 0 0 3 0 2 0 0 4 1 (by decide) (by decide) (by decide))).mono ?_
      rintro e w6 ⟨vd, rfl, hD, b6'⟩
      rw [y5] at hD
      rw [y4]
      have B6 := belowCall B5 (belowCall (b13 (Below.refl _ _) _ _ _ _) b6')
      have HD := hid hD.mat
      clear b6' B5 hD y1 y2 y3 y4 y5
      go_wp2_with fail
      refine (refSame_any vd _ [[0, 1, 0], [0, 0, 1], [0, 0, 0]] [[0, 1, 0], [0, 0, 1], [0, 0, 0]] _ (HD.out.below (b13 (Below.refl w6.heap.size w6) _ _ _ _)) (lit9 w6 0 1 0 0 0 1 0 0 0 (by decide) (by decide) (by decide))).mono ?_
      rintro e w7 ⟨rfl, b7'⟩
      have B7 := belowCall B6 (belowCall (b13 (Below.refl w6.heap.size w6) _ _ _ _) b7')
      rw [decide_eq_true rfl]
      clear b7' B6 HD
      go_wp2_with fail
      refine (awake_any _).mono ?_
      rintro e w8 ⟨rfl, b8⟩
      go_wp2_with fail
      go_ret
      exact ⟨rfl, belowCall B7 b8⟩
    | succ g1 =>
      have hz : (k : Int) < 6 := by omega
      obtain ⟨x, c0, hM0⟩ := HS.out k (by omega)
      obtain ⟨e1, e2, e3, e4⟩ := nm_err ⟨k, by omega⟩
      have c1 := cell_below hb hg c0
      have hM := hid (hM0.below (by rw [hbs]; exact hb))
      clear c0 hM0
      generalize nmM.getD k [] = m at *
      obtain ⟨am, cm, hx⟩ := hM.out.form
      subst hx
      have hmk := makes_u8 m.length (by omega)
      generalize hU : U8s (List.replicate m.length 0) = U at hmk
      go_wp2_with fail
      refine (turn_any _ m _ hM.out).mono ?_
      rintro e w2 ⟨t2, rfl, _, b2⟩
      rw [e1]
      go_wp2_with fail
      refine (rank_any _ m _ (hM.out.below b2)).mono ?_
      rintro e w3 ⟨rfl, b3'⟩
      rw [e2]
      have b3 := belowCall b2 b3'
      clear b3'
      go_wp2_with fail
      refine (down_any _ m _ (hM.out.below b3)).mono ?_
      rintro e w4 ⟨t4, rfl, _, b4'⟩
      rw [e2]
      have b4 := belowCall b3 b4'
      clear b4' b2 b3
      go_wp2_with fail
      refine (solve_any _ _ m (List.replicate m.length 0) _ (hM.out.below (b1 b4 _)) (by rw [← hU]; have := rowC_lit (l := List.replicate m.length 0) (Has.new w4 _ _ 5 rfl) (fun x hx => by rw [List.eq_of_mem_replicate hx]; decide) (by simp; omega); rwa [List.length_replicate] at this)).mono ?_
      rintro e w5 ⟨t5, rfl, _, b5'⟩
      rw [e3]
      have b5 := belowCall (b1 b4 _) b5'
      clear b5' b4
      go_wp2_with fail
      go_roundg g1
      case measure => omega
      case rel => exact ⟨k + 1, by omega, by first | rfl | simp, by rw [← hbs]; exact belowCall (by rw [hbs]; exact hb) b5⟩
end Go.Proofs.Ytjgjcbgeekfkkaa
