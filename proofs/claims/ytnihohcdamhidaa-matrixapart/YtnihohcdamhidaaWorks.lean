/- The examples are as they are told. -/
import Derived.Test.YtnihohcdamhidaaRuns
namespace Go.Proofs.Ytnihohcdamhidaa
open Go.RowKit
theorem bdrew {w W : World} (h : Below w.heap.size w W) : Below w.heap.size w W.drew := h.drew
theorem balloc {w W : World} {o : Obj} (h : Below w.heap.size w W) : Below w.heap.size w (W.alloc o) := h.alloc h.size o
theorem mul_ex1 (v : Value) (w : World) (hf : IsF w v) : Calls Try.prog 29 #[v, .int .u8 142, .int .u8 5] w fun e w' => e = .returned (.int .u8 140) ∧ Below w.heap.size w w' :=
  mul_any v 142 5 (by decide) (by decide) w hf
theorem mul_ex2 (v : Value) (w : World) (hf : IsF w v) : Calls Try.prog 29 #[v, .int .u8 244, .int .u8 7] w fun e w' => e = .returned (.int .u8 246) ∧ Below w.heap.size w w' :=
  mul_any v 244 7 (by decide) (by decide) w hf
theorem add_ex (v : Value) (w : World) : Calls Try.prog 31 #[v, .int .u8 140, .int .u8 246] w fun e w' => e = .returned (.int .u8 122) ∧ Below w.heap.size w w' :=
  add_any v 140 246 (by decide) (by decide) w
def tabV (f0 g3 : Nat) (v1 v2 v4 : Value) : Nat → Option Value := fun d => ([some (.bool true), some (.pointer (some ⟨f0, 0, none⟩)), some (.int .u8 142), some (.bool true), some (.int .u8 244), some (.bool true), some (v1), some (.int .i64 0), some (v2), some (.int .i64 0), some (.slice (some ⟨g3, 0, none⟩) 4 4), some (.int .i64 0), some (v4), some (.int .i64 0), none, some (.int .i64 4), none, none, none, none, none, none, none, none, none, none, none, none, none, none, none, none, none, none, none, none, none, none, none, none, none, none, none, none, none, none, none, none, none, none, none, none, none, none, none, none, none, some (.bool true), some (.bool true), some (.bool true), some (.bool true), some (.bool true), some (.int .i64 0), some (.bool true), some (.bool true), some (.bool true), some (v1), none, some (.bool true), some (.bool true), some (.bool true), some (.int .i64 0), some (.bool true), some (.bool true), some (.bool true), some (v2), some (.int .u8 142), some (.int .u8 244), none, some (.string (ofBs [142, 244])), some (.int .u8 244), some (.int .u8 142), none, some (.string (ofBs [244, 142])), none, some (.bool true), some (.bool true), some (.bool true), some (.int .i64 0), some (.bool true), some (.bool true), some (.bool true), some (.slice (some ⟨g3, 0, none⟩) 4 4), some (.int .i64 4), some (.bool true), some (.bool true), some (.bool true), some (.slice (some ⟨g3, 0, none⟩) 4 4), some (.pointer (some ⟨g3, 0, none⟩)), some (.int .u8 5), some (.bool true), some (.bool true), some (.bool true), some (.slice (some ⟨g3, 0, none⟩) 4 4), some (.pointer (some ⟨g3, 1, none⟩)), some (.int .u8 7), some (.bool true), some (.bool true), some (.bool true), some (.slice (some ⟨g3, 0, none⟩) 4 4), some (.pointer (some ⟨g3, 2, none⟩)), some (.int .u8 122), some (.pointer (some ⟨f0, 0, none⟩)), some (.pointer (some ⟨f0, 0, none⟩)), some (.int .u8 142), some (.int .u8 140), some (.pointer (some ⟨f0, 0, none⟩)), some (.int .u8 244), some (.int .u8 246), some (.int .u8 122), some (.bool true), some (.bool true), some (.bool true), some (.int .i64 0), some (.bool true), some (.bool true), some (.bool true), some (v4), none, some (.bool true), some (.bool true), some (.bool true), some (.int .i64 4), some (.bool true), some (.bool true), none] : List (Option Value)).getD d none
def tabS : Nat → Option (List (List Nat)) := fun d => ([none, none, none, none, none, none, none, none, none, none, none, none, none, none, none, none, none, none, none, none, none, none, none, none, none, none, none, none, none, none, none, none, none, none, none, none, none, none, none, none, none, none, none, none, none, none, none, none, none, none, none, none, none, none, none, none, none, none, none, none, none, none, none, none, none, none, none, some ([[1, 0], [0, 1]]), none, none, none, none, none, none, none, none, none, none, none, none, none, none, none, none, some ([[1, 0], [0, 1], [142, 244], [244, 142]]), none, none, none, none, none, none, none, none, none, none, none, none, none, none, none, none, none, none, none, none, none, none, none, none, none, none, none, none, none, none, none, none, none, none, none, none, none, none, none, none, none, none, none, some ([[0, 1], [0, 1]]), none, none, none, none, none, none, none] : List (Option (List (List Nat)))).getD d none
def tabR : Nat → Option (List Nat) := fun d => ([none, none, none, none, none, none, none, none, none, none, none, none, none, none, none, none, none, none, none, none, none, none, none, none, none, none, none, none, none, none, none, none, none, none, none, none, none, none, none, none, none, none, none, none, none, none, none, none, none, none, none, none, none, none, none, none, none, none, none, none, none, none, none, none, none, none, none, none, none, none, none, none, none, none, none, none, none, none, some ([142, 244]), none, none, none, some ([244, 142]), none, none, none, none, none, none, none, none, none, none, none, none, none, none, none, none, none, none, none, none, none, none, none, none, none, none, none, none, none, none, none, none, none, none, none, none, none, none, none, none, none, none, none, none, none, none, none, none, none, none, none, none, none] : List (Option (List Nat))).getD d none
/-- what each slot holds when it is done -/
def FW (f0 g3 : Nat) (v1 v2 v4 : Value) (d : Nat) (v : Value) (w : World) : Prop :=
  (match tabV f0 g3 v1 v2 v4 d with | some c => v = c | none => True) ∧ (match tabS d with | some ss => Strs w v ss | none => True) ∧ (match tabR d with | some l => Row8 w v l | none => True)
theorem Strs.below {w w' : World} {v : Value} {ss : List (List Nat)} (h : Strs w v ss) (hb : Below w.heap.size w w') : Strs w' v ss := by
  obtain ⟨g, cap, h1, h2, h3, h4, h5⟩ := h
  exact ⟨g, cap, h1, h2, Nat.lt_of_lt_of_le h3 hb.size, fun j hj => cell_below hb h3 (h4 j hj), h5⟩
theorem FW.mono {f0 g3 : Nat} {v1 v2 v4 : Value} (d : Nat) (v : Value) (w w' : World) (h : FW f0 g3 v1 v2 v4 d v w) (hb : Below w.heap.size w w') : FW f0 g3 v1 v2 v4 d v w' := by
  obtain ⟨h1, h2, h3⟩ := h
  refine ⟨h1, ?_, ?_⟩
  · cases ht : tabS d with
    | none => trivial
    | some ss => rw [ht] at h2; exact Strs.below h2 hb
  · cases ht : tabR d with
    | none => trivial
    | some l => rw [ht] at h3; exact Row8.below h3 hb
set_option maxRecDepth 20000 in
set_option maxHeartbeats 4000000 in
theorem works_true (w : World) : Calls Try.prog 8 #[] w fun e w' => e = .returned (.bool true) ∧ Below w.heap.size w w' := by
  obtain ⟨x1, x2, x3, x4, x5⟩ := ex_err
  obtain ⟨y1, y2, y3, y4, y5⟩ := ex_fld
  go_enter Try.func8, Try.ntmps8
  go_wp2_with fail
  refine (new_any w).mono ?_
  rintro e w1 ⟨rfl, hF, b1⟩
  have hF1 : IsF w1 (.pointer (some ⟨w.heap.size, 0, none⟩)) := .inr ⟨_, rfl, hF⟩
  clear hF
  go_wp2_with fail
  refine (inv_nz _ 2 (by decide) (by decide) w1 hF1).mono ?_
  rintro e w2 ⟨rfl, b2⟩
  rw [y1]
  have hF2 := hF1.below b2
  go_wp2_with fail
  refine (inv_nz _ 3 (by decide) (by decide) w2 hF2).mono ?_
  rintro e w3 ⟨rfl, b3⟩
  rw [y2]
  have hF3 := hF2.below b3
  have B3 := belowCall (belowCall b1 b2) b3
  clear hF1 hF2
  go_wp2_with fail
  refine (one_any 2 w3).mono ?_
  rintro e w4 ⟨v1, rfl, hN1, b4⟩
  rw [x1]
  rw [ex_one] at hN1
  have hF4 := hF3.below b4
  have B4 := belowCall B3 b4
  go_wp2_with fail
  refine (of_any 2 4 w4).mono ?_
  rintro e w5 ⟨v2, rfl, hN2, b5⟩
  rw [x2]
  rw [ex_of] at hN2
  have hF5 := hF4.below b5
  have B5 := belowCall B4 b5
  have hN1 := hN1.mat.below b5
  have hN2 := hN2.mat
  clear hF3 hF4 b1 b2 b3 b4 b5 B3 B4
  go_wp2_with fail
  have bA : Below w5.heap.size w5 (w5.alloc (.cells #[.int .u8 5, .int .u8 7] 5)) := (Below.refl _ _).alloc (Nat.le_refl _) _
  have hRa : Row8 (w5.alloc (.cells #[.int .u8 5, .int .u8 7] 5)) (.slice (some ⟨w5.heap.size, 0, none⟩) 2 2) [5, 7] := row_lit (l := [5, 7]) (Has.new w5 _ (U8s [5, 7]) 5 rfl) (by decide) (by decide)
  refine (vec_any v2 _ _ _ _ (hN2.below bA) hRa).mono ?_
  rintro e w6 ⟨v3, rfl, hN3, b6'⟩
  rw [x3]
  rw [ex_vec] at hN3
  have b6 := belowCall bA b6'
  obtain ⟨g3, rfl, hh3⟩ : ∃ g, v3 = .slice (some ⟨g, 0, none⟩) 4 4 ∧ Has w6 g (U8s [5, 7, 122, 142]) 5 := by
    obtain ⟨_, _, h3⟩ := hN3
    rcases h3 with ⟨_, h⟩ | ⟨g, e, _, h⟩
    · cases h
    · exact ⟨g, e, h⟩
  have B6 := belowCall B5 b6
  have hF6 := hF5.below b6
  have hP1 := hN1.below b6
  have hP2 := hN2.below b6
  clear bA hRa b6' hN3 hF5 hN1 hN2 b6 B5
  go_wp2_with fail
  have bA : Below w6.heap.size w6 (w6.alloc (.cells #[.int .i64 1, .int .i64 1] 3)) := (Below.refl _ _).alloc (Nat.le_refl _) _
  have hRa : Ints (w6.alloc (.cells #[.int .i64 1, .int .i64 1] 3)) (.slice (some ⟨w6.heap.size, 0, none⟩) 2 2) [1, 1] := ints_lit (zs := [1, 1]) (Has.new w6 _ _ 3 rfl) (by decide)
  refine (rows_any v2 _ _ _ _ (hP2.below bA) hRa).mono ?_
  rintro e w7 ⟨v4, rfl, hN4, b7'⟩
  rw [x4]
  rw [ex_rows] at hN4
  have b7 := belowCall bA b7'
  have hQ4 := hN4.mat
  have B7 := belowCall B6 b7
  have hF7 := hF6.below b7
  have hQ1 := hP1.below b7
  have hQ2 := hP2.below b7
  have hQ3 := hh3.below b7 hh3.lt
  clear bA hRa b7' hN4 hF6 hP1 hP2 hh3 b7 B6
  go_wp2_with fail
  have bA : Below w7.heap.size w7 (((((w7.alloc (.cells #[.int .u8 1, .int .u8 2] 5)).alloc (.cells #[.int .u8 3, .int .u8 4] 5)).alloc (.cells #[.slice (some ⟨w7.heap.size, 0, none⟩) 2 2, .slice (some ⟨w7.heap.size + 1, 0, none⟩) 2 2] 32)).alloc (.cells #[.int .u8 1, .int .u8 2, .int .u8 3] 5)).alloc (.cells #[.slice (some ⟨w7.heap.size + 1 + 1 + 1, 0, none⟩) 3 3] 32)) := (((((Below.refl _ _).alloc (Nat.le_refl _) _).alloc (by simp) _).alloc (by simp; omega) _).alloc (by simp; omega) _).alloc (by simp; omega) _
  have hMA : Mat (((((w7.alloc (.cells #[.int .u8 1, .int .u8 2] 5)).alloc (.cells #[.int .u8 3, .int .u8 4] 5)).alloc (.cells #[.slice (some ⟨w7.heap.size, 0, none⟩) 2 2, .slice (some ⟨w7.heap.size + 1, 0, none⟩) 2 2] 32)).alloc (.cells #[.int .u8 1, .int .u8 2, .int .u8 3] 5)).alloc (.cells #[.slice (some ⟨w7.heap.size + 1 + 1 + 1, 0, none⟩) 3 3] 32)) (.slice (some ⟨w7.heap.size + 1 + 1, 0, none⟩) 2 2) [[1, 2], [3, 4]] :=
    mat2 (l0 := [1, 2]) (l1 := [3, 4]) (((Has.new _ _ _ 32 (by simp)).alloc _).alloc _) (((((Has.new _ _ (U8s [1, 2]) 5 rfl).alloc _).alloc _).alloc _).alloc _) ((((Has.new _ _ (U8s [3, 4]) 5 (by simp)).alloc _).alloc _).alloc _) (by decide) (by decide) (by decide) (by decide)
  have hMB : Mat (((((w7.alloc (.cells #[.int .u8 1, .int .u8 2] 5)).alloc (.cells #[.int .u8 3, .int .u8 4] 5)).alloc (.cells #[.slice (some ⟨w7.heap.size, 0, none⟩) 2 2, .slice (some ⟨w7.heap.size + 1, 0, none⟩) 2 2] 32)).alloc (.cells #[.int .u8 1, .int .u8 2, .int .u8 3] 5)).alloc (.cells #[.slice (some ⟨w7.heap.size + 1 + 1 + 1, 0, none⟩) 3 3] 32)) (.slice (some ⟨w7.heap.size + 1 + 1 + 1 + 1, 0, none⟩) 1 1) [[1, 2, 3]] :=
    mat1 (l0 := [1, 2, 3]) (Has.new _ _ _ 32 (by simp)) ((Has.new _ _ (U8s [1, 2, 3]) 5 (by simp)).alloc _) (by decide) (by decide)
  refine (mul_any' _ _ _ _ _ hMA hMB).mono ?_
  rintro e w8 ⟨v5, rfl, hN5, b8'⟩
  rw [x5]
  have b8 := belowCall bA b8'
  have B8 := belowCall B7 b8
  have hF8 := hF7.below b8
  have hS1 := hQ1.below b8
  have hS2 := hQ2.below b8
  have hS3 := hQ3.below b8 hQ3.lt
  have hS4 := hQ4.below b8
  clear bA b8' hN5 hF7 hQ1 hQ2 hQ3 hQ4 b8 B7 hMA hMB
  go_wp2_with fail
  have c0 : w8.cell? ⟨g3, 0, none⟩ = some (.int .u8 5) := hS3.cell 0
  have c1 : w8.cell? ⟨g3, 1, none⟩ = some (.int .u8 7) := hS3.cell 1
  have c2 : w8.cell? ⟨g3, 2, none⟩ = some (.int .u8 122) := hS3.cell 2
  have HS : Hid (∀ W, Below w8.heap.size w8 W → Below w8.heap.size w8 W ∧ W.cell? ⟨g3, 0, none⟩ = some (.int .u8 5) ∧ W.cell? ⟨g3, 1, none⟩ = some (.int .u8 7) ∧ W.cell? ⟨g3, 2, none⟩ = some (.int .u8 122)) := fun W hW => ⟨hW, cell_below hW hS3.lt c0, cell_below hW hS3.lt c1, cell_below hW hS3.lt c2⟩
  have HM : Hid (∀ W, Below w8.heap.size w8 W → Mat W v1 [[1, 0], [0, 1]] ∧ Mat W v2 [[1, 0], [0, 1], [142, 244], [244, 142]] ∧ Mat W v4 [[0, 1], [0, 1]] ∧ IsF W (.pointer (some ⟨w.heap.size, 0, none⟩))) := fun W hW => ⟨hS1.below hW, hS2.below hW, hS4.below hW, hF8.below hW⟩
  have BR := Below.refl w8.heap.size w8
  clear hS1 hS2 hS3 hS4 hF8 c0 c1 c2
  simp only [List.append_eq, List.cons_append, List.nil_append]
  refine wp_region_chain_lit (by kernel_rfl) 57 0 (by decide +kernel) (.inl (by decide)) (by simp) (fun W => Below w8.heap.size w8 W) (FW w.heap.size g3 v1 v2 v4) FW.mono BR.drew ?_ (by simp) (by simp) ?_ ?_
  · refine (fall ?_ (fall ?_ (fall ?_ (fall ?_ (fall ?_ (fall ?_ (fall ?_ (fall ?_ (fall ?_ (fall ?_ (fall ?_ (fall ?_ (fall ?_ (fall ?_ (fall ?_ (fall ?_ (fall ?_ (fall ?_ (fall ?_ (fall ?_ (fall ?_ (fall ?_ (fall ?_ (fall ?_ (fall ?_ (fall ?_ (fall ?_ (fall ?_ (fall ?_ (fall ?_ (fall ?_ (fall ?_ (fall ?_ (fall ?_ (fall ?_ (fall ?_ (fall ?_ (fall ?_ (fall ?_ (fall ?_ (fall ?_ (fall ?_ (fall ?_ (fall ?_ (fall ?_ (fall ?_ (fall ?_ (fall ?_ (fall ?_ (fall ?_ (fall ?_ (fall ?_ (fall ?_ (fall ?_ (fall ?_ (fall ?_ (fall ?_ (fun d hd => absurd hd (Nat.not_lt_zero d)))))))))))))))))))))))))))))))))))))))))))))))))))))))))))
    all_goals (intro hne; first | exact ⟨rfl, trivial, trivial⟩ | exact ⟨trivial, trivial, trivial⟩ | exact absurd rfl hne)
  · generalize w.heap.size = f0 at *
    refine ⟨?_, ?_, ?_, ?_, ?_, ?_, ?_, ?_, ?_, ?_, ?_, ?_, ?_, ?_, ?_, ?_, ?_, ?_, ?_, ?_, ?_, ?_, ?_, ?_, ?_, ?_, ?_, ?_, ?_, ?_, ?_, ?_, ?_, ?_, ?_, ?_, ?_, ?_, ?_, ?_, ?_, ?_, ?_, ?_, ?_, ?_, ?_, ?_, ?_, ?_, ?_, ?_, ?_, ?_, ?_, ?_, ?_, ?_, ?_, ?_, ?_, ?_, ?_, ?_, ?_, ?_, ?_, ?_, ?_, ?_, ?_, ?_, ?_, ?_, ?_, ?_, ?_, ?_, ?_, trivial⟩
    · intro a' w' hC hF
      have e3 : a'.tmps.getD 3 undef = .bool true := (hF 3 (by decide +kernel)).1
      exact st_val 57 (.bool true) rfl (wantS_none rfl) (rn_move rfl e3) hC (Below.refl _ _) ⟨rfl, trivial, trivial⟩
    · intro a' w' hC hF
      have e57 : a'.tmps.getD 57 undef = .bool true := (hF 57 (by decide +kernel)).1
      exact st_val 58 (.bool true) rfl (wantS_none rfl) (rn_move rfl e57) hC (Below.refl _ _) ⟨rfl, trivial, trivial⟩
    · intro a' w' hC hF
      have e58 : a'.tmps.getD 58 undef = .bool true := (hF 58 (by decide +kernel)).1
      have e5 : a'.tmps.getD 5 undef = .bool true := (hF 5 (by decide +kernel)).1
      exact st_val 59 (.bool true) rfl (wantS_some (g := 1) rfl e58) (rn_move rfl e5) hC (Below.refl _ _) ⟨rfl, trivial, trivial⟩
    · intro a' w' hC hF
      have e58 : a'.tmps.getD 58 undef = .bool true := (hF 58 (by decide +kernel)).1
      have e59 : a'.tmps.getD 59 undef = .bool true := (hF 59 (by decide +kernel)).1
      exact st_val 60 (.bool true) rfl (wantS_none rfl) (rn_pick rfl e58 e59) hC (Below.refl _ _) ⟨rfl, trivial, trivial⟩
    · intro a' w' hC hF
      have e60 : a'.tmps.getD 60 undef = .bool true := (hF 60 (by decide +kernel)).1
      exact st_val 61 (.bool true) rfl (wantS_none rfl) (rn_move rfl e60) hC (Below.refl _ _) ⟨rfl, trivial, trivial⟩
    · intro a' w' hC hF
      have e61 : a'.tmps.getD 61 undef = .bool true := (hF 61 (by decide +kernel)).1
      have e7 : a'.tmps.getD 7 undef = .int .i64 0 := (hF 7 (by decide +kernel)).1
      exact st_val 62 (.int .i64 0) rfl (wantS_some (g := 4) rfl e61) (rn_move rfl e7) hC (Below.refl _ _) ⟨rfl, trivial, trivial⟩
    · intro a' w' hC hF
      have e61 : a'.tmps.getD 61 undef = .bool true := (hF 61 (by decide +kernel)).1
      have e62 : a'.tmps.getD 62 undef = .int .i64 0 := (hF 62 (by decide +kernel)).1
      exact st_val 63 (.bool true) rfl (wantS_some (g := 4) rfl e61) (rn_eqlT rfl e62 rfl) hC (Below.refl _ _) ⟨rfl, trivial, trivial⟩
    · intro a' w' hC hF
      have e61 : a'.tmps.getD 61 undef = .bool true := (hF 61 (by decide +kernel)).1
      have e63 : a'.tmps.getD 63 undef = .bool true := (hF 63 (by decide +kernel)).1
      exact st_val 64 (.bool true) rfl (wantS_none rfl) (rn_pick rfl e61 e63) hC (Below.refl _ _) ⟨rfl, trivial, trivial⟩
    · intro a' w' hC hF
      have e64 : a'.tmps.getD 64 undef = .bool true := (hF 64 (by decide +kernel)).1
      exact st_val 65 (.bool true) rfl (wantS_none rfl) (rn_move rfl e64) hC (Below.refl _ _) ⟨rfl, trivial, trivial⟩
    · intro a' w' hC hF
      have e65 : a'.tmps.getD 65 undef = .bool true := (hF 65 (by decide +kernel)).1
      have e6 : a'.tmps.getD 6 undef = v1 := (hF 6 (by decide +kernel)).1
      exact st_val 66 (v1) rfl (wantS_some (g := 8) rfl e65) (rn_move rfl e6) hC (Below.refl _ _) ⟨rfl, trivial, trivial⟩
    · intro a' w' hC hF
      have e65 : a'.tmps.getD 65 undef = .bool true := (hF 65 (by decide +kernel)).1
      exact st_val 67 (.slice (some ⟨w'.heap.size, 0, none⟩) 2 2) rfl (wantS_some (g := 8) rfl e65) (rn_b57 rfl rfl rfl) (balloc hC) (balloc (Below.refl _ _)) ⟨trivial, strs_lit (ss := [[1, 0], [0, 1]]) (Has.new w' _ _ 9 rfl) (by decide) (by decide), trivial⟩
    · intro a' w' hC hF
      have e65 : a'.tmps.getD 65 undef = .bool true := (hF 65 (by decide +kernel)).1
      have e66 : a'.tmps.getD 66 undef = v1 := (hF 66 (by decide +kernel)).1
      refine st_call 68 15 #[v1, a'.tmps.getD 67 undef] rfl (wantS_some (g := 8) rfl e65) (rn_call2 rfl rfl e66 rfl (enter15 _)) ((is_any v1 _ [[1, 0], [0, 1]] [[1, 0], [0, 1]] w' (HM.out _ hC).1 (hF 67 (by decide +kernel)).2.1).mono ?_)
      rintro e w'' ⟨rfl, hb⟩
      exact ⟨_, rfl, belowCall hC hb, hb, rfl, trivial, trivial⟩
    · intro a' w' hC hF
      have e65 : a'.tmps.getD 65 undef = .bool true := (hF 65 (by decide +kernel)).1
      have e68 : a'.tmps.getD 68 undef = .bool true := (hF 68 (by decide +kernel)).1
      exact st_val 69 (.bool true) rfl (wantS_none rfl) (rn_pick rfl e65 e68) hC (Below.refl _ _) ⟨rfl, trivial, trivial⟩
    · intro a' w' hC hF
      have e69 : a'.tmps.getD 69 undef = .bool true := (hF 69 (by decide +kernel)).1
      exact st_val 70 (.bool true) rfl (wantS_none rfl) (rn_move rfl e69) hC (Below.refl _ _) ⟨rfl, trivial, trivial⟩
    · intro a' w' hC hF
      have e70 : a'.tmps.getD 70 undef = .bool true := (hF 70 (by decide +kernel)).1
      have e9 : a'.tmps.getD 9 undef = .int .i64 0 := (hF 9 (by decide +kernel)).1
      exact st_val 71 (.int .i64 0) rfl (wantS_some (g := 13) rfl e70) (rn_move rfl e9) hC (Below.refl _ _) ⟨rfl, trivial, trivial⟩
    · intro a' w' hC hF
      have e70 : a'.tmps.getD 70 undef = .bool true := (hF 70 (by decide +kernel)).1
      have e71 : a'.tmps.getD 71 undef = .int .i64 0 := (hF 71 (by decide +kernel)).1
      exact st_val 72 (.bool true) rfl (wantS_some (g := 13) rfl e70) (rn_eqlT rfl e71 rfl) hC (Below.refl _ _) ⟨rfl, trivial, trivial⟩
    · intro a' w' hC hF
      have e70 : a'.tmps.getD 70 undef = .bool true := (hF 70 (by decide +kernel)).1
      have e72 : a'.tmps.getD 72 undef = .bool true := (hF 72 (by decide +kernel)).1
      exact st_val 73 (.bool true) rfl (wantS_none rfl) (rn_pick rfl e70 e72) hC (Below.refl _ _) ⟨rfl, trivial, trivial⟩
    · intro a' w' hC hF
      have e73 : a'.tmps.getD 73 undef = .bool true := (hF 73 (by decide +kernel)).1
      exact st_val 74 (.bool true) rfl (wantS_none rfl) (rn_move rfl e73) hC (Below.refl _ _) ⟨rfl, trivial, trivial⟩
    · intro a' w' hC hF
      have e74 : a'.tmps.getD 74 undef = .bool true := (hF 74 (by decide +kernel)).1
      have e8 : a'.tmps.getD 8 undef = v2 := (hF 8 (by decide +kernel)).1
      exact st_val 75 (v2) rfl (wantS_some (g := 17) rfl e74) (rn_move rfl e8) hC (Below.refl _ _) ⟨rfl, trivial, trivial⟩
    · intro a' w' hC hF
      have e74 : a'.tmps.getD 74 undef = .bool true := (hF 74 (by decide +kernel)).1
      have e2 : a'.tmps.getD 2 undef = .int .u8 142 := (hF 2 (by decide +kernel)).1
      exact st_val 76 (.int .u8 142) rfl (wantS_some (g := 17) rfl e74) (rn_move rfl e2) hC (Below.refl _ _) ⟨rfl, trivial, trivial⟩
    · intro a' w' hC hF
      have e74 : a'.tmps.getD 74 undef = .bool true := (hF 74 (by decide +kernel)).1
      have e4 : a'.tmps.getD 4 undef = .int .u8 244 := (hF 4 (by decide +kernel)).1
      exact st_val 77 (.int .u8 244) rfl (wantS_some (g := 17) rfl e74) (rn_move rfl e4) hC (Below.refl _ _) ⟨rfl, trivial, trivial⟩
    · intro a' w' hC hF
      have e74 : a'.tmps.getD 74 undef = .bool true := (hF 74 (by decide +kernel)).1
      have e76 : a'.tmps.getD 76 undef = .int .u8 142 := (hF 76 (by decide +kernel)).1
      have e77 : a'.tmps.getD 77 undef = .int .u8 244 := (hF 77 (by decide +kernel)).1
      exact st_val 78 (.slice (some ⟨w'.heap.size, 0, none⟩) 2 2) rfl (wantS_some (g := 17) rfl e74) (rn_b32 rfl e76 e77) (balloc hC) (balloc (Below.refl _ _)) ⟨trivial, trivial, row_lit (l := [142, 244]) (Has.new w' _ (U8s [142, 244]) 5 rfl) (by decide) (by decide)⟩
    · intro a' w' hC hF
      have e74 : a'.tmps.getD 74 undef = .bool true := (hF 74 (by decide +kernel)).1
      exact st_val 79 (.string (ofBs [142, 244])) rfl (wantS_some (g := 17) rfl e74) (rn_conv rfl rfl (conv_row (hF 78 (by decide +kernel)).2.2)) hC (Below.refl _ _) ⟨rfl, trivial, trivial⟩
    · intro a' w' hC hF
      have e74 : a'.tmps.getD 74 undef = .bool true := (hF 74 (by decide +kernel)).1
      have e4 : a'.tmps.getD 4 undef = .int .u8 244 := (hF 4 (by decide +kernel)).1
      exact st_val 80 (.int .u8 244) rfl (wantS_some (g := 17) rfl e74) (rn_move rfl e4) hC (Below.refl _ _) ⟨rfl, trivial, trivial⟩
    · intro a' w' hC hF
      have e74 : a'.tmps.getD 74 undef = .bool true := (hF 74 (by decide +kernel)).1
      have e2 : a'.tmps.getD 2 undef = .int .u8 142 := (hF 2 (by decide +kernel)).1
      exact st_val 81 (.int .u8 142) rfl (wantS_some (g := 17) rfl e74) (rn_move rfl e2) hC (Below.refl _ _) ⟨rfl, trivial, trivial⟩
    · intro a' w' hC hF
      have e74 : a'.tmps.getD 74 undef = .bool true := (hF 74 (by decide +kernel)).1
      have e80 : a'.tmps.getD 80 undef = .int .u8 244 := (hF 80 (by decide +kernel)).1
      have e81 : a'.tmps.getD 81 undef = .int .u8 142 := (hF 81 (by decide +kernel)).1
      exact st_val 82 (.slice (some ⟨w'.heap.size, 0, none⟩) 2 2) rfl (wantS_some (g := 17) rfl e74) (rn_b32 rfl e80 e81) (balloc hC) (balloc (Below.refl _ _)) ⟨trivial, trivial, row_lit (l := [244, 142]) (Has.new w' _ (U8s [244, 142]) 5 rfl) (by decide) (by decide)⟩
    · intro a' w' hC hF
      have e74 : a'.tmps.getD 74 undef = .bool true := (hF 74 (by decide +kernel)).1
      exact st_val 83 (.string (ofBs [244, 142])) rfl (wantS_some (g := 17) rfl e74) (rn_conv rfl rfl (conv_row (hF 82 (by decide +kernel)).2.2)) hC (Below.refl _ _) ⟨rfl, trivial, trivial⟩
    · intro a' w' hC hF
      have e74 : a'.tmps.getD 74 undef = .bool true := (hF 74 (by decide +kernel)).1
      have e79 : a'.tmps.getD 79 undef = .string (ofBs [142, 244]) := (hF 79 (by decide +kernel)).1
      have e83 : a'.tmps.getD 83 undef = .string (ofBs [244, 142]) := (hF 83 (by decide +kernel)).1
      exact st_val 84 (.slice (some ⟨w'.heap.size, 0, none⟩) 4 4) rfl (wantS_some (g := 17) rfl e74) (rn_b574 rfl rfl rfl e79 e83) (balloc hC) (balloc (Below.refl _ _)) ⟨trivial, strs_lit (ss := [[1, 0], [0, 1], [142, 244], [244, 142]]) (Has.new w' _ _ 9 rfl) (by decide) (by decide), trivial⟩
    · intro a' w' hC hF
      have e74 : a'.tmps.getD 74 undef = .bool true := (hF 74 (by decide +kernel)).1
      have e75 : a'.tmps.getD 75 undef = v2 := (hF 75 (by decide +kernel)).1
      refine st_call 85 15 #[v2, a'.tmps.getD 84 undef] rfl (wantS_some (g := 17) rfl e74) (rn_call2 rfl rfl e75 rfl (enter15 _)) ((is_any v2 _ [[1, 0], [0, 1], [142, 244], [244, 142]] [[1, 0], [0, 1], [142, 244], [244, 142]] w' (HM.out _ hC).2.1 (hF 84 (by decide +kernel)).2.1).mono ?_)
      rintro e w'' ⟨rfl, hb⟩
      exact ⟨_, rfl, belowCall hC hb, hb, rfl, trivial, trivial⟩
    · intro a' w' hC hF
      have e74 : a'.tmps.getD 74 undef = .bool true := (hF 74 (by decide +kernel)).1
      have e85 : a'.tmps.getD 85 undef = .bool true := (hF 85 (by decide +kernel)).1
      exact st_val 86 (.bool true) rfl (wantS_none rfl) (rn_pick rfl e74 e85) hC (Below.refl _ _) ⟨rfl, trivial, trivial⟩
    · intro a' w' hC hF
      have e86 : a'.tmps.getD 86 undef = .bool true := (hF 86 (by decide +kernel)).1
      exact st_val 87 (.bool true) rfl (wantS_none rfl) (rn_move rfl e86) hC (Below.refl _ _) ⟨rfl, trivial, trivial⟩
    · intro a' w' hC hF
      have e87 : a'.tmps.getD 87 undef = .bool true := (hF 87 (by decide +kernel)).1
      have e11 : a'.tmps.getD 11 undef = .int .i64 0 := (hF 11 (by decide +kernel)).1
      exact st_val 88 (.int .i64 0) rfl (wantS_some (g := 30) rfl e87) (rn_move rfl e11) hC (Below.refl _ _) ⟨rfl, trivial, trivial⟩
    · intro a' w' hC hF
      have e87 : a'.tmps.getD 87 undef = .bool true := (hF 87 (by decide +kernel)).1
      have e88 : a'.tmps.getD 88 undef = .int .i64 0 := (hF 88 (by decide +kernel)).1
      exact st_val 89 (.bool true) rfl (wantS_some (g := 30) rfl e87) (rn_eqlT rfl e88 rfl) hC (Below.refl _ _) ⟨rfl, trivial, trivial⟩
    · intro a' w' hC hF
      have e87 : a'.tmps.getD 87 undef = .bool true := (hF 87 (by decide +kernel)).1
      have e89 : a'.tmps.getD 89 undef = .bool true := (hF 89 (by decide +kernel)).1
      exact st_val 90 (.bool true) rfl (wantS_none rfl) (rn_pick rfl e87 e89) hC (Below.refl _ _) ⟨rfl, trivial, trivial⟩
    · intro a' w' hC hF
      have e90 : a'.tmps.getD 90 undef = .bool true := (hF 90 (by decide +kernel)).1
      exact st_val 91 (.bool true) rfl (wantS_none rfl) (rn_move rfl e90) hC (Below.refl _ _) ⟨rfl, trivial, trivial⟩
    · intro a' w' hC hF
      have e91 : a'.tmps.getD 91 undef = .bool true := (hF 91 (by decide +kernel)).1
      have e10 : a'.tmps.getD 10 undef = .slice (some ⟨g3, 0, none⟩) 4 4 := (hF 10 (by decide +kernel)).1
      exact st_val 92 (.slice (some ⟨g3, 0, none⟩) 4 4) rfl (wantS_some (g := 34) rfl e91) (rn_move rfl e10) hC (Below.refl _ _) ⟨rfl, trivial, trivial⟩
    · intro a' w' hC hF
      have e91 : a'.tmps.getD 91 undef = .bool true := (hF 91 (by decide +kernel)).1
      have e92 : a'.tmps.getD 92 undef = .slice (some ⟨g3, 0, none⟩) 4 4 := (hF 92 (by decide +kernel)).1
      exact st_val 93 (.int .i64 4) rfl (wantS_some (g := 34) rfl e91) (rn_len rfl e92) hC (Below.refl _ _) ⟨rfl, trivial, trivial⟩
    · intro a' w' hC hF
      have e91 : a'.tmps.getD 91 undef = .bool true := (hF 91 (by decide +kernel)).1
      have e93 : a'.tmps.getD 93 undef = .int .i64 4 := (hF 93 (by decide +kernel)).1
      exact st_val 94 (.bool true) rfl (wantS_some (g := 34) rfl e91) (rn_eqlT rfl e93 rfl) hC (Below.refl _ _) ⟨rfl, trivial, trivial⟩
    · intro a' w' hC hF
      have e91 : a'.tmps.getD 91 undef = .bool true := (hF 91 (by decide +kernel)).1
      have e94 : a'.tmps.getD 94 undef = .bool true := (hF 94 (by decide +kernel)).1
      exact st_val 95 (.bool true) rfl (wantS_none rfl) (rn_pick rfl e91 e94) hC (Below.refl _ _) ⟨rfl, trivial, trivial⟩
    · intro a' w' hC hF
      have e95 : a'.tmps.getD 95 undef = .bool true := (hF 95 (by decide +kernel)).1
      exact st_val 96 (.bool true) rfl (wantS_none rfl) (rn_move rfl e95) hC (Below.refl _ _) ⟨rfl, trivial, trivial⟩
    · intro a' w' hC hF
      have e96 : a'.tmps.getD 96 undef = .bool true := (hF 96 (by decide +kernel)).1
      have e10 : a'.tmps.getD 10 undef = .slice (some ⟨g3, 0, none⟩) 4 4 := (hF 10 (by decide +kernel)).1
      exact st_val 97 (.slice (some ⟨g3, 0, none⟩) 4 4) rfl (wantS_some (g := 39) rfl e96) (rn_move rfl e10) hC (Below.refl _ _) ⟨rfl, trivial, trivial⟩
    · intro a' w' hC hF
      have e96 : a'.tmps.getD 96 undef = .bool true := (hF 96 (by decide +kernel)).1
      have e97 : a'.tmps.getD 97 undef = .slice (some ⟨g3, 0, none⟩) 4 4 := (hF 97 (by decide +kernel)).1
      exact st_val 98 (.pointer (some ⟨g3, 0, none⟩)) rfl (wantS_some (g := 39) rfl e96) (rn_at (k := 0) rfl e97 rfl (by decide)) hC (Below.refl _ _) ⟨rfl, trivial, trivial⟩
    · intro a' w' hC hF
      have e96 : a'.tmps.getD 96 undef = .bool true := (hF 96 (by decide +kernel)).1
      have e98 : a'.tmps.getD 98 undef = .pointer (some ⟨g3, 0, none⟩) := (hF 98 (by decide +kernel)).1
      exact st_val 99 (.int .u8 5) rfl (wantS_some (g := 39) rfl e96) (rn_load rfl e98 (HS.out _ hC).2.1) hC (Below.refl _ _) ⟨rfl, trivial, trivial⟩
    · intro a' w' hC hF
      have e96 : a'.tmps.getD 96 undef = .bool true := (hF 96 (by decide +kernel)).1
      have e99 : a'.tmps.getD 99 undef = .int .u8 5 := (hF 99 (by decide +kernel)).1
      exact st_val 100 (.bool true) rfl (wantS_some (g := 39) rfl e96) (rn_eqlT rfl e99 rfl) hC (Below.refl _ _) ⟨rfl, trivial, trivial⟩
    · intro a' w' hC hF
      have e96 : a'.tmps.getD 96 undef = .bool true := (hF 96 (by decide +kernel)).1
      have e100 : a'.tmps.getD 100 undef = .bool true := (hF 100 (by decide +kernel)).1
      exact st_val 101 (.bool true) rfl (wantS_none rfl) (rn_pick rfl e96 e100) hC (Below.refl _ _) ⟨rfl, trivial, trivial⟩
    · intro a' w' hC hF
      have e101 : a'.tmps.getD 101 undef = .bool true := (hF 101 (by decide +kernel)).1
      exact st_val 102 (.bool true) rfl (wantS_none rfl) (rn_move rfl e101) hC (Below.refl _ _) ⟨rfl, trivial, trivial⟩
    · intro a' w' hC hF
      have e102 : a'.tmps.getD 102 undef = .bool true := (hF 102 (by decide +kernel)).1
      have e10 : a'.tmps.getD 10 undef = .slice (some ⟨g3, 0, none⟩) 4 4 := (hF 10 (by decide +kernel)).1
      exact st_val 103 (.slice (some ⟨g3, 0, none⟩) 4 4) rfl (wantS_some (g := 45) rfl e102) (rn_move rfl e10) hC (Below.refl _ _) ⟨rfl, trivial, trivial⟩
    · intro a' w' hC hF
      have e102 : a'.tmps.getD 102 undef = .bool true := (hF 102 (by decide +kernel)).1
      have e103 : a'.tmps.getD 103 undef = .slice (some ⟨g3, 0, none⟩) 4 4 := (hF 103 (by decide +kernel)).1
      exact st_val 104 (.pointer (some ⟨g3, 1, none⟩)) rfl (wantS_some (g := 45) rfl e102) (rn_at (k := 1) rfl e103 rfl (by decide)) hC (Below.refl _ _) ⟨rfl, trivial, trivial⟩
    · intro a' w' hC hF
      have e102 : a'.tmps.getD 102 undef = .bool true := (hF 102 (by decide +kernel)).1
      have e104 : a'.tmps.getD 104 undef = .pointer (some ⟨g3, 1, none⟩) := (hF 104 (by decide +kernel)).1
      exact st_val 105 (.int .u8 7) rfl (wantS_some (g := 45) rfl e102) (rn_load rfl e104 (HS.out _ hC).2.2.1) hC (Below.refl _ _) ⟨rfl, trivial, trivial⟩
    · intro a' w' hC hF
      have e102 : a'.tmps.getD 102 undef = .bool true := (hF 102 (by decide +kernel)).1
      have e105 : a'.tmps.getD 105 undef = .int .u8 7 := (hF 105 (by decide +kernel)).1
      exact st_val 106 (.bool true) rfl (wantS_some (g := 45) rfl e102) (rn_eqlT rfl e105 rfl) hC (Below.refl _ _) ⟨rfl, trivial, trivial⟩
    · intro a' w' hC hF
      have e102 : a'.tmps.getD 102 undef = .bool true := (hF 102 (by decide +kernel)).1
      have e106 : a'.tmps.getD 106 undef = .bool true := (hF 106 (by decide +kernel)).1
      exact st_val 107 (.bool true) rfl (wantS_none rfl) (rn_pick rfl e102 e106) hC (Below.refl _ _) ⟨rfl, trivial, trivial⟩
    · intro a' w' hC hF
      have e107 : a'.tmps.getD 107 undef = .bool true := (hF 107 (by decide +kernel)).1
      exact st_val 108 (.bool true) rfl (wantS_none rfl) (rn_move rfl e107) hC (Below.refl _ _) ⟨rfl, trivial, trivial⟩
    · intro a' w' hC hF
      have e108 : a'.tmps.getD 108 undef = .bool true := (hF 108 (by decide +kernel)).1
      have e10 : a'.tmps.getD 10 undef = .slice (some ⟨g3, 0, none⟩) 4 4 := (hF 10 (by decide +kernel)).1
      exact st_val 109 (.slice (some ⟨g3, 0, none⟩) 4 4) rfl (wantS_some (g := 51) rfl e108) (rn_move rfl e10) hC (Below.refl _ _) ⟨rfl, trivial, trivial⟩
    · intro a' w' hC hF
      have e108 : a'.tmps.getD 108 undef = .bool true := (hF 108 (by decide +kernel)).1
      have e109 : a'.tmps.getD 109 undef = .slice (some ⟨g3, 0, none⟩) 4 4 := (hF 109 (by decide +kernel)).1
      exact st_val 110 (.pointer (some ⟨g3, 2, none⟩)) rfl (wantS_some (g := 51) rfl e108) (rn_at (k := 2) rfl e109 rfl (by decide)) hC (Below.refl _ _) ⟨rfl, trivial, trivial⟩
    · intro a' w' hC hF
      have e108 : a'.tmps.getD 108 undef = .bool true := (hF 108 (by decide +kernel)).1
      have e110 : a'.tmps.getD 110 undef = .pointer (some ⟨g3, 2, none⟩) := (hF 110 (by decide +kernel)).1
      exact st_val 111 (.int .u8 122) rfl (wantS_some (g := 51) rfl e108) (rn_load rfl e110 (HS.out _ hC).2.2.2) hC (Below.refl _ _) ⟨rfl, trivial, trivial⟩
    · intro a' w' hC hF
      have e108 : a'.tmps.getD 108 undef = .bool true := (hF 108 (by decide +kernel)).1
      have e1 : a'.tmps.getD 1 undef = .pointer (some ⟨f0, 0, none⟩) := (hF 1 (by decide +kernel)).1
      exact st_val 112 (.pointer (some ⟨f0, 0, none⟩)) rfl (wantS_some (g := 51) rfl e108) (rn_move rfl e1) hC (Below.refl _ _) ⟨rfl, trivial, trivial⟩
    · intro a' w' hC hF
      have e108 : a'.tmps.getD 108 undef = .bool true := (hF 108 (by decide +kernel)).1
      have e1 : a'.tmps.getD 1 undef = .pointer (some ⟨f0, 0, none⟩) := (hF 1 (by decide +kernel)).1
      exact st_val 113 (.pointer (some ⟨f0, 0, none⟩)) rfl (wantS_some (g := 51) rfl e108) (rn_move rfl e1) hC (Below.refl _ _) ⟨rfl, trivial, trivial⟩
    · intro a' w' hC hF
      have e108 : a'.tmps.getD 108 undef = .bool true := (hF 108 (by decide +kernel)).1
      have e2 : a'.tmps.getD 2 undef = .int .u8 142 := (hF 2 (by decide +kernel)).1
      exact st_val 114 (.int .u8 142) rfl (wantS_some (g := 51) rfl e108) (rn_move rfl e2) hC (Below.refl _ _) ⟨rfl, trivial, trivial⟩
    · intro a' w' hC hF
      have e108 : a'.tmps.getD 108 undef = .bool true := (hF 108 (by decide +kernel)).1
      have e113 : a'.tmps.getD 113 undef = .pointer (some ⟨f0, 0, none⟩) := (hF 113 (by decide +kernel)).1
      have e114 : a'.tmps.getD 114 undef = .int .u8 142 := (hF 114 (by decide +kernel)).1
      refine st_call 115 29 #[.pointer (some ⟨f0, 0, none⟩), .int .u8 142, .int .u8 5] rfl (wantS_some (g := 51) rfl e108) (rn_call3 rfl rfl e113 e114 rfl (enter29 _)) ((mul_ex1 _ w' (HM.out _ hC).2.2.2).mono ?_)
      rintro e w'' ⟨rfl, hb⟩
      exact ⟨_, rfl, belowCall hC hb, hb, rfl, trivial, trivial⟩
    · intro a' w' hC hF
      have e108 : a'.tmps.getD 108 undef = .bool true := (hF 108 (by decide +kernel)).1
      have e1 : a'.tmps.getD 1 undef = .pointer (some ⟨f0, 0, none⟩) := (hF 1 (by decide +kernel)).1
      exact st_val 116 (.pointer (some ⟨f0, 0, none⟩)) rfl (wantS_some (g := 51) rfl e108) (rn_move rfl e1) hC (Below.refl _ _) ⟨rfl, trivial, trivial⟩
    · intro a' w' hC hF
      have e108 : a'.tmps.getD 108 undef = .bool true := (hF 108 (by decide +kernel)).1
      have e4 : a'.tmps.getD 4 undef = .int .u8 244 := (hF 4 (by decide +kernel)).1
      exact st_val 117 (.int .u8 244) rfl (wantS_some (g := 51) rfl e108) (rn_move rfl e4) hC (Below.refl _ _) ⟨rfl, trivial, trivial⟩
    · intro a' w' hC hF
      have e108 : a'.tmps.getD 108 undef = .bool true := (hF 108 (by decide +kernel)).1
      have e116 : a'.tmps.getD 116 undef = .pointer (some ⟨f0, 0, none⟩) := (hF 116 (by decide +kernel)).1
      have e117 : a'.tmps.getD 117 undef = .int .u8 244 := (hF 117 (by decide +kernel)).1
      refine st_call 118 29 #[.pointer (some ⟨f0, 0, none⟩), .int .u8 244, .int .u8 7] rfl (wantS_some (g := 51) rfl e108) (rn_call3 rfl rfl e116 e117 rfl (enter29 _)) ((mul_ex2 _ w' (HM.out _ hC).2.2.2).mono ?_)
      rintro e w'' ⟨rfl, hb⟩
      exact ⟨_, rfl, belowCall hC hb, hb, rfl, trivial, trivial⟩
    · intro a' w' hC hF
      have e108 : a'.tmps.getD 108 undef = .bool true := (hF 108 (by decide +kernel)).1
      have e112 : a'.tmps.getD 112 undef = .pointer (some ⟨f0, 0, none⟩) := (hF 112 (by decide +kernel)).1
      have e115 : a'.tmps.getD 115 undef = .int .u8 140 := (hF 115 (by decide +kernel)).1
      have e118 : a'.tmps.getD 118 undef = .int .u8 246 := (hF 118 (by decide +kernel)).1
      refine st_call 119 31 #[.pointer (some ⟨f0, 0, none⟩), .int .u8 140, .int .u8 246] rfl (wantS_some (g := 51) rfl e108) (rn_call3 rfl rfl e112 e115 e118 (enter31 _)) ((add_ex _ w').mono ?_)
      rintro e w'' ⟨rfl, hb⟩
      exact ⟨_, rfl, belowCall hC hb, hb, rfl, trivial, trivial⟩
    · intro a' w' hC hF
      have e108 : a'.tmps.getD 108 undef = .bool true := (hF 108 (by decide +kernel)).1
      have e119 : a'.tmps.getD 119 undef = .int .u8 122 := (hF 119 (by decide +kernel)).1
      have e111 : a'.tmps.getD 111 undef = .int .u8 122 := (hF 111 (by decide +kernel)).1
      exact st_val 120 (.bool true) rfl (wantS_some (g := 51) rfl e108) (rn_eqlT rfl e111 e119) hC (Below.refl _ _) ⟨rfl, trivial, trivial⟩
    · intro a' w' hC hF
      have e108 : a'.tmps.getD 108 undef = .bool true := (hF 108 (by decide +kernel)).1
      have e120 : a'.tmps.getD 120 undef = .bool true := (hF 120 (by decide +kernel)).1
      exact st_val 121 (.bool true) rfl (wantS_none rfl) (rn_pick rfl e108 e120) hC (Below.refl _ _) ⟨rfl, trivial, trivial⟩
    · intro a' w' hC hF
      have e121 : a'.tmps.getD 121 undef = .bool true := (hF 121 (by decide +kernel)).1
      exact st_val 122 (.bool true) rfl (wantS_none rfl) (rn_move rfl e121) hC (Below.refl _ _) ⟨rfl, trivial, trivial⟩
    · intro a' w' hC hF
      have e122 : a'.tmps.getD 122 undef = .bool true := (hF 122 (by decide +kernel)).1
      have e13 : a'.tmps.getD 13 undef = .int .i64 0 := (hF 13 (by decide +kernel)).1
      exact st_val 123 (.int .i64 0) rfl (wantS_some (g := 65) rfl e122) (rn_move rfl e13) hC (Below.refl _ _) ⟨rfl, trivial, trivial⟩
    · intro a' w' hC hF
      have e122 : a'.tmps.getD 122 undef = .bool true := (hF 122 (by decide +kernel)).1
      have e123 : a'.tmps.getD 123 undef = .int .i64 0 := (hF 123 (by decide +kernel)).1
      exact st_val 124 (.bool true) rfl (wantS_some (g := 65) rfl e122) (rn_eqlT rfl e123 rfl) hC (Below.refl _ _) ⟨rfl, trivial, trivial⟩
    · intro a' w' hC hF
      have e122 : a'.tmps.getD 122 undef = .bool true := (hF 122 (by decide +kernel)).1
      have e124 : a'.tmps.getD 124 undef = .bool true := (hF 124 (by decide +kernel)).1
      exact st_val 125 (.bool true) rfl (wantS_none rfl) (rn_pick rfl e122 e124) hC (Below.refl _ _) ⟨rfl, trivial, trivial⟩
    · intro a' w' hC hF
      have e125 : a'.tmps.getD 125 undef = .bool true := (hF 125 (by decide +kernel)).1
      exact st_val 126 (.bool true) rfl (wantS_none rfl) (rn_move rfl e125) hC (Below.refl _ _) ⟨rfl, trivial, trivial⟩
    · intro a' w' hC hF
      have e126 : a'.tmps.getD 126 undef = .bool true := (hF 126 (by decide +kernel)).1
      have e12 : a'.tmps.getD 12 undef = v4 := (hF 12 (by decide +kernel)).1
      exact st_val 127 (v4) rfl (wantS_some (g := 69) rfl e126) (rn_move rfl e12) hC (Below.refl _ _) ⟨rfl, trivial, trivial⟩
    · intro a' w' hC hF
      have e126 : a'.tmps.getD 126 undef = .bool true := (hF 126 (by decide +kernel)).1
      exact st_val 128 (.slice (some ⟨w'.heap.size, 0, none⟩) 2 2) rfl (wantS_some (g := 69) rfl e126) (rn_b57 rfl rfl rfl) (balloc hC) (balloc (Below.refl _ _)) ⟨trivial, strs_lit (ss := [[0, 1], [0, 1]]) (Has.new w' _ _ 9 rfl) (by decide) (by decide), trivial⟩
    · intro a' w' hC hF
      have e126 : a'.tmps.getD 126 undef = .bool true := (hF 126 (by decide +kernel)).1
      have e127 : a'.tmps.getD 127 undef = v4 := (hF 127 (by decide +kernel)).1
      refine st_call 129 15 #[v4, a'.tmps.getD 128 undef] rfl (wantS_some (g := 69) rfl e126) (rn_call2 rfl rfl e127 rfl (enter15 _)) ((is_any v4 _ [[0, 1], [0, 1]] [[0, 1], [0, 1]] w' (HM.out _ hC).2.2.1 (hF 128 (by decide +kernel)).2.1).mono ?_)
      rintro e w'' ⟨rfl, hb⟩
      exact ⟨_, rfl, belowCall hC hb, hb, rfl, trivial, trivial⟩
    · intro a' w' hC hF
      have e126 : a'.tmps.getD 126 undef = .bool true := (hF 126 (by decide +kernel)).1
      have e129 : a'.tmps.getD 129 undef = .bool true := (hF 129 (by decide +kernel)).1
      exact st_val 130 (.bool true) rfl (wantS_none rfl) (rn_pick rfl e126 e129) hC (Below.refl _ _) ⟨rfl, trivial, trivial⟩
    · intro a' w' hC hF
      have e130 : a'.tmps.getD 130 undef = .bool true := (hF 130 (by decide +kernel)).1
      exact st_val 131 (.bool true) rfl (wantS_none rfl) (rn_move rfl e130) hC (Below.refl _ _) ⟨rfl, trivial, trivial⟩
    · intro a' w' hC hF
      have e131 : a'.tmps.getD 131 undef = .bool true := (hF 131 (by decide +kernel)).1
      have e15 : a'.tmps.getD 15 undef = .int .i64 4 := (hF 15 (by decide +kernel)).1
      exact st_val 132 (.int .i64 4) rfl (wantS_some (g := 74) rfl e131) (rn_move rfl e15) hC (Below.refl _ _) ⟨rfl, trivial, trivial⟩
    · intro a' w' hC hF
      have e131 : a'.tmps.getD 131 undef = .bool true := (hF 131 (by decide +kernel)).1
      have e132 : a'.tmps.getD 132 undef = .int .i64 4 := (hF 132 (by decide +kernel)).1
      exact st_val 133 (.bool true) rfl (wantS_some (g := 74) rfl e131) (rn_eqlT rfl e132 rfl) hC (Below.refl _ _) ⟨rfl, trivial, trivial⟩
    · intro a' w' hC hF
      have e131 : a'.tmps.getD 131 undef = .bool true := (hF 131 (by decide +kernel)).1
      have e133 : a'.tmps.getD 133 undef = .bool true := (hF 133 (by decide +kernel)).1
      exact st_val 134 (.bool true) rfl (wantS_none rfl) (rn_pick rfl e131 e133) hC (Below.refl _ _) ⟨rfl, trivial, trivial⟩
    · intro a' w' hC hF
      have e134 : a'.tmps.getD 134 undef = .bool true := (hF 134 (by decide +kernel)).1
      exact st_val 0 (.bool true) rfl (wantS_none rfl) (rn_assign rfl e134) hC (Below.refl _ _) ⟨rfl, trivial, trivial⟩
  · intro a' w' hC hF hd hs _
    have e0 : a'.tmps.getD 0 undef = .bool true := hF.1
    go_wp2_with fail
    refine bodyPost_ret (results_tmp rfl _ _ _) hd ?_
    exact ⟨by rw [e0], belowCall B8 hC⟩
end Go.Proofs.Ytnihohcdamhidaa
