/- The walk of MatrixNames. -/
import Derived.Test.YtnihohcdamhidaaWorks
import Derived.Test.YtnihohcdamhidaaRuns2
namespace Go.Proofs.Ytnihohcdamhidaa
open Go.RowKit
theorem nm1 : err1 12 = 0 ∧ err1 13 = 1 ∧ err1 0 = 1 ∧ errC 0 1 = 1 ∧ errC 2 1 = 1 ∧ errC 1 13 = 1 ∧ errC 12 12 = 0 := by decide +kernel
theorem nm2 : ans1 12 = oneM 12 ∧ ansC 12 12 = oneM 12 := by decide +kernel
theorem nm3 : errR (oneM 12) [] = 1 ∧ errR (oneM 12) (List.replicate 13 0) = 1 ∧ errR (oneM 12) [12] = 1 ∧ errR (oneM 12) [-1] = 1 ∧ errR [] [] = 4 := by decide +kernel
theorem nm4 : errV (oneM 12) (List.replicate 11 0) = 4 ∧ errV [[]] [] = 4 ∧ errM [[1, 2, 3]] [[1], [1], [1]] = 0 ∧ ansM [[1, 2, 3]] [[1], [1], [1]] = [[0]] := by decide +kernel
theorem mat3 {w : World} {g g0 g1 g2 c : Nat} {l0 l1 l2 : List Nat} (h : Has w g #[.slice (some ⟨g0, 0, none⟩) l0.length l0.length, .slice (some ⟨g1, 0, none⟩) l1.length l1.length, .slice (some ⟨g2, 0, none⟩) l2.length l2.length] 32) (h0 : Has w g0 (U8s l0) 5) (h1 : Has w g1 (U8s l1) 5) (h2 : Has w g2 (U8s l2) 5)
    (x0 : ∀ x ∈ l0, x < 256) (x1 : ∀ x ∈ l1, x < 256) (x2 : ∀ x ∈ l2, x < 256) (n0 : l0.length ≤ 1000000) (n1 : l1.length ≤ 1000000) (n2 : l2.length ≤ 1000000) : Mat w (.slice (some ⟨g, 0, none⟩) 3 c) [l0, l1, l2] := by
  refine mat_lit (m := [l0, l1, l2]) (vs := [.slice (some ⟨g0, 0, none⟩) l0.length l0.length, .slice (some ⟨g1, 0, none⟩) l1.length l1.length, .slice (some ⟨g2, 0, none⟩) l2.length l2.length]) h rfl (by simp) (fun j hj => ?_)
  have hj' : j < 3 := hj
  by_cases hj0 : j = 0
  · subst hj0; exact row_lit h0 x0 n0
  by_cases hj1 : j = 1
  · subst hj1; exact row_lit h1 x1 n1
  · obtain rfl : j = 2 := by omega
    exact row_lit h2 x2 n2
theorem Ints.nil (w : World) : Ints w (.slice none 0 0) [] := ⟨none, 0, rfl, by simp, fun h => absurd h (by simp)⟩
theorem wpList_run {P : Program} {ops : Array Oper} {rest : List Oper} {o : Oper} {a : Act} {w w' : World} {Q : Exit → Act → World → Prop} {v : Value} (hw : Region.wanted o (yielded ops a.tmps) = true) (hr : (execOp a.eval o).run P w = .ok (.value v) w') (h : wpList P ops Q rest (a.put o.dst v) w') : wpList P ops Q (o :: rest) a w := by
  unfold wpList
  rw [if_pos hw]
  refine .inl ?_
  unfold Oper.wp
  rw [hr]; exact h
theorem op_run {P : Program} {o : Oper} {a : Act} {w w' : World} {K : Act → World → Prop} {Q : Exit → Act → World → Prop} {v : Value} (hr : (execOp a.eval o).run P w = .ok (.value v) w') (h : K (a.put o.dst v) w') : o.wp P a w K Q := by
  unfold Oper.wp
  rw [hr]; exact h
theorem step_run {P : Program} {ops : Array Oper} {o : Oper} {a : Act} {w w' : World} {K : Act → World → Prop} {Q : Exit → Act → World → Prop} {F : Prop} {v : Value} (hw : Region.wanted o (yielded ops a.tmps) = true) (hr : (execOp a.eval o).run P w = .ok (.value v) w') (h : K (a.put o.dst v) w') : if Region.wanted o (yielded ops a.tmps) = true then o.wp P a w K Q else F := by
  rw [if_pos hw]; exact op_run hr h
theorem mat13 {w : World} {g cap : Nat} {cs : Array Value} {B : Nat → Nat} (h : Has w g cs 32) (hc : ∀ j, j < 12 → cs[j]? = some (.slice (some ⟨B j, 0, none⟩) 12 12)) (h12 : cs[12]? = some (.slice (some ⟨B 0, 0, none⟩) 12 12))
    (hrow : ∀ j, j < 12 → Has w (B j) (U8s ((oneM 12).getD j [])) 5 ∧ ∀ x ∈ (oneM 12).getD j [], x < 256) : Mat w (.slice (some ⟨g, 0, none⟩) 13 cap) (oneM 12 ++ [(oneM 12).getD 0 []]) := by
  obtain ⟨hl, hrl⟩ := one12
  refine ⟨_, cap, by rw [one12b], by rw [one12b]; decide, fun _ => ⟨g, 0, rfl, h.lt, fun j hj => ?_⟩⟩
  rw [one12b] at hj
  have hR : ∀ i, i < 12 → Row8 w (.slice (some ⟨B i, 0, none⟩) 12 12) ((oneM 12).getD i []) := fun i hi => by
    have e : ((oneM 12).getD i []).length = 12 := hrl ⟨i, hi⟩
    have := row_lit (c := 12) (hrow i hi).1 (hrow i hi).2 (by omega)
    rw [e] at this; exact this
  by_cases hj12 : j < 12
  · exact ⟨_, by rw [Nat.zero_add, h.cell, hc j hj12], by rw [getD_app_old _ _ _ _ (by omega)]; exact hR j hj12⟩
  · obtain rfl : j = 12 := by omega
    exact ⟨_, by rw [Nat.zero_add, h.cell, h12], by rw [getD_app_new _ _ _ _ (by omega)]; exact hR 0 (by decide)⟩
theorem infoI64 : (Try.prog.info? 3).map (fun i => (i.zero, i.size, i.bytes)) = some (some (.int .i64 0), 1, 8) := by kernel_rfl
theorem makes_i64 (n : Nat) (hn : n ≤ 1000000) (w : World) : (Instr.makeSlice 31 (.int .i64 (n : Int)) (.int .i64 (n : Int))).run Try.prog w = .ok (.slice (some ⟨w.heap.size, 0, none⟩) n n) (w.alloc (.cells ((List.replicate n (0 : Int)).map fun z => Value.int .i64 z).toArray 3)) := by
  have hinfo := infoI64
  cases hi : Try.prog.info? 3 with
  | none => rw [hi] at hinfo; simp at hinfo
  | some i =>
    rw [hi] at hinfo
    simp only [Option.map_some, Option.some.injEq, Prod.mk.injEq] at hinfo
    obtain ⟨h1, h2, h3⟩ := hinfo
    rw [run_make w 31 3 i (.int .i64 0) Try.underlying31 hi h1 .i64 .i64 (n : Int) (n : Int) (by omega) (Int.le_refl _) (by rw [h3]; omega) (by omega)]
    have e : madeCells (Value.int .i64 0).cells (n * 1) = ((List.replicate n (0 : Int)).map fun z => Value.int .i64 z).toArray := by
      apply Array.toList_inj.1
      have hz : (Value.int .i64 0).cells = #[.int .i64 0] := rfl
      rw [hz, Nat.mul_one]
      apply List.ext_getElem
      · simp [madeCells]
      · intro k h1 h2
        simp [madeCells, Nat.mod_one]
    rw [h2, Int.toNat_natCast, e]
set_option maxRecDepth 20000 in
set_option maxHeartbeats 8000000 in
theorem names_walk (w : World) : Calls Try.prog 3 #[] w fun e w' => e = .returned (.bool true) ∧ Below w.heap.size w w' := by
  obtain ⟨x1, x2, x3, x4, x5, x6, x7⟩ := nm1
  obtain ⟨y1, y2⟩ := nm2
  obtain ⟨z1, z2, z3, z4, z5⟩ := nm3
  obtain ⟨u1, u2, u3, u4⟩ := nm4
  have hmk : ∀ w, (Instr.makeSlice 32 (.int .i64 11) (.int .i64 11)).run Try.prog w = .ok (.slice (some ⟨w.heap.size, 0, none⟩) 11 11) (w.alloc (.cells (U8s (List.replicate 11 0)) 5)) := makes_u8 11 (by decide)
  have hmi : ∀ w, (Instr.makeSlice 31 (.int .i64 13) (.int .i64 13)).run Try.prog w = .ok (.slice (some ⟨w.heap.size, 0, none⟩) 13 13) (w.alloc (.cells ((List.replicate 13 (0 : Int)).map fun z => Value.int .i64 z).toArray 3)) := makes_i64 13 (by decide)
  generalize hI13 : ((List.replicate 13 (0 : Int)).map fun z => Value.int .i64 z).toArray = I13 at hmi
  generalize hU11 : U8s (List.replicate 11 0) = U11 at hmk
  go_enter Try.func3, Try.ntmps3
  go_wp2_with fail
  refine (works_true w).mono ?_
  rintro e w1 ⟨rfl, B1⟩
  go_wp2_with fail
  refine (one_any 12 w1).mono ?_
  rintro e w2 ⟨v1, rfl, hW, b2⟩
  rw [x1]
  rw [y1] at hW
  have B2 := belowCall B1 b2
  go_wp2_with fail
  refine (one_any 13 w2).mono ?_
  rintro e w3 ⟨t3, rfl, _, b3⟩
  rw [x2]
  have hW3 := hW.below b3
  have B3 := belowCall B2 b3
  go_wp2_with fail
  refine (one_any 0 w3).mono ?_
  rintro e w4 ⟨t4, rfl, _, b4⟩
  rw [x3]
  have hW4 := hW3.below b4
  have B4 := belowCall B3 b4
  clear hW hW3 b2 b3 b4 B1 B2 B3
  go_wp2_with fail
  refine (of_any 0 1 w4).mono ?_
  rintro e w5 ⟨t5, rfl, _, b5⟩
  rw [x4]
  have hW5 := hW4.below b5
  have B5 := belowCall B4 b5
  go_wp2_with fail
  refine (of_any 2 1 w5).mono ?_
  rintro e w6 ⟨t6, rfl, _, b6⟩
  rw [x5]
  have hW6 := hW5.below b6
  have B6 := belowCall B5 b6
  go_wp2_with fail
  refine (of_any 1 13 w6).mono ?_
  rintro e w7 ⟨t7, rfl, _, b7⟩
  rw [x6]
  have hW7 := hW6.below b7
  have B7 := belowCall B6 b7
  go_wp2_with fail
  refine (of_any 12 12 w7).mono ?_
  rintro e w8 ⟨vf, rfl, hF, b8⟩
  rw [x7]
  rw [y2] at hF
  have hW8 := hW7.below b8
  have B8 := belowCall B7 b8
  have hF8 := hF.mat
  clear hW4 hW5 hW6 hW7 b5 b6 b7 b8 B4 B5 B6 B7 hF
  go_wp2_with fail
  refine (rows_any v1 _ _ [] w8 hW8.mat (Ints.nil _)).mono ?_
  rintro e w9 ⟨t9, rfl, _, b9⟩
  rw [z1]
  have hW9 := hW8.below b9
  have hF9 := hF8.below b9
  have B9 := belowCall B8 b9
  go_wp2_with fail
  refine (rows_any v1 _ _ (List.replicate 13 0) _ (hW9.below ((Below.refl _ _).alloc (Nat.le_refl _) _)).mat (by rw [← hI13]; exact ints_lit (zs := List.replicate 13 0) (Has.new w9 _ _ 3 rfl) (by decide))).mono ?_
  rintro e w10 ⟨t10, rfl, _, b10'⟩
  rw [z2]
  have b10 := belowCall ((Below.refl _ _).alloc (Nat.le_refl _) _) b10'
  have hW10 := hW9.below b10
  have hF10 := hF9.below b10
  have B10 := belowCall B9 b10
  clear b10' hW8 hW9 hF8 hF9 b9 b10 B8 B9
  go_wp2_with fail
  refine (rows_any v1 _ _ [12] _ (hW10.below ((Below.refl _ _).alloc (Nat.le_refl _) _)).mat (ints_lit (zs := [12]) (Has.new w10 _ _ 3 rfl) (by decide))).mono ?_
  rintro e w11 ⟨t11, rfl, _, b11'⟩
  rw [z3]
  have b11 := belowCall ((Below.refl _ _).alloc (Nat.le_refl _) _) b11'
  have hW11 := hW10.below b11
  have hF11 := hF10.below b11
  have B11 := belowCall B10 b11
  clear b11' b11
  go_wp2_with fail
  refine (rows_any v1 _ _ [-1] _ (hW11.below ((Below.refl _ _).alloc (Nat.le_refl _) _)).mat (ints_lit (zs := [-1]) (Has.new w11 _ _ 3 rfl) (by decide))).mono ?_
  rintro e w12 ⟨t12, rfl, _, b12'⟩
  rw [z4]
  have b12 := belowCall ((Below.refl _ _).alloc (Nat.le_refl _) _) b12'
  have hW12 := hW11.below b12
  have hF12 := hF11.below b12
  have B12 := belowCall B11 b12
  clear b12' b12 hW10 hW11 hF10 hF11 B10 B11
  go_wp2_with fail
  refine (rows_any _ _ [] [] _ (Mat.nil _) (Ints.nil _)).mono ?_
  rintro e w13 ⟨t13, rfl, _, b13⟩
  rw [z5]
  have hW13 := hW12.below b13
  have hF13 := hF12.below b13
  have B13 := belowCall B12 b13
  go_wp2_with fail
  refine (vec_any v1 _ _ (List.replicate 11 0) _ (hW13.below ((Below.refl _ _).alloc (Nat.le_refl _) _)).mat (by rw [← hU11]; exact row_lit (l := List.replicate 11 0) (Has.new w13 _ _ 5 rfl) (by decide) (by decide))).mono ?_
  rintro e w14 ⟨t14, rfl, _, b14'⟩
  rw [u1]
  have b14 := belowCall ((Below.refl _ _).alloc (Nat.le_refl _) _) b14'
  have hW14 := hW13.below b14
  have hF14 := hF13.below b14
  have B14 := belowCall B13 b14
  clear b14' b14 b13 hW12 hW13 hF12 hF13 B12 B13
  go_wp2_with fail
  have hMA : Mat ((w14.alloc (.cells #[] 5)).alloc (.cells #[.slice (some ⟨w14.heap.size, 0, none⟩) 0 0] 32)) (.slice (some ⟨w14.heap.size + 1, 0, none⟩) 1 1) [[]] :=
    mat1 (l0 := []) (Has.new _ _ _ 32 (by simp)) ((Has.new _ _ (U8s []) 5 rfl).alloc _) (by decide) (by decide)
  refine (vec_any _ _ [[]] [] _ hMA (Row8.nil _)).mono ?_
  rintro e w15 ⟨t15, rfl, _, b15'⟩
  rw [u2]
  have b15 := belowCall (((Below.refl w14.heap.size w14).alloc (Nat.le_refl _) _).alloc (by simp) _) b15'
  have hW15 := hW14.below b15
  have hF15 := hF14.below b15
  have B15 := belowCall B14 b15
  clear b15' b15 hW14 hF14 B14 hMA
  go_wp2_with fail
  have hMB : Mat ((((((w15.alloc (.cells #[.int .u8 1, .int .u8 2, .int .u8 3] 5)).alloc (.cells #[.slice (some ⟨w15.heap.size, 0, none⟩) 3 3] 32)).alloc (.cells #[.int .u8 1] 5)).alloc (.cells #[.int .u8 1] 5)).alloc (.cells #[.int .u8 1] 5)).alloc (.cells #[.slice (some ⟨w15.heap.size + 1 + 1, 0, none⟩) 1 1, .slice (some ⟨w15.heap.size + 1 + 1 + 1, 0, none⟩) 1 1, .slice (some ⟨w15.heap.size + 1 + 1 + 1 + 1, 0, none⟩) 1 1] 32)) (.slice (some ⟨w15.heap.size + 1, 0, none⟩) 1 1) [[1, 2, 3]] :=
    mat1 (l0 := [1, 2, 3]) (((((Has.new _ _ _ 32 (by simp)).alloc _).alloc _).alloc _).alloc _) ((((((Has.new _ _ (U8s [1, 2, 3]) 5 rfl).alloc _).alloc _).alloc _).alloc _).alloc _) (by decide) (by decide)
  have hMC : Mat ((((((w15.alloc (.cells #[.int .u8 1, .int .u8 2, .int .u8 3] 5)).alloc (.cells #[.slice (some ⟨w15.heap.size, 0, none⟩) 3 3] 32)).alloc (.cells #[.int .u8 1] 5)).alloc (.cells #[.int .u8 1] 5)).alloc (.cells #[.int .u8 1] 5)).alloc (.cells #[.slice (some ⟨w15.heap.size + 1 + 1, 0, none⟩) 1 1, .slice (some ⟨w15.heap.size + 1 + 1 + 1, 0, none⟩) 1 1, .slice (some ⟨w15.heap.size + 1 + 1 + 1 + 1, 0, none⟩) 1 1] 32)) (.slice (some ⟨w15.heap.size + 1 + 1 + 1 + 1 + 1, 0, none⟩) 3 3) [[1], [1], [1]] :=
    mat3 (l0 := [1]) (l1 := [1]) (l2 := [1]) (Has.new _ _ _ 32 (by simp)) ((((Has.new _ _ (U8s [1]) 5 (by simp)).alloc _).alloc _).alloc _) (((Has.new _ _ (U8s [1]) 5 (by simp)).alloc _).alloc _) ((Has.new _ _ (U8s [1]) 5 (by simp)).alloc _) (by decide) (by decide) (by decide) (by decide) (by decide) (by decide)
  refine (mul_any' _ _ _ _ _ hMB hMC).mono ?_
  rintro e w16 ⟨vp, rfl, hP, b16'⟩
  rw [u3]
  rw [u4] at hP
  have b16 := belowCall (w := w15) (by repeat (first | exact Below.refl _ _ | apply balloc)) b16'
  have hW16 := hW15.below b16
  have hF16 := hF15.below b16
  have B16 := belowCall B15 b16
  have hP16 := hP.mat
  clear b16' b16 hW15 hF15 B15 hMB hMC hP hmk hmi hI13 hU11 x1 x2 x3 x4 x5 x6 x7 y1 y2 z1 z2 z3 z4 z5 u1 u2 u3 u4
  go_wp2_with fail
  refine (same_any vf v1 _ _ w16 hF16 hW16.mat).mono ?_
  rintro e w17 ⟨rfl, b17⟩
  rw [decide_eq_true rfl]
  have hW17 := hW16.below b17
  have hP17 := hP16.below b17
  have B17 := belowCall B16 b17
  clear b17 hW16 hP16 hF16 B16
  go_wp2_with fail
  refine (is_any vp _ [[0]] [[0]] _ (hP17.below (balloc (Below.refl _ _))) (strs_lit (ss := [[0]]) (Has.new w17 _ _ 9 rfl) (by decide) (by decide))).mono ?_
  rintro e w18 ⟨rfl, b18'⟩
  rw [decide_eq_true rfl]
  have b18 := belowCall (w := w17) (balloc (Below.refl _ _)) b18'
  have hW18 := hW17.below b18
  have B18 := belowCall B17 b18
  clear b18' b18 hW17 hP17 B17
  go_wp2_with fail
  obtain ⟨T, rfl, hRA⟩ : ∃ T, v1 = .slice (some ⟨T, 0, none⟩) 12 12 ∧ RowsAt w1.heap.size T 12 w18 (oneM 12) := by
    obtain ⟨_, _, h3⟩ := hW18
    rcases h3 with ⟨_, h⟩ | ⟨T, e, h⟩
    · exact absurd h (by decide)
    · exact ⟨T, e, h⟩
  obtain ⟨_, _, B, hTT, hBB⟩ := hRA
  have hTl : T < w18.heap.size := hTT.lt
  have HM : Hid (∀ W, Below w18.heap.size w18 W → Mat W (.slice (some ⟨T, 0, none⟩) 12 12) (oneM 12) ∧ Has W T (tops 12 B (oneM 12)) 32) := fun W hW => ⟨hW18.mat.below hW, hTT.below hW hTl⟩
  have HB : Hid (∀ W, Below w18.heap.size w18 W → ∀ j, j < 12 → Has W (B j) (U8s ((oneM 12).getD j [])) 5 ∧ ∀ x ∈ (oneM 12).getD j [], x < 256) := fun W hW j hj => by
    obtain ⟨_, _, _, e, f⟩ := hBB j (by rw [one12.1]; exact hj)
    exact ⟨e.below hW e.lt, f⟩
  have BR := Below.refl w18.heap.size w18
  clear hW18 hTT hBB
  have hm13 : ∀ w, (Instr.makeSlice 32 (.int .i64 13) (.int .i64 13)).run Try.prog w = .ok (.slice (some ⟨w.heap.size, 0, none⟩) 13 13) (w.alloc (.cells (U8s (List.replicate 13 0)) 5)) := makes_u8 13 (by decide)
  generalize hU13 : U8s (List.replicate 13 0) = U13 at hm13
  refine (may_any _ (oneM 12) _ (HM.out _ BR).1).mono ?_
  rintro e wA ⟨rfl, hwA⟩
  have BwA : Below w18.heap.size w18 wA := (by rw [hwA]; repeat (first | exact BR | assumption | apply bdrew | apply balloc))
  rw [show mayM (oneM 12) = true by decide +kernel]
  clear hwA
  go_wp2_with fail
  refine (may_any _ [] _ (Mat.nil _)).mono ?_
  rintro e wB ⟨rfl, hwB⟩
  have BwB : Below w18.heap.size w18 wB := (by rw [hwB]; repeat (first | exact BR | assumption | apply bdrew | apply balloc))
  rw [show mayM [] = false by decide +kernel]
  clear hwB
  go_wp2_with fail
  refine (may_any _ [[]] _ (mat1 (l0 := []) (Has.new _ _ _ 32 (by simp)) ((Has.new _ _ (U8s []) 5 rfl).alloc _) (by decide) (by decide))).mono ?_
  rintro e wC ⟨rfl, hwC⟩
  have BwC : Below w18.heap.size w18 wC := (by rw [hwC]; repeat (first | exact BR | assumption | apply bdrew | apply balloc))
  rw [show mayM [[]] = false by decide +kernel]
  clear hwC
  go_wp2_with fail
  refine (may_any _ [[1], [1, 2]] _ (mat2 (l0 := [1]) (l1 := [1, 2]) (Has.new _ _ _ 32 (by simp)) (((Has.new _ _ (U8s [1]) 5 rfl).alloc _).alloc _) ((Has.new _ _ (U8s [1, 2]) 5 (by simp)).alloc _) (by decide) (by decide) (by decide) (by decide))).mono ?_
  rintro e wD ⟨rfl, hwD⟩
  have BwD : Below w18.heap.size w18 wD := (by rw [hwD]; repeat (first | exact BR | assumption | apply bdrew | apply balloc))
  rw [show mayM [[1], [1, 2]] = false by decide +kernel]
  clear hwD
  go_wp2_with fail
  refine (may_any _ [List.replicate 13 0] _ (mat1 (l0 := List.replicate 13 0) (Has.new _ _ _ 32 (by simp)) (by rw [hU13]; exact (Has.new _ _ _ 5 rfl).alloc _) (by decide) (by decide))).mono ?_
  rintro e wE ⟨rfl, hwE⟩
  have BwE : Below w18.heap.size w18 wE := (by rw [hwE]; repeat (first | exact BR | assumption | apply bdrew | apply balloc))
  rw [show mayM [List.replicate 13 0] = false by decide +kernel]
  clear hwE
  have hE := (HM.out _ BwE).2
  have k0 : wE.cell? ⟨T, 0, none⟩ = some (.slice (some ⟨B 0, 0, none⟩) 12 12) := (hE.cell 0).trans (by rw [tops_get 12 B _ 0 (by decide)]; rfl)
  have k1 : wE.cell? ⟨T, 1, none⟩ = some (.slice (some ⟨B 1, 0, none⟩) 12 12) := (hE.cell 1).trans (by rw [tops_get 12 B _ 1 (by decide)]; rfl)
  have k2 : wE.cell? ⟨T, 2, none⟩ = some (.slice (some ⟨B 2, 0, none⟩) 12 12) := (hE.cell 2).trans (by rw [tops_get 12 B _ 2 (by decide)]; rfl)
  have k3 : wE.cell? ⟨T, 3, none⟩ = some (.slice (some ⟨B 3, 0, none⟩) 12 12) := (hE.cell 3).trans (by rw [tops_get 12 B _ 3 (by decide)]; rfl)
  have k4 : wE.cell? ⟨T, 4, none⟩ = some (.slice (some ⟨B 4, 0, none⟩) 12 12) := (hE.cell 4).trans (by rw [tops_get 12 B _ 4 (by decide)]; rfl)
  have k5 : wE.cell? ⟨T, 5, none⟩ = some (.slice (some ⟨B 5, 0, none⟩) 12 12) := (hE.cell 5).trans (by rw [tops_get 12 B _ 5 (by decide)]; rfl)
  have k6 : wE.cell? ⟨T, 6, none⟩ = some (.slice (some ⟨B 6, 0, none⟩) 12 12) := (hE.cell 6).trans (by rw [tops_get 12 B _ 6 (by decide)]; rfl)
  have k7 : wE.cell? ⟨T, 7, none⟩ = some (.slice (some ⟨B 7, 0, none⟩) 12 12) := (hE.cell 7).trans (by rw [tops_get 12 B _ 7 (by decide)]; rfl)
  have k8 : wE.cell? ⟨T, 8, none⟩ = some (.slice (some ⟨B 8, 0, none⟩) 12 12) := (hE.cell 8).trans (by rw [tops_get 12 B _ 8 (by decide)]; rfl)
  have k9 : wE.cell? ⟨T, 9, none⟩ = some (.slice (some ⟨B 9, 0, none⟩) 12 12) := (hE.cell 9).trans (by rw [tops_get 12 B _ 9 (by decide)]; rfl)
  have k10 : wE.cell? ⟨T, 10, none⟩ = some (.slice (some ⟨B 10, 0, none⟩) 12 12) := (hE.cell 10).trans (by rw [tops_get 12 B _ 10 (by decide)]; rfl)
  have k11 : wE.cell? ⟨T, 11, none⟩ = some (.slice (some ⟨B 11, 0, none⟩) 12 12) := (hE.cell 11).trans (by rw [tops_get 12 B _ 11 (by decide)]; rfl)
  have hTE : T < wE.heap.size := Nat.lt_of_lt_of_le hTl BwE.size
  clear hE
  go_wp2_with fail
  refine Calls.mono (may_any _ (oneM 12 ++ [(oneM 12).getD 0 []]) _ ?HX) ?_
  case HX =>
    refine mat13 (B := B) (Has.new _ _ _ 32 (by simp)) ?_ ?_ (HB.out _ (by repeat (first | exact BR | assumption | apply bdrew | apply balloc)))
    · refine (fall ?_ (fall ?_ (fall ?_ (fall ?_ (fall ?_ (fall ?_ (fall ?_ (fall ?_ (fall ?_ (fall ?_ (fall ?_ (fall ?_ (fun d hd => absurd hd (Nat.not_lt_zero d))))))))))))))
      all_goals (rw [Array.getElem?_append_left (by simp)]; rfl)
    · rw [Array.getElem?_append_left (by simp)]; rfl
  rintro e wF ⟨rfl, hwF⟩
  have BwF : Below w18.heap.size w18 wF := by rw [hwF]; repeat (first | exact BR | assumption | apply bdrew | apply balloc)
  rw [show mayM (oneM 12 ++ [(oneM 12).getD 0 []]) = false by decide +kernel]
  clear hwF k0 k1 k2 k3 k4 k5 k6 k7 k8 k9 k10 k11
  go_wp2_with fail
  refine (may_any _ [[7]] _ (mat1 (l0 := [7]) (Has.new _ _ _ 32 (by simp)) ((Has.new _ _ (U8s [7]) 5 rfl).alloc _) (by decide) (by decide))).mono ?_
  rintro e wG ⟨rfl, hwG⟩
  have BwG : Below w18.heap.size w18 wG := (by rw [hwG]; repeat (first | exact BR | assumption | apply bdrew | apply balloc))
  rw [show mayM [[7]] = true by decide +kernel]
  clear hwG
  go_wp2_with fail
  refine (mayCode_any 1 1 _).mono ?_
  rintro e wH ⟨rfl, cwH⟩
  have BwH : Below w18.heap.size w18 wH := belowCall BwG cwH
  rw [show mayC 1 1 = true by decide +kernel]
  go_wp2_with fail
  refine (mayCode_any 12 12 _).mono ?_
  rintro e wI ⟨rfl, cwI⟩
  have BwI : Below w18.heap.size w18 wI := belowCall BwH cwI
  rw [show mayC 12 12 = true by decide +kernel]
  go_wp2_with fail
  refine (mayCode_any (-1) 1 _).mono ?_
  rintro e wJ ⟨rfl, cwJ⟩
  have BwJ : Below w18.heap.size w18 wJ := belowCall BwI cwJ
  rw [show mayC (-1) 1 = false by decide +kernel]
  go_wp2_with fail
  refine (same_any _ _ (oneM 12) [] _ (HM.out _ BwJ).1 (Mat.nil _)).mono ?_
  rintro e wK ⟨rfl, cwK⟩
  have BwK : Below w18.heap.size w18 wK := belowCall (w := w18) (by repeat (first | exact BR | assumption | apply bdrew | apply balloc)) cwK
  rw [show decide ((oneM 12) = []) = false by decide +kernel]
  go_wp2_with fail
  refine (same_any _ _ [] [] _ (Mat.nil _) (Mat.nil _)).mono ?_
  rintro e wL ⟨rfl, cwL⟩
  have BwL : Below w18.heap.size w18 wL := belowCall (w := w18) (by repeat (first | exact BR | assumption | apply bdrew | apply balloc)) cwL
  rw [show decide ([] = []) = true by decide +kernel]
  go_wp2_with fail
  refine (same_any _ _ [[1]] [[2]] _ (mat1 (l0 := [1]) (((Has.new _ _ _ 32 (by simp)).alloc _).alloc _) ((((Has.new _ _ (U8s [1]) 5 rfl).alloc _).alloc _).alloc _) (by decide) (by decide)) (mat1 (l0 := [2]) (Has.new _ _ _ 32 (by simp)) ((Has.new _ _ (U8s [2]) 5 (by simp)).alloc _) (by decide) (by decide))).mono ?_
  rintro e wM ⟨rfl, cwM⟩
  have BwM : Below w18.heap.size w18 wM := belowCall (w := w18) (by repeat (first | exact BR | assumption | apply bdrew | apply balloc)) cwM
  rw [show decide ([[1]] = [[2]]) = false by decide +kernel]
  go_wp2_with fail
  go_ret
  exact ⟨rfl, belowCall B18 BwM⟩
end Go.Proofs.Ytnihohcdamhidaa
