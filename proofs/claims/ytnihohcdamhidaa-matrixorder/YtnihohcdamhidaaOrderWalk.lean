/- The walk of MatrixOrder. -/
import Derived.Test.YtnihohcdamhidaaWorks
import Derived.Test.YtnihohcdamhidaaOrd
namespace Go.Proofs.Ytnihohcdamhidaa
open Go.RowKit
theorem okM_t {a b : List (List Nat)} (ha : mayM a = true) (hb : mayM b = true) (h : (a.getD 0 []).length = b.length) : errM a b = 0 ∧ ansM a b = mulM a b := by
  have : okM a b = true := by unfold okM; rw [ha, hb, decide_eq_true h]; rfl
  simp [errM, ansM, this]
theorem okM_f {a b : List (List Nat)} (h : (a.getD 0 []).length ≠ b.length) : errM a b = 4 := by
  have : okM a b = false := by unfold okM; rw [decide_eq_false h]; simp
  simp [errM, this]
theorem okV_t {a : List (List Nat)} {v : List Nat} (ha : mayM a = true) (h : (a.getD 0 []).length = v.length) : errV a v = 0 ∧ ansV a v = mulV a v := by
  have : okV a v = true := by unfold okV; rw [ha, decide_eq_true h]; rfl
  simp [errV, ansV, this]
theorem okV_f {a : List (List Nat)} {v : List Nat} (h : (a.getD 0 []).length ≠ v.length) : errV a v = 4 := by
  have : okV a v = false := by unfold okV; rw [decide_eq_false h]; simp
  simp [errV, this]
theorem one_ok {n : Nat} (h1 : 1 ≤ n) (h2 : n ≤ 12) : err1 (n : Int) = 0 ∧ ans1 (n : Int) = oneM n := by
  have : okN (n : Int) = true := by unfold okN; rw [decide_eq_true_iff]; omega
  simp [err1, ans1, this]
set_option maxRecDepth 20000 in
set_option maxHeartbeats 8000000 in
theorem order_t (va vb vc vv vz : Value) (a b c : List (List Nat)) (l : List Nat) (zs : List Int) (w : World) (ha : Mat w va a) (hb : Mat w vb b) (hc : Mat w vc c) (hv : Row8 w vv l) (hz : Ints w vz zs)
    (ma : mayM a = true) (mb : mayM b = true) (mc : mayM c = true) (hz2 : zs.length ≤ 200) :
    Calls Try.prog 6 #[va, vb, vc, vv, vz] w fun e w' => e = .returned (.bool true) ∧ Below w.heap.size w w' := by
  have sa := ha.small
  have sb := hb.small
  have sc := hc.small
  obtain ⟨f1, f2, f3, f4, f5⟩ := mayM_facts ma
  obtain ⟨g1, g2, g3, g4, g5⟩ := mayM_facts mb
  have sv : ∀ x ∈ l, x < 256 := hv.choose_spec.choose_spec.2.2.1
  have HV : Hid (∀ W, Below w.heap.size w W → Mat W va a ∧ Mat W vb b ∧ Mat W vc c ∧ Row8 W vv l ∧ Ints W vz zs) := fun W hW => ⟨ha.below hW, hb.below hW, hc.below hW, hv.below hW, hz.below hW⟩
  obtain ⟨ga, oa, capa, eva, hga, hra⟩ := ha.may ma
  obtain ⟨gb, ob, capb, evb, hgb, hrb⟩ := hb.may mb
  obtain ⟨gc, oc, capc, evc, hgc, hrc⟩ := hc.may mc
  obtain ⟨gr, q, cr, hgr, kr, _⟩ := hra 0 (by omega)
  simp only [Nat.add_zero] at kr
  have KR : Hid (∀ W, Below w.heap.size w W → W.cell? ⟨ga, oa, none⟩ = some (.slice (some ⟨gr, q, none⟩) (a.getD 0 []).length cr)) := fun W hW => cell_below hW hga kr
  obtain ⟨az, cz, evz, _⟩ := hz
  subst eva evb evc evz
  have dz : decide ((200 : Int) < (zs.length : Int)) = false := by simp; omega
  have o1 := one_ok (n := a.length) f1 f2
  have o2 := one_ok (n := (a.getD 0 []).length) f3 f4
  have hl1 : (oneM a.length).length = a.length := by rw [oneM, grid_length]
  have hc1 : ((oneM a.length).getD 0 []).length = a.length := by rw [oneM, grid_row_length _ _ _ _ (by omega)]
  have hl2 : (oneM (a.getD 0 []).length).length = (a.getD 0 []).length := by rw [oneM, grid_length]
  have p1 := okM_t (oneM_may f1 f2) ma hc1
  have p2 := okM_t ma (oneM_may f3 f4) hl2.symm
  rw [one_mul' ma sa] at p1
  rw [mul_one' ma sa] at p2
  have bn : (0 : Int) < (a.length : Int) := by omega
  have bnb : (0 : Int) < (b.length : Int) := by omega
  clear hra hrb hrc ha hb hc kr
  go_enter Try.func6, Try.ntmps6
  go_wp2_with fail
  refine (works_true w).mono ?_
  rintro e w1 ⟨rfl, b1⟩
  go_wp2_with fail
  refine (may_any _ a w1 (HV.out _ b1).1).mono ?_
  rintro e w1' ⟨rfl, rfl⟩
  rw [ma]
  go_wp2_with fail
  refine (may_any _ b w1' (HV.out _ b1).2.1).mono ?_
  rintro e w1 ⟨rfl, rfl⟩
  rw [mb]
  go_wp2_with fail
  refine (may_any _ c w1 (HV.out _ b1).2.2.1).mono ?_
  rintro e w1' ⟨rfl, rfl⟩
  rw [mc]
  go_wp2_with fail
  refine (one_any (a.length : Int) w1').mono ?_
  rintro e w2 ⟨vl, rfl, hL, b2⟩
  rw [o1.1]
  rw [o1.2] at hL
  have B2 := belowCall b1 b2
  have k2 := KR.out _ B2
  go_wp2_with fail
  refine (one_any ((a.getD 0 []).length : Int) w2).mono ?_
  rintro e w3 ⟨vr, rfl, hR, b3⟩
  rw [o2.1]
  rw [o2.2] at hR
  have B3 := belowCall B2 b3
  clear k2
  go_wp2_with fail
  refine (mul_any' vl _ _ a w3 (hL.below b3).mat (HV.out _ B3).1).mono ?_
  rintro e w4 ⟨vx, rfl, hX, b4⟩
  rw [p1.1]
  rw [p1.2] at hX
  have B4 := belowCall B3 b4
  go_wp2_with fail
  refine (mul_any' _ vr a _ w4 (HV.out _ B4).1 (hR.below b4).mat).mono ?_
  rintro e w5 ⟨vy, rfl, hY, b5⟩
  rw [p2.1]
  rw [p2.2] at hY
  have B5 := belowCall B4 b5
  go_wp2_with fail
  refine (same_any vx _ a a w5 (hX.below b5).mat (HV.out _ B5).1).mono ?_
  rintro e w6 ⟨rfl, b6⟩
  rw [decide_eq_true rfl]
  have B6 := belowCall B5 b6
  go_wp2_with fail
  refine (same_any vy _ a a w6 (hY.below b6).mat (HV.out _ B6).1).mono ?_
  rintro e w7 ⟨rfl, b7⟩
  rw [decide_eq_true rfl]
  have B7 := belowCall B6 b7
  clear hL hR hX hY b2 b3 b4 b5 b6 b7 B2 B3 B4 B5 B6 p1 p2 o1 o2 hl1 hc1 hl2
  go_wp2_with fail
  refine (mul_any' _ _ a b w7 (HV.out _ B7).1 (HV.out _ B7).2.1).mono ?_
  rintro e w8 ⟨vab, rfl, hAB, b8⟩
  have B8 := belowCall B7 b8
  have k8 := KR.out _ B8
  by_cases hab : (a.getD 0 []).length = b.length
  · obtain ⟨e1, e2⟩ := okM_t ma mb hab
    rw [e1]
    rw [e2] at hAB
    rw [hab] at k8
    have x1 : ((b.length : Int) == (b.length : Int)) = true := by simp
    have mab := mulM_may ma mb
    have hcab : ((mulM a b).getD 0 []).length = (b.getD 0 []).length := mulM_row_length a b 0 (by omega)
    have sab := mulM_small a b
    have eR : errR (mulM a b) zs = errR a zs := by unfold errR; rw [mab, ma, goodR_mul]
    have xR : (errR a zs != errR a zs) = false := by simp
    clear dz
    go_wp2_with fail
    refine (rows_any _ _ a zs w8 (HV.out _ B8).1 (HV.out _ B8).2.2.2.2).mono ?_
    rintro e w9 ⟨vra, rfl, hRa, b9⟩
    have B9 := belowCall B8 b9
    clear k8
    go_wp2_with fail
    refine (rows_any vab _ (mulM a b) zs w9 (hAB.below b9).mat (HV.out _ B9).2.2.2.2).mono ?_
    rintro e w10 ⟨vrs, rfl, hRs, b10⟩
    rw [eR]
    have B10 := belowCall B9 b10
    have hAB10 := (hAB.below b9).below b10
    cases hg : goodR a zs
    case' false =>
      have e3 : errR a zs = 1 := by simp [errR, ma, hg]
      rw [e3] at xR ⊢
      go_wp2_with fail
      obtain ⟨wR, hwR⟩ : ∃ x, x = w10 := ⟨_, rfl⟩
      subst hwR
      have BR := B10
      have hABR := hAB10
      clear B10 hAB10 hRa hRs b9 b10 B9 hAB b8 e1 e2 hg
    case' true =>
      have e3 : errR a zs = 0 := by simp [errR, ma, hg]
      have e4 : ansR a zs = rowsM a zs := by simp [ansR, ma, hg]
      have e5 : ansR (mulM a b) zs = rowsM (mulM a b) zs := by simp [ansR, mab, goodR_mul, hg]
      rw [e3] at xR ⊢
      rw [e4] at hRa
      rw [e5] at hRs
      obtain ⟨m1, m2⟩ := rowsM_may ma hg
      obtain ⟨q1, q2⟩ := okM_t m1 mb (m2.trans hab)
      go_wp2_with fail
      refine (mul_any' vra _ (rowsM a zs) b w10 (hRa.below b10).mat (HV.out _ B10).2.1).mono ?_
      rintro e w11 ⟨vt, rfl, hT, b11⟩
      rw [q1]
      rw [q2, rows_mul a b zs hg] at hT
      have B11 := belowCall B10 b11
      go_wp2_with fail
      refine (same_any vt vrs _ _ w11 hT.mat (hRs.below b11).mat).mono ?_
      rintro e w12 ⟨rfl, b12⟩
      rw [decide_eq_true rfl]
      have B12 := belowCall B11 b12
      have hAB12 := (hAB10.below b11).below b12
      go_wp2_with fail
      obtain ⟨wR, hwR⟩ : ∃ x, x = w12 := ⟨_, rfl⟩
      subst hwR
      have BR := B12
      have hABR := hAB12
      clear B10 B11 B12 hAB10 hAB12 hRa hRs hT b9 b10 b11 b12 B9 hAB b8 e1 e2 hg e4 e5 m1 m2 q1 q2
    all_goals
      refine (vec_any _ _ b l wR (HV.out _ BR).2.1 (HV.out _ BR).2.2.2.1).mono ?_
      rintro e wu ⟨vu, rfl, hU, bu⟩
      have Bu := belowCall BR bu
      by_cases hbv : (b.getD 0 []).length = l.length
      case' pos =>
        obtain ⟨y1, y2⟩ := okV_t mb hbv
        rw [y1]
        rw [y2] at hU
        have hul : (mulV b l).length = b.length := by simp [mulV]
        obtain ⟨y3, y4⟩ := okV_t (v := mulV b l) ma (hab.trans hul.symm)
        obtain ⟨y5, y6⟩ := okV_t (v := l) mab (hcab.trans hbv)
        have y7 := vec_vec ma mb sa sb sv hab hbv
        go_wp2_with fail
        refine (vec_any _ vu a _ wu (HV.out _ Bu).1 hU.row).mono ?_
        rintro e wv ⟨vw, rfl, hWv, bv⟩
        rw [y3]
        rw [y4, y7] at hWv
        have Bv := belowCall Bu bv
        have hABv := (hABR.below bu).below bv
        go_wp2_with fail
        refine (vec_any vab _ _ l wv hABv.mat (HV.out _ Bv).2.2.2.1).mono ?_
        rintro e wz ⟨vzz, rfl, hZz, bz⟩
        rw [y5]
        rw [y6] at hZz
        have Bz := belowCall Bv bz
        have hABz := hABv.below bz
        have c1 := conv_row (hWv.below bz).row
        have c2 := conv_row hZz.row
        have c3 : ((ofBs (mulV (mulM a b) l)).toList == (ofBs (mulV (mulM a b) l)).toList) = true := str_eq _
        go_wp2_with fail
        obtain ⟨wV, hwV⟩ : ∃ x, x = wz := ⟨_, rfl⟩
        subst hwV
        have BV := Bz
        have hABV := hABz
        clear Bz hABz hABv Bv Bu hWv hZz hU y1 y2 y3 y4 y5 y6 y7 c1 c2 c3 bz bv bu
      case' neg =>
        have y1 := okV_f hbv
        rw [y1]
        have hABu := hABR.below bu
        go_wp2_with fail
        obtain ⟨wV, hwV⟩ : ∃ x, x = wu := ⟨_, rfl⟩
        subst hwV
        have BV := Bu
        have hABV := hABu
        clear Bu hABu hU y1 bu
      all_goals
        clear hABR BR
        refine (mul_any' vab _ (mulM a b) c wV hABV.mat (HV.out _ BV).2.2.1).mono ?_
        rintro e wp ⟨vp, rfl, hP, bp⟩
        have Bp := belowCall BV bp
        have hABp := hABV.below bp
        by_cases hac : (b.getD 0 []).length = c.length
        · obtain ⟨z1, z2⟩ := okM_t mab mc (hcab.trans hac)
          obtain ⟨z3, z4⟩ := okM_t mb mc hac
          obtain ⟨z5, z6⟩ := okM_t (b := mulM b c) ma (mulM_may mb mc) (by rw [mulM_length]; exact hab)
          have z7 := mul_mul ma mb mc sa sb sc hab hac
          rw [z1]
          rw [z2, z7] at hP
          go_wp2_with fail
          refine (mul_any' _ _ b c wp (HV.out _ Bp).2.1 (HV.out _ Bp).2.2.1).mono ?_
          rintro e wq ⟨vq, rfl, hQ, bq⟩
          rw [z3]
          rw [z4] at hQ
          have Bq := belowCall Bp bq
          go_wp2_with fail
          refine (mul_any' _ vq a _ wq (HV.out _ Bq).1 hQ.mat).mono ?_
          rintro e ws ⟨vs, rfl, hS, bs⟩
          rw [z5]
          rw [z6] at hS
          have Bs := belowCall Bq bs
          go_wp2_with fail
          refine (same_any vp vs _ _ ws ((hP.below bq).below bs).mat hS.mat).mono ?_
          rintro e wf ⟨rfl, bf⟩
          rw [decide_eq_true rfl]
          have Bf := belowCall Bs bf
          go_wp2_with fail
          go_ret
          exact ⟨rfl, Bf⟩
        · have z1 : errM (mulM a b) c = 4 := okM_f (by rw [hcab]; exact hac)
          rw [z1]
          obtain ⟨gx, ox, cx, ex, hgx, hrx⟩ := hABp.mat.may mab
          obtain ⟨gy, qy, cy, _, ky, _⟩ := hrx 0 (by rw [mulM_length]; omega)
          simp only [Nat.add_zero] at ky
          rw [hcab] at ky
          have hlab := mulM_length a b
          rw [hlab] at ex
          subst ex
          have hne : (((b.getD 0 []).length : Int) != (c.length : Int)) = true := bne_iff_ne.2 (by omega)
          clear hrx hbv
          generalize (b.getD 0 []).length = cb at *
          go_wp2_with fail
          go_ret
          exact ⟨rfl, Bp⟩
  · have e1 := okM_f hab
    rw [e1]
    have x1 : (((a.getD 0 []).length : Int) == (b.length : Int)) = false := by rw [beq_eq_false_iff_ne]; omega
    go_wp2_with fail
    all_goals go_ret
    all_goals exact ⟨rfl, B8⟩
set_option maxRecDepth 20000 in
set_option maxHeartbeats 4000000 in
theorem order_walk (va vb vc vv vz : Value) (a b c : List (List Nat)) (l : List Nat) (zs : List Int) (w : World) (ha : Mat w va a) (hb : Mat w vb b) (hc : Mat w vc c) (hv : Row8 w vv l) (hz : Ints w vz zs) :
    Calls Try.prog 6 #[va, vb, vc, vv, vz] w fun e w' => e = .returned (.bool true) ∧ Below w.heap.size w w' := by
  cases ma : mayM a
  · go_enter Try.func6, Try.ntmps6
    go_wp2_with fail
    refine (works_true w).mono ?_
    rintro e w1 ⟨rfl, b1⟩
    go_wp2_with fail
    refine (may_any _ a w1 (ha.below b1)).mono ?_
    rintro e w1' ⟨rfl, rfl⟩
    rw [ma]
    go_wp2_with fail
    refine (works_true w1').mono ?_
    rintro e w2 ⟨rfl, b2⟩
    go_wp2_with fail
    go_ret
    exact ⟨rfl, belowCall b1 b2⟩
  cases mb : mayM b
  · go_enter Try.func6, Try.ntmps6
    go_wp2_with fail
    refine (works_true w).mono ?_
    rintro e w1 ⟨rfl, b1⟩
    go_wp2_with fail
    refine (may_any _ a w1 (ha.below b1)).mono ?_
    rintro e w1' ⟨rfl, rfl⟩
    rw [ma]
    go_wp2_with fail
    refine (may_any _ b w1' (hb.below b1)).mono ?_
    rintro e w1 ⟨rfl, rfl⟩
    rw [mb]
    go_wp2_with fail
    refine (works_true w1).mono ?_
    rintro e w2 ⟨rfl, b2⟩
    go_wp2_with fail
    go_ret
    exact ⟨rfl, belowCall b1 b2⟩
  cases mc : mayM c
  · go_enter Try.func6, Try.ntmps6
    go_wp2_with fail
    refine (works_true w).mono ?_
    rintro e w1 ⟨rfl, b1⟩
    go_wp2_with fail
    refine (may_any _ a w1 (ha.below b1)).mono ?_
    rintro e w1' ⟨rfl, rfl⟩
    rw [ma]
    go_wp2_with fail
    refine (may_any _ b w1' (hb.below b1)).mono ?_
    rintro e w1 ⟨rfl, rfl⟩
    rw [mb]
    go_wp2_with fail
    refine (may_any _ c w1 (hc.below b1)).mono ?_
    rintro e w1' ⟨rfl, rfl⟩
    rw [mc]
    go_wp2_with fail
    refine (works_true w1').mono ?_
    rintro e w2 ⟨rfl, b2⟩
    go_wp2_with fail
    go_ret
    exact ⟨rfl, belowCall b1 b2⟩
  by_cases hz2 : zs.length ≤ 200
  · exact order_t va vb vc vv vz a b c l zs w ha hb hc hv hz ma mb mc hz2
  · obtain ⟨az, cz, rfl, _⟩ := hz
    have dz : decide ((200 : Int) < (zs.length : Int)) = true := by simp; omega
    go_enter Try.func6, Try.ntmps6
    go_wp2_with fail
    refine (works_true w).mono ?_
    rintro e w1 ⟨rfl, b1⟩
    go_wp2_with fail
    refine (may_any _ a w1 (ha.below b1)).mono ?_
    rintro e w1' ⟨rfl, rfl⟩
    rw [ma]
    go_wp2_with fail
    refine (may_any _ b w1' (hb.below b1)).mono ?_
    rintro e w1 ⟨rfl, rfl⟩
    rw [mb]
    go_wp2_with fail
    refine (may_any _ c w1 (hc.below b1)).mono ?_
    rintro e w1' ⟨rfl, rfl⟩
    rw [mc]
    go_wp2_with fail
    refine (works_true w1').mono ?_
    rintro e w2 ⟨rfl, b2⟩
    go_wp2_with fail
    go_ret
    exact ⟨rfl, belowCall b1 b2⟩
end Go.Proofs.Ytnihohcdamhidaa
