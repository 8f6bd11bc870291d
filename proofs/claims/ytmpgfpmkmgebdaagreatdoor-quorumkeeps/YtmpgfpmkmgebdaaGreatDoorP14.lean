/- Quorum: a manifest is put into a store's slot. -/
import Derived.Test.YtmpgfpmkmgebdaaGreatDoorP11
namespace Go.Proofs.YtmpgfpmkmgebdaaGreatDoor
open Go.RowKit Go.Maps
open W
set_option linter.unusedVariables false
def stH (g i k : Nat) (bb : Bst) (s : Nat) (v : Value) (_ : World) : Prop := match s with
  | 27 => v = .pointer (some ⟨g, i * 13, none⟩) | 28 => v = .int .i64 (k : Int) | 29 => v = .agg (rV ⟨true, bb⟩).toArray | 30 => v = .pointer (some ⟨g, i * 13, none⟩)
  | 31 => v = .pointer (some ⟨g, i * 13 + 1, none⟩) | 32 => v = .pointer (some ⟨g, i * 13 + 1 + k * 6, none⟩)
  | _ => True
def ptH (b : Nat) (i : Int) (k : Nat) (d : ByteArray) (s : Nat) (v : Value) (_ : World) : Prop := match s with
  | 15 => v = .pointer (some ⟨b, 0, none⟩) | 16 => v = .int .i64 i | 17 => v = .int .i64 (k : Int) | 18 => v = .string (mn k) | 19 => v = .string d | 20 => v = obv (mn k) d
  | _ => True
section
variable {ev : Operand → Value} {o : Oper} {w : World} {x y : Operand}
theorem rn_load27 {g : Nat} {v : Value} (ho : o.op = .load 27 x) (hx : ev x = .pointer (some ⟨g, 0, none⟩)) (hc : w.cell? ⟨g, 0, none⟩ = some v) : (execOp ev o).run Tryz.prog w = .ok (.value v) w := by
  simp [execOp, ho, hx, go_sem, hc]
theorem rn_load9q {g : Nat} {v : Value} (ho : o.op = .load 9 x) (hx : ev x = .pointer (some ⟨g, 0, none⟩)) (hc : w.cell? ⟨g, 0, none⟩ = some v) : (execOp ev o).run Tryz.prog w = .ok (.value v) w := by
  simp [execOp, ho, hx, go_sem, hc]
theorem rn_build131 {a c : ByteArray} (ho : o.op = .build 131 #[(0, x), (1, y)]) (hx : ev x = .string a) (hy : ev y = .string c) : (execOp ev o).run Tryz.prog w = .ok (.value (obv a c)) w := by
  simp [execOp, ho, hx, hy, go_sem, obv]
theorem rn_load34 {g : Nat} {bb : Bst} (ho : o.op = .load 34 x) (hx : ev x = .pointer (some ⟨g, 0, none⟩)) (hc : Has w g (bV bb).toArray 34) : (execOp ev o).run Tryz.prog w = .ok (.value (.agg (bV bb).toArray)) w := by
  have c0 := hc.cell 0
  have c1 := hc.cell 1
  have c2 := hc.cell 2
  have c3 := hc.cell 3
  have c4 := hc.cell 4
  simp only [bV, List.getElem?_toArray, List.getElem?_cons_zero, List.getElem?_cons_succ] at c0 c1 c2 c3 c4
  simp [execOp, ho, hx, go_sem, c0, c1, c2, c3, c4, bV]
theorem rn_load105 {g : Nat} {r : Rp} (ho : o.op = .load 105 x) (hx : ev x = .pointer (some ⟨g, 0, none⟩)) (hc : Has w g (rV r).toArray 105) : (execOp ev o).run Tryz.prog w = .ok (.value (.agg (rV r).toArray)) w := by
  have c0 := hc.cell 0
  have c1 := hc.cell 1
  have c2 := hc.cell 2
  have c3 := hc.cell 3
  have c4 := hc.cell 4
  have c5 := hc.cell 5
  simp only [rV, bV, List.getElem?_toArray, List.getElem?_cons_zero, List.getElem?_cons_succ] at c0 c1 c2 c3 c4 c5
  simp [execOp, ho, hx, go_sem, c0, c1, c2, c3, c4, c5, rV, bV]
end
theorem ens50 (args : Array Value) (w : World) : (callFunc 50 args).run Tryz.prog w = .ok (.enter 50 args) w := by kernel_rfl
theorem ens66 (args : Array Value) (w : World) : (callFunc 69 args).run Tryz.prog w = .ok (.enter 69 args) w := by kernel_rfl
/-- a call at the end of a drawn part -/
theorem wp_call {o : Oper} {a : Act} {w : World} {K : Act → World → Prop} {Q : Exit → Act → World → Prop} {f : FuncId} {args : Array Value} (hr : (execOp a.eval o).run Tryz.prog w = .ok (.enter f args) w) (h : Calls Tryz.prog f args w fun e w' => ∃ v, e = .returned v ∧ K (a.put o.dst v) w') : o.wp Tryz.prog a w K Q := by
  unfold Oper.wp
  rw [hr]
  refine h.mono ?_
  rintro e w' ⟨v, rfl, hk⟩
  exact hk
set_option maxHeartbeats 8000000 in
set_option maxRecDepth 20000 in
theorem putter_do {w0 w : World} {b g N qs qw qd qb : Nat} {P : Nat → Prop} {oe og : Int} {bb : Bst} (hl : F.Lay w0) (hs : Has w qs #[.func (.func 38) #[.agg #[.int .i64 oe, .int .i64 og]] #[]] 88) (hw : Has w qw #[ptr b] 27) (hd : Has w qd #[.string (mdat bb)] 9) (hb : Has w qb (rV ⟨true, bb⟩).toArray 105) (h1 : P qs) (h2 : P qw) (h3 : P qd) (h4 : P qb) (hbb : mErr bb = 0) (hg0 : w0.heap.size ≤ g) :
    DoIs w0 w b g N P 68 #[.pointer (some ⟨qs, 0, none⟩), .pointer (some ⟨qw, 0, none⟩), .pointer (some ⟨qd, 0, none⟩), .pointer (some ⟨qb, 0, none⟩)] (putD bb oe og) := by
  intro T W V l i h m hPT hTg hwt hkp hA hok hm hh hi
  have c1 : W.cell? ⟨qs, 0, none⟩ = some (.func (.func 38) #[.agg #[.int .i64 oe, .int .i64 og]] #[]) := (hkp.has h1 hs).cell 0
  have HSL := slot_any oe og g (i * 13) h W (hA.hd hh) hA.lt
  have HWT := hid hwt
  have HK := hid hkp
  have HKW := hid hkp
  have HA := hid hA
  have HOK := hid hok
  have HH := hid hh
  have HPT := hid hPT
  have HTG := hid hTg
  have HW := hid hw
  have HD := hid hd
  have HBB := hid hb
  have HL := hid hl
  have HE0 := hid hbb
  obtain ⟨k, hk⟩ : ∃ k, k = slt oe og h := ⟨_, rfl⟩
  have hk1 : k ≤ 1 := by rw [hk]; exact slt_le oe og h
  rw [← hk] at HSL
  have HKK := hid hk
  clear hwt hkp hA hok hh hPT hTg hs hw hd hb hl hk hbb
  simp only [List.append_toArray, List.cons_append, List.nil_append]
  go_enter Tryz.func68, Tryz.ntmps68
  go_wp2_with fail
  refine HSL.mono ?_
  rintro e w1 ⟨rfl, hb1⟩
  clear HSL c1
  have HW1 := hid (HWT.out.below hb1)
  have HA1 := hid (HA.out.below hb1)
  have HK1 := hid (HK.out.trans ((Kpt.below HWT.out hb1).sub fun j hj => .inl (HPT.out j hj)))
  have HKT1 := hid ((Kpt.below HWT.out hb1).sub (T' := T) fun j hj => .inl hj)
  have hqw : Has w1 qw #[ptr b] 27 := HK1.out.has h2 HW.out
  have hqd : Has w1 qd #[.string (mdat bb)] 9 := HK1.out.has h3 HD.out
  have hqwl := hqw.lt
  have hqdl := hqd.lt
  have e0 : w1.cell? ⟨qw, 0, none⟩ = some (.pointer (some ⟨b, 0, none⟩)) := hqw.cell 0
  have e1 : w1.cell? ⟨qd, 0, none⟩ = some (.string (mdat bb)) := hqd.cell 0
  clear hb1 hqw hqd
  go_wp2_with fail
  refine Tl.wp_mix_lit (by kernel_rfl) 6 [15, 16, 17, 18, 19, 20] 40 rfl (by kernel_rfl) (BelW w1) (ptH b (i : Int) k (mdat bb)) ((Below.refl _ _).drew)
    ⟨fun a' W' hC hF => ?_, fun a' W' hC hF => ?_, fun a' W' hC hF => ?_, fun a' W' hC hF => ?_, fun a' W' hC hF => ?_, fun a' W' hC hF => ?_, trivial⟩ ?_
  · exact Tl.sm_v 15 _ rfl (Tl.wanted_none rfl) hC rfl (rn_load27 rfl ((hF 3 (by decide +kernel)).2 (by decide)) (BelW.cell hC (p := ⟨qw, 0, none⟩) hqwl e0))
  · exact Tl.sm_v 16 _ rfl (Tl.wanted_none rfl) hC rfl (rn_move rfl ((hF 0 (by decide +kernel)).2 (by decide)))
  · exact Tl.sm_v 17 _ rfl (Tl.wanted_none rfl) hC rfl (rn_move rfl ((hF 9 (by decide +kernel)).2 (by decide)))
  · refine Tl.sm_call 50 #[_] (Tl.wanted_none rfl) (rn_call1 rfl rfl ((hF 17 (by decide +kernel)).1 (by decide)) (ens50 _ _)) ((name_any k hk1 W' ((HW1.out.below hC).lay HL.out)).mono ?_)
    rintro e w'' ⟨rfl, hb⟩
    exact ⟨_, rfl, Below.trans hC (hb.mono (Below.size hC)), fun d v _ h => h, fun d hd => by cases hd; rfl⟩
  · exact Tl.sm_v 19 _ rfl (Tl.wanted_none rfl) hC rfl (rn_load9q rfl ((hF 4 (by decide +kernel)).2 (by decide)) (BelW.cell hC (p := ⟨qd, 0, none⟩) hqdl e1))
  · exact Tl.sm_v 20 _ rfl (Tl.wanted_none rfl) hC rfl (rn_build131 rfl ((hF 18 (by decide +kernel)).1 (by decide)) ((hF 19 (by decide +kernel)).1 (by decide)))
  intro v w2 hw2 hv
  have v15 : v 15 = .pointer (some ⟨b, 0, none⟩) := hv 15 (by decide)
  have v16 : v 16 = .int .i64 (i : Int) := hv 16 (by decide)
  have v20 : v 20 = obv (mn k) (mdat bb) := hv 20 (by decide)
  have hB2 : Below w1.heap.size w1 w2 := hw2
  clear hv hw2
  simp only [Tl.fill, List.drop_succ_cons, List.drop_zero, wpList]
  simp only [Act.put, List.setIfInBounds_toArray, List.set_cons_succ, List.set_cons_zero, v15, v16, v20]
  clear v15 v16 v20
  rw [if_pos (Tl.wanted_none rfl)]
  left
  have HP := (HW1.out.below hB2).put (by have := HOK.out.calls; omega) HOK.out.left (fun x hx => HOK.out.fit x hx) (by omega) (i : Int) (mn k) (mdat bb)
  have hA2 := HA1.out.below hB2
  have hK2 := HK1.out.trans ((Kpt.below HW1.out hB2).sub fun j hj => .inl (HPT.out j hj))
  have hKT2 := HKT1.out.trans ((Kpt.below HW1.out hB2).sub (T' := T) fun j hj => .inl hj)
  clear hB2 HW1 HA1 HK1 HKT1 e0 e1 hqwl hqdl
  refine wp_call (f := 69) (args := #[ptr b, .int .i64 (i : Int), obv (mn k) (mdat bb)]) (rn_call3 rfl rfl rfl rfl rfl (ens66 _ _)) (HP.mono ?_)
  rintro e w3 ⟨rfl, hw3, hk3⟩
  clear HP
  have HW3 := hid hw3
  have HA3 := hid (hA2.kpt hk3 (.inr rfl))
  have HK3 := hid (hK2.trans (hk3.sub fun j hj => .inl (HPT.out j hj)))
  have HKT3 := hid (hKT2.trans (hk3.sub (T' := T) fun j hj => .inl hj))
  have HOK3 := hid (HOK.out.put (i : Int) (mn k) (mdat bb))
  clear hw3 hk3 hA2 hK2 hKT2 HWT HA HK
  refine ⟨_, rfl, ?_⟩
  obtain ⟨ae, hae⟩ : ∃ ae, ae = (askS V (i : Int) fun s => putS s (mn k) (mdat bb)).1 := ⟨_, rfl⟩
  obtain ⟨aV, haV⟩ : ∃ aV, aV = (askS V (i : Int) fun s => putS s (mn k) (mdat bb)).2 := ⟨_, rfl⟩
  have HPD : Hid (putD bb oe og i h V = if ae = 56 then (56, h, aV) else if (askS aV (i : Int) sync).1 = 0 then (ae, (if ae = 0 then setR h k ⟨true, bb⟩ else h), (askS aV (i : Int) sync).2) else ((askS aV (i : Int) sync).1, (if ae = 0 then setR h k ⟨true, bb⟩ else h), (askS aV (i : Int) sync).2)) := hid (by
    unfold putD
    rw [← HKK.out]
    simp only
    rw [← hae, ← haV])
  rw [← hae]
  rw [← haV] at HW3 HOK3
  clear hae haV
  unfold er
  simp only [Act.put, List.setIfInBounds_toArray, List.set_cons_succ, List.set_cons_zero]
  rw [if_pos (Tl.wanted_none rfl)]
  left
  refine wp_assign (x := .tmp 21) (d := 10) (v := .int .i64 ae) rfl rfl rfl ?_
  simp only [Act.put, List.setIfInBounds_toArray, List.set_cons_succ, List.set_cons_zero]
  by_cases e56 : ae = 56
  · rw [if_pos e56] at HPD
    subst e56
    go_wp2_with fail
    refine ⟨rfl, _, results_tmp rfl _ _ _, ?_⟩
    rw [HPD.out]
    refine ⟨rfl, HW3.out, HKT3.out, ?_, HOK3.out.more (by omega), rfl⟩
    rw [show l.set i h = l from by obtain ⟨q1, q2⟩ := List.getElem?_eq_some_iff.1 HH.out; rw [← q2, List.set_getElem_self]]
    exact HA3.out
  · rw [if_neg e56] at HPD
    have q1 : (ae == 56) = false := by simpa using e56
    -- what stands behind the put: the list is as it was, or the slot is the manifest's
    obtain ⟨h', hh'⟩ : ∃ h', h' = if ae = 0 then setR h k ⟨true, bb⟩ else h := ⟨_, rfl⟩
    rw [← hh'] at HPD
    have hans : h'.ans = h.ans := by
      rw [hh']
      split
      · unfold setR
        split <;> rfl
      · rfl
    -- the sync, and what is answered
    have HFIN : Hid (∀ w5 (Q' : Ending → World → Prop), WT w0 w5 b aV (fun j => T j ∨ j = g) → Kpt T W w5 → AllAt w5 g (l.set i h') → (∀ ce cV w6, putD bb oe og i h V = (if ce = 0 then (ae, h', cV) else (ce, h', cV)) → WT w0 w6 b cV (fun j => T j ∨ j = g) → Kpt T W w6 → AllAt w6 g (l.set i h') → Ok (m + 2) N cV → Q' (.returned (er ce)) w6) → Calls Tryz.prog 70 #[.pointer (some ⟨b, 0, none⟩), .int .i64 (i : Int)] w5 Q') := hid fun w5 Q' a1 a2 a3 a4 => by
      refine (a1.sync (by have := HOK3.out.calls; omega) HOK3.out.left (i : Int)).mono ?_
      rintro e w6 ⟨rfl, b1, b2⟩
      exact a4 _ _ w6 HPD.out b1 (a2.trans (b2.sub fun j hj => .inl hj)) (a3.kpt b2 (.inr rfl)) (HOK3.out.sync (i : Int))
    have HAN := hid hans
    clear hans e56
    by_cases e0 : ae = 0
    · rw [if_pos e0] at hh'
      subst e0
      have hqb : Has w3 qb (rV ⟨true, bb⟩).toArray 105 := HK3.out.has h4 HBB.out
      have hqbl := hqb.lt
      have HQB := hid hqb
      clear hqb
      go_wp2_with fail
      refine Tl.wp_mix_lit (by kernel_rfl) 6 [27, 28, 29, 30, 31, 32] 40 rfl (by kernel_rfl) (BelW w3) (stH g i k bb) ((Below.refl _ _).drew)
        ⟨fun a' W' hC hF => ?_, fun a' W' hC hF => ?_, fun a' W' hC hF => ?_, fun a' W' hC hF => ?_, fun a' W' hC hF => ?_, fun a' W' hC hF => ?_, trivial⟩ ?_
      · exact Tl.sm_v 27 _ rfl (Tl.wanted_none rfl) hC rfl (rn_move rfl ((hF 1 (by decide +kernel)).2 (by decide)))
      · exact Tl.sm_v 28 _ rfl (Tl.wanted_none rfl) hC rfl (rn_move rfl ((hF 9 (by decide +kernel)).2 (by decide)))
      · exact Tl.sm_v 29 _ rfl (Tl.wanted_none rfl) hC rfl (rn_load105 rfl ((hF 5 (by decide +kernel)).2 (by decide)) (HQB.out.below hC hqbl))
      · exact Tl.sm_v 30 _ rfl (Tl.wanted_none rfl) hC rfl (rn_nilCheck rfl ((hF 27 (by decide +kernel)).1 (by decide)))
      · exact Tl.sm_v 31 _ rfl (Tl.wanted_none rfl) hC rfl (rn_f108 rfl ((hF 30 (by decide +kernel)).1 (by decide)))
      · exact Tl.sm_v 32 _ rfl (Tl.wanted_none rfl) hC rfl (rn_ix106 rfl ((hF 31 (by decide +kernel)).1 (by decide)) ((hF 28 (by decide +kernel)).1 (by decide)) hk1)
      intro v w4 hw4 hv
      have v30 : v 29 = .agg (rV ⟨true, bb⟩).toArray := hv 29 (by decide)
      have v33 : v 32 = .pointer (some ⟨g, i * 13 + 1 + k * 6, none⟩) := hv 32 (by decide)
      have hB4 : Below w3.heap.size w3 w4 := hw4
      clear hv hw4
      simp only [Tl.fill, List.drop_succ_cons, List.drop_zero, wpList]
      simp only [Act.put, List.setIfInBounds_toArray, List.set_cons_succ, List.set_cons_zero, v30, v33]
      clear v30 v33
      have hA4 := HA3.out.below hB4
      have hil : i < l.length := (List.getElem?_eq_some_iff.1 HH.out).1
      rw [if_pos (Tl.wanted_none rfl)]
      left
      apply wp_store6 (x := .tmp 32) (y := .tmp 29) (i := i * 13 + 1 + k * 6) (r := ⟨true, bb⟩) _ _ _ _ hA4 (by omega)
      rotate_left
      · rfl
      · rfl
      · rfl
      · rfl
      have ho5 := set6_only w4 g (i * 13 + 1 + k * 6) ⟨true, bb⟩
      have hA5 := hA4.slot HH.out hk1 ⟨true, bb⟩
      have hW5 := (HW3.out.below hB4).list (.inr rfl) hg0 ho5
      have hK5 : Kpt T W (set6 w4 g (i * 13 + 1 + k * 6) ⟨true, bb⟩) := (HKT3.out.trans ((Kpt.below HW3.out hB4).sub (T' := T) fun j hj => .inl hj)).trans ⟨ho5.size, fun j hj => ho5.block j ((HW3.out.below hB4).lt j (.inl hj)) fun e => HTG.out (e ▸ hj)⟩
      have hqw5 : Has (set6 w4 g (i * 13 + 1 + k * 6) ⟨true, bb⟩) qw #[ptr b] 27 := (HKW.out.trans (hK5.sub fun j hj => HPT.out j hj)).has h2 HW.out
      rw [← hh'] at hA5
      clear hA4 ho5 hB4
      generalize set6 w4 g (i * 13 + 1 + k * 6) ⟨true, bb⟩ = w5 at *
      have t0 : w5.cell? ⟨qw, 0, none⟩ = some (.pointer (some ⟨b, 0, none⟩)) := hqw5.cell 0
      clear hqw5 hh'
      go_wp2_with fail
      refine HFIN.out w5 _ hW5 hK5 hA5 ?_
      intro ce cV w6 g1 g2 g3 g4 g5
      clear hW5 hK5 hA5 t0
      unfold er
      by_cases hce : ce = 0
      · rw [if_pos hce] at g1
        subst hce
        have HG := hid (And.intro g1 (And.intro g2 (And.intro g3 (And.intro g4 g5))))
        clear g1 g2 g3 g4 g5
        go_wp2_with fail
        refine ⟨rfl, _, results_tmp rfl _ _ _, ?_⟩
        obtain ⟨g1, g2, g3, g4, g5⟩ := HG.out
        rw [g1]
        exact ⟨rfl, g2, g3, g4, g5, HAN.out⟩
      · have q9 : (ce != 0) = true := by simpa using hce
        rw [if_neg hce] at g1
        have HG := hid (And.intro g1 (And.intro g2 (And.intro g3 (And.intro g4 g5))))
        clear g1 g2 g3 g4 g5 hce
        go_wp2_with fail
        refine ⟨rfl, _, results_tmp rfl _ _ _, ?_⟩
        obtain ⟨g1, g2, g3, g4, g5⟩ := HG.out
        rw [g1]
        exact ⟨rfl, g2, g3, g4, g5, HAN.out⟩
    · rw [if_neg e0] at hh'
      have q2 : (ae == 0) = false := by simpa using e0
      have hW5 := HW3.out
      have hK5 := HKT3.out
      have hA5 : AllAt w3 g (l.set i h') := by
        rw [hh', show l.set i h = l from by obtain ⟨q1, q2⟩ := List.getElem?_eq_some_iff.1 HH.out; rw [← q2, List.set_getElem_self]]
        exact HA3.out
      have hqw5 : Has w3 qw #[ptr b] 27 := HK3.out.has h2 HW.out
      have t0 : w3.cell? ⟨qw, 0, none⟩ = some (.pointer (some ⟨b, 0, none⟩)) := hqw5.cell 0
      clear hqw5 hh' e0
      go_wp2_with fail
      refine HFIN.out w3 _ hW5 hK5 hA5 ?_
      intro ce cV w6 g1 g2 g3 g4 g5
      clear hW5 hK5 hA5 t0
      unfold er
      by_cases hce : ce = 0
      · rw [if_pos hce] at g1
        subst hce
        have HG := hid (And.intro g1 (And.intro g2 (And.intro g3 (And.intro g4 g5))))
        clear g1 g2 g3 g4 g5
        go_wp2_with fail
        refine ⟨rfl, _, results_tmp rfl _ _ _, ?_⟩
        obtain ⟨g1, g2, g3, g4, g5⟩ := HG.out
        rw [g1]
        exact ⟨rfl, g2, g3, g4, g5, HAN.out⟩
      · have q9 : (ce != 0) = true := by simpa using hce
        rw [if_neg hce] at g1
        have HG := hid (And.intro g1 (And.intro g2 (And.intro g3 (And.intro g4 g5))))
        clear g1 g2 g3 g4 g5 hce
        go_wp2_with fail
        refine ⟨rfl, _, results_tmp rfl _ _ _, ?_⟩
        obtain ⟨g1, g2, g3, g4, g5⟩ := HG.out
        rw [g1]
        exact ⟨rfl, g2, g3, g4, g5, HAN.out⟩
end Go.Proofs.YtmpgfpmkmgebdaaGreatDoor
/- Quorum: what is done with each store by Open, Mend and Bad; enough. -/
namespace Go.Proofs.YtmpgfpmkmgebdaaGreatDoor
open Go.RowKit Go.Maps
open W
set_option linter.unusedVariables false
theorem set_self {l : List Hd} {i : Nat} {h : Hd} (hh : l[i]? = some h) : l.set i h = l := by
  obtain ⟨q1, q2⟩ := List.getElem?_eq_some_iff.1 hh
  rw [← q2, List.set_getElem_self]
theorem ens65 (args : Array Value) (w : World) : (callFunc 68 args).run Tryz.prog w = .ok (.enter 68 args) w := by kernel_rfl
theorem ens70 (args : Array Value) (w : World) : (callFunc 73 args).run Tryz.prog w = .ok (.enter 73 args) w := by kernel_rfl
theorem ens39 (args : Array Value) (w : World) : (callFunc 40 args).run Tryz.prog w = .ok (.enter 40 args) w := by kernel_rfl
set_option maxHeartbeats 4000000 in
set_option maxRecDepth 20000 in
theorem settle_do {w0 w : World} {b g N qf qw qp : Nat} {P : Nat → Prop} {bb : Bst} {caps : Array Value} (hf : Has w qf (bV bb).toArray 34) (hw : Has w qw #[ptr b] 27) (hp : Has w qp #[.func (.func 68) #[] caps] 86) (h1 : P qf) (h2 : P qw) (h3 : P qp) (hput : DoIs w0 w b g N P 68 caps (putD bb bb.e bb.g)) :
    DoIs w0 w b g N P 73 #[.pointer (some ⟨qf, 0, none⟩), .pointer (some ⟨qw, 0, none⟩), .pointer (some ⟨qp, 0, none⟩)] (setD bb) := by
  intro T W V l i h m hPT hTg hwt hkp hA hok hm hh hi
  have HHS := has_any g (i * 13) h bb W (hA.hd hh) hA.lt
  have HPU := hput T
  have hqf := hkp.has h1 hf
  have c0 := hqf.cell 0
  have c1 := hqf.cell 1
  have c2 := hqf.cell 2
  have c3 := hqf.cell 3
  have c4 := hqf.cell 4
  have HSD : Hid (setD bb i h V = if hasB h bb then ((askS V (i : Int) sync).1, h, (askS V (i : Int) sync).2) else putD bb bb.e bb.g i h V) := hid rfl
  have HWT := hid hwt
  have HK := hid hkp
  have HA := hid hA
  have HOK := hid hok
  have HH := hid hh
  have HPT := hid hPT
  have HTG := hid hTg
  have HW := hid hw
  have HP := hid hp
  have HPP := hid HPU
  clear HPU hwt hkp hA hok hh hPT hTg hw hp hput hqf hf
  simp only [List.append_toArray, List.cons_append, List.nil_append]
  generalize putD bb bb.e bb.g = pd at *
  obtain ⟨e0, g0, k0, n0, p0⟩ := bb
  unfold bV at HHS c0 c1 c2 c3 c4
  simp only [List.getElem?_toArray, List.getElem?_cons_zero, List.getElem?_cons_succ] at HHS c0 c1 c2 c3 c4
  go_enter Tryz.func73, Tryz.ntmps73
  go_wp2_with fail
  refine HHS.mono ?_
  rintro e w1 ⟨rfl, hb1⟩
  clear HHS c0 c1 c2 c3 c4
  have HW1 := hid (HWT.out.below hb1)
  have HA1 := hid (HA.out.below hb1)
  have HK1 := hid (HK.out.trans ((Kpt.below HWT.out hb1).sub fun j hj => .inl (HPT.out j hj)))
  have HKT1 := hid ((Kpt.below HWT.out hb1).sub (T' := T) fun j hj => .inl hj)
  have t0 : w1.cell? ⟨qw, 0, none⟩ = some (.pointer (some ⟨b, 0, none⟩)) := (HK1.out.has h2 HW.out).cell 0
  have t1 : w1.cell? ⟨qp, 0, none⟩ = some (.func (.func 68) #[] caps) := (HK1.out.has h3 HP.out).cell 0
  clear hb1
  cases hhb : hasB h ⟨e0, g0, k0, n0, p0⟩ with
  | true =>
    rw [hhb, if_pos rfl] at HSD
    go_wp2_with fail
    refine (HW1.out.sync (by have := HOK.out.calls; omega) HOK.out.left (i : Int)).mono ?_
    rintro e w2 ⟨rfl, a1, a2⟩
    have HG := hid (And.intro a1 (And.intro a2 (And.intro (HA1.out.kpt a2 (.inr rfl)) (HOK.out.sync (i : Int)))))
    clear a1 a2
    unfold er
    go_wp2_with fail
    go_ret
    rw [HSD.out]
    obtain ⟨g1, g2, g3, g4⟩ := HG.out
    exact ⟨rfl, g1, HKT1.out.trans (g2.sub fun j hj => .inl hj), by rw [set_self HH.out]; exact g3, g4.more (by omega), rfl⟩
  | false =>
    rw [hhb, if_neg (by decide)] at HSD
    have hPD := HPP.out w1 V l i h m HPT.out HTG.out HW1.out HK1.out HA1.out HOK.out hm HH.out hi
    have hF := ens65
    unfold er at hPD
    obtain ⟨pe, hpe⟩ : ∃ pe, pe = (pd i h V).1 := ⟨_, rfl⟩
    rw [← hpe] at hPD
    have HPE := hid hpe
    clear hpe
    go_wp2_with fail
    refine hPD.mono ?_
    rintro e w2 ⟨rfl, a1, a2, a3, a4, a5⟩
    have HG := hid (And.intro a1 (And.intro a2 (And.intro a3 (And.intro a4 a5))))
    clear a1 a2 a3 a4 a5 hPD
    go_wp2_with fail
    go_ret
    obtain ⟨g1, g2, g3, g4, g5⟩ := HG.out
    rw [HSD.out]
    exact ⟨by rw [HPE.out]; rfl, g1, HKT1.out.trans g2, g3, g4, g5⟩
set_option maxHeartbeats 4000000 in
set_option maxRecDepth 20000 in
theorem mend_do {w0 w : World} {b g N qf qp : Nat} {P : Nat → Prop} {bb : Bst} {caps : Array Value} (hf : Has w qf (bV bb).toArray 34) (hp : Has w qp #[.func (.func 68) #[] caps] 86) (h1 : P qf) (h3 : P qp) (hput : DoIs w0 w b g N P 68 caps (putD bb bb.e bb.g)) :
    DoIs w0 w b g N P 40 #[.pointer (some ⟨qf, 0, none⟩), .pointer (some ⟨qp, 0, none⟩)] (mndD bb) := by
  intro T W V l i h m hPT hTg hwt hkp hA hok hm hh hi
  have HHS := has_any g (i * 13) h bb W (hA.hd hh) hA.lt
  have HPU := hput T
  have hqf := hkp.has h1 hf
  have c0 := hqf.cell 0
  have c1 := hqf.cell 1
  have c2 := hqf.cell 2
  have c3 := hqf.cell 3
  have c4 := hqf.cell 4
  have HSD : Hid (mndD bb i h V = if hasB h bb then (0, h, V) else putD bb bb.e bb.g i h V) := hid rfl
  have HWT := hid hwt
  have HK := hid hkp
  have HA := hid hA
  have HOK := hid hok
  have HH := hid hh
  have HPT := hid hPT
  have HTG := hid hTg
  have HP := hid hp
  have HPP := hid HPU
  clear HPU hwt hkp hA hok hh hPT hTg hp hput hqf hf
  simp only [List.append_toArray, List.cons_append, List.nil_append]
  generalize putD bb bb.e bb.g = pd at *
  obtain ⟨e0, g0, k0, n0, p0⟩ := bb
  unfold bV at HHS c0 c1 c2 c3 c4
  simp only [List.getElem?_toArray, List.getElem?_cons_zero, List.getElem?_cons_succ] at HHS c0 c1 c2 c3 c4
  go_enter Tryz.func40, Tryz.ntmps40
  go_wp2_with fail
  refine HHS.mono ?_
  rintro e w1 ⟨rfl, hb1⟩
  clear HHS c0 c1 c2 c3 c4
  have HW1 := hid (HWT.out.below hb1)
  have HA1 := hid (HA.out.below hb1)
  have HK1 := hid (HK.out.trans ((Kpt.below HWT.out hb1).sub fun j hj => .inl (HPT.out j hj)))
  have HKT1 := hid ((Kpt.below HWT.out hb1).sub (T' := T) fun j hj => .inl hj)
  have t1 : w1.cell? ⟨qp, 0, none⟩ = some (.func (.func 68) #[] caps) := (HK1.out.has h3 HP.out).cell 0
  clear hb1
  cases hhb : hasB h ⟨e0, g0, k0, n0, p0⟩ with
  | true =>
    rw [hhb, if_pos rfl] at HSD
    go_wp2_with fail
    go_ret
    rw [HSD.out]
    exact ⟨rfl, HW1.out, HKT1.out, by rw [set_self HH.out]; exact HA1.out, HOK.out.more (by omega), rfl⟩
  | false =>
    rw [hhb, if_neg (by decide)] at HSD
    have hPD := HPP.out w1 V l i h m HPT.out HTG.out HW1.out HK1.out HA1.out HOK.out hm HH.out hi
    have hF := ens65
    unfold er at hPD
    obtain ⟨pe, hpe⟩ : ∃ pe, pe = (pd i h V).1 := ⟨_, rfl⟩
    rw [← hpe] at hPD
    have HPE := hid hpe
    clear hpe
    go_wp2_with fail
    refine hPD.mono ?_
    rintro e w2 ⟨rfl, a1, a2, a3, a4, a5⟩
    have HG := hid (And.intro a1 (And.intro a2 (And.intro a3 (And.intro a4 a5))))
    clear a1 a2 a3 a4 a5 hPD
    go_wp2_with fail
    go_ret
    obtain ⟨g1, g2, g3, g4, g5⟩ := HG.out
    rw [HSD.out]
    exact ⟨by rw [HPE.out]; rfl, g1, HKT1.out.trans g2, g3, g4, g5⟩
end Go.Proofs.YtmpgfpmkmgebdaaGreatDoor
/- Quorum: enough, putter, what may be put, what is found. -/
namespace Go.Proofs.YtmpgfpmkmgebdaaGreatDoor
open Go.RowKit Go.Maps
open W
set_option linter.unusedVariables false
set_option maxHeartbeats 4000000 in
set_option maxRecDepth 20000 in
theorem enough_any {w0 w : World} {b g N M F : Nat} {V : Wd} {P : Nat → Prop} {l : List Hd} {caps : Array Value} {f : Nat → Hd → Wd → Int × Hd × Wd} (need : Int) (hwt : WT w0 w b V (fun j => P j ∨ j = g)) (hPg : ¬ P g) (hA : AllAt w g l) (hl : l.length = N) (hN : N ≤ 12) (hok : Ok M N V) (hM : M ≤ 800000) (hg0 : w0.heap.size ≤ g)
    (hdo : DoIs w0 w b g N P F caps f) (hF : ∀ args w, (callFunc F args).run Tryz.prog w = .ok (.enter F args) w) :
    Calls Tryz.prog 39 #[.slice (some ⟨g, 0, none⟩) N N, .int .i64 need, .func (.func F) #[] caps] w fun e w' => e = .returned (er (enoE (eachE f l V) need)) ∧ WT w0 w' b (eachE f l V).V (fun j => P j ∨ j = g) ∧ Kpt P w w' ∧ AllAt w' g (eachE f l V).l ∧ Ok (M + 2 * N) N (eachE f l V).V := by
  have HE := each_any hwt hPg hA hl hN hok hM hg0 hdo hF
  obtain ⟨s, hs⟩ : ∃ s, s = eachE f l V := ⟨_, rfl⟩
  rw [← hs] at HE ⊢
  have HEN : Hid (enoE s need = if s.cut then 56 else if (s.dn : Int) < need then 53 else 0) := hid rfl
  clear hs hwt hPg hA hl hok hdo hF
  cases hc : s.cut with
  | true =>
    rw [hc] at HE HEN
    simp only [if_true] at HE HEN
    go_enter Tryz.func39, Tryz.ntmps39
    go_wp2_with fail
    refine HE.mono ?_
    rintro e w1 ⟨rfl, a1, a2, a3, a4⟩
    have HG := hid (And.intro a1 (And.intro a2 (And.intro a3 a4)))
    clear a1 a2 a3 a4 HE
    go_wp2_with fail
    go_ret
    exact ⟨by rw [HEN.out]; rfl, HG.out⟩
  | false =>
    rw [hc] at HE HEN
    simp only [Bool.false_eq_true, if_false] at HE HEN
    by_cases hd : (s.dn : Int) < need
    · rw [if_pos hd] at HEN
      go_enter Tryz.func39, Tryz.ntmps39
      go_wp2_with fail
      refine HE.mono ?_
      rintro e w1 ⟨rfl, a1, a2, a3, a4⟩
      have HG := hid (And.intro a1 (And.intro a2 (And.intro a3 a4)))
      clear a1 a2 a3 a4 HE
      go_wp2_with fail
      go_ret
      exact ⟨by rw [HEN.out]; rfl, HG.out⟩
    · rw [if_neg hd] at HEN
      go_enter Tryz.func39, Tryz.ntmps39
      go_wp2_with fail
      refine HE.mono ?_
      rintro e w1 ⟨rfl, a1, a2, a3, a4⟩
      have HG := hid (And.intro a1 (And.intro a2 (And.intro a3 a4)))
      clear a1 a2 a3 a4 HE
      go_wp2_with fail
      go_ret
      exact ⟨by rw [HEN.out]; rfl, HG.out⟩
theorem make_is (bb : Bst) (w : World) (ht : F.Tabs w) : Calls Tryz.prog 36 #[.agg (bV bb).toArray] w fun e w' => e = .returned (.tuple #[.string (mdat bb), .int .i64 (mErr bb)]) ∧ Below w.heap.size w w' := F.make_any bb.e bb.g bb.k bb.n bb.p w ht
def ptF2 (b z : Nat) (d : ByteArray) (n : Int) (r : Rp) (s : Nat) (v : Value) (W : World) : Prop := match s with
  | 15 => v = .string d | 16 => v = .pointer (some ⟨b, 0, none⟩) | 17 => v = .int .i64 n | 18 => v = .agg (rV r).toArray
  | 9 => ∃ x, v = .pointer (some ⟨x, 0, none⟩) ∧ Has W x (rV noR).toArray 105 ∧ z ≤ x
  | _ => True
theorem ptF2_below {b z : Nat} {d : ByteArray} {n : Int} {r : Rp} {s : Nat} {v : Value} {W W' : World} (h : ptF2 b z d n r s v W) (hb : Below W.heap.size W W') : ptF2 b z d n r s v W' := by
  unfold ptF2 at h ⊢
  split at h <;> first | exact h | skip
  obtain ⟨x, h1, h2, h3⟩ := h
  exact ⟨x, h1, h2.below hb h2.lt, h3⟩
theorem ens42 (args : Array Value) (w : World) : (callFunc 42 args).run Tryz.prog w = .ok (.enter 42 args) w := by kernel_rfl
theorem rn_alloc105 {ev : Operand → Value} {o : Oper} {w : World} (ho : o.op = .alloc 105) : (execOp ev o).run Tryz.prog w = .ok (.value (.pointer (some ⟨w.heap.size, 0, none⟩))) (w.alloc (.cells (rV noR).toArray 105)) := by
  simp [execOp, ho, go_sem]
  rfl
theorem rn_new105 {ev : Operand → Value} {o : Oper} {w : World} {x y : Operand} {g : Nat} {r s : Rp} (ho : o.op = .store 105 x y) (hx : ev x = .pointer (some ⟨g, 0, none⟩)) (hy : ev y = .agg (rV r).toArray) (hh : Has w g (rV s).toArray 105) : ∃ w', (execOp ev o).run Tryz.prog w = .ok .skip w' ∧ Has w' g (rV r).toArray 105 ∧ Only (fun j => j = g) w w' := by
  obtain ⟨rs, re, rg, rk, rn, rp⟩ := r
  obtain ⟨ss, se, sg, sk, sn, sp⟩ := s
  have h0 : Has w g #[.bool ss, .int .i64 se, .int .i64 sg, .int .i64 sk, .int .i64 sn, .string sp] 105 := hh
  have h1 := h0.set 0 (.bool rs)
  have h2 := h1.set 1 (.int .i64 re)
  have h3 := h2.set 2 (.int .i64 rg)
  have h4 := h3.set 3 (.int .i64 rk)
  have h5 := h4.set 4 (.int .i64 rn)
  have h6 := h5.set 5 (.string rp)
  have c0 := h0.cell 0
  have c1 := h1.cell 1
  have c2 := h2.cell 2
  have c3 := h3.cell 3
  have c4 := h4.cell 4
  have c5 := h5.cell 5
  have f0 := h0.frozen 0
  have f1 := h1.frozen 1
  have f2 := h2.frozen 2
  have f3 := h3.frozen 3
  have f4 := h4.frozen 4
  have f5 := h5.frozen 5
  refine ⟨_, ?_, h6, ?_⟩
  · unfold rV bV at hy
    simp only at hy
    simp at c0 c1 c2 c3 c4 c5
    simp [execOp, ho, hx, hy, go_sem, c0, c1, c2, c3, c4, c5, f0, f1, f2, f3, f4, f5]
  · exact Only.set (p := ⟨g, 5, none⟩) (Only.set (p := ⟨g, 4, none⟩) (Only.set (p := ⟨g, 3, none⟩) (Only.set (p := ⟨g, 2, none⟩) (Only.set (p := ⟨g, 1, none⟩) (Only.set (p := ⟨g, 0, none⟩) (Only.refl (fun i => i = g) w) (.inl rfl) _) (.inl rfl) _) (.inl rfl) _) (.inl rfl) _) (.inl rfl) _) (.inl rfl) _
/-- a replica is stored into a block of its own -/
theorem wp_new105 {o : Oper} {a : Act} {w : World} {K : Act → World → Prop} {Q : Exit → Act → World → Prop} {x y : Operand} {g : Nat} {r s : Rp} (ho : o.op = .store 105 x y) (hd : o.dst = none) (hx : a.eval x = .pointer (some ⟨g, 0, none⟩)) (hy : a.eval y = .agg (rV r).toArray) (hh : Has w g (rV s).toArray 105) (hK : ∀ w', Has w' g (rV r).toArray 105 → Only (fun j => j = g) w w' → K a w') : o.wp Tryz.prog a w K Q := by
  obtain ⟨w', hr, h1, h2⟩ := rn_new105 ho hx hy hh
  unfold Oper.wp
  rw [hr]
  show K (a.put o.dst undef) w'
  rw [hd]
  exact hK w' h1 h2
set_option maxHeartbeats 4000000 in
set_option maxRecDepth 20000 in
/-- a function that puts a manifest -/
theorem putter_any {w0 w : World} {b : Nat} {V : Wd} {T : Nat → Prop} (hwt : WT w0 w b V T) (hl : F.Lay w0) (bb : Bst) (oe og : Int) (hbb : mErr bb = 0) (hbn : bb.n = V.l.length) : Calls Tryz.prog 37 #[ptr b, .agg (bV bb).toArray, .func (.func 38) #[.agg #[.int .i64 oe, .int .i64 og]] #[]] w fun e w' => ∃ qs qw qd qb, e = .returned (.func (.func 68) #[] #[.pointer (some ⟨qs, 0, none⟩), .pointer (some ⟨qw, 0, none⟩), .pointer (some ⟨qd, 0, none⟩), .pointer (some ⟨qb, 0, none⟩)]) ∧ Has w' qs #[.func (.func 38) #[.agg #[.int .i64 oe, .int .i64 og]] #[]] 88 ∧ Has w' qw #[ptr b] 27 ∧ Has w' qd #[.string (mdat bb)] 9 ∧ Has w' qb (rV ⟨true, bb⟩).toArray 105 ∧ w.heap.size ≤ qs ∧ w.heap.size ≤ qw ∧ w.heap.size ≤ qd ∧ w.heap.size ≤ qb ∧ Below w.heap.size w w' := by
  obtain ⟨wa, hwa⟩ : ∃ wa, wa = ((w.alloc (.cells #[ptr b] 27)).alloc (.cells (bV bb).toArray 34)).alloc (.cells #[.func (.func 38) #[.agg #[.int .i64 oe, .int .i64 og]] #[]] 88) := ⟨_, rfl⟩
  have hB : Below w.heap.size w wa := by rw [hwa]; exact (((Below.refl _ _).alloc (Nat.le_refl _) _).alloc (by simp) _).alloc (by simp; omega) _
  have h1 : Has wa w.heap.size #[ptr b] 27 := by rw [hwa]; exact ((Has.new w _ _ _ rfl).alloc _).alloc _
  have h2 : Has wa (w.heap.size + 1) (bV bb).toArray 34 := by rw [hwa]; exact (Has.new _ (w.heap.size + 1) _ _ (by simp)).alloc _
  have h3 : Has wa (w.heap.size + 2) #[.func (.func 38) #[.agg #[.int .i64 oe, .int .i64 og]] #[]] 88 := by rw [hwa]; exact Has.new _ (w.heap.size + 2) _ _ (by simp)
  have HM := make_is bb wa ((hwt.below hB).lay hl).ht
  have HWA := hid (hwt.below hB)
  have HL := hid hl
  have HB := hid hB
  have H1 := hid h1
  have H2 := hid h2
  have H3 := hid h3
  have c0 := h2.cell 0
  have c1 := h2.cell 1
  have c2 := h2.cell 2
  have c3 := h2.cell 3
  have c4 := h2.cell 4
  have HLK : Hid (lookd (V.l.length : Int) (mdat bb) = ⟨true, bb⟩) := hid (by rw [← hbn]; exact lookd_mk hbb)
  clear h1 h2 h3 hB hwt hl hbb hbn
  obtain ⟨md, hmd⟩ : ∃ md, md = mdat bb := ⟨_, rfl⟩
  obtain ⟨me, hme⟩ : ∃ me, me = mErr bb := ⟨_, rfl⟩
  rw [← hmd, ← hme] at HM
  rw [← hmd]
  rw [← hmd] at HLK
  clear hmd hme
  obtain ⟨rr, hrr⟩ : ∃ rr : Rp, rr = ⟨true, bb⟩ := ⟨_, rfl⟩
  rw [← hrr] at HLK
  rw [← hrr]
  clear hrr
  obtain ⟨e0, g0, k0, n0, p0⟩ := bb
  unfold bV at HM c0 c1 c2 c3 c4 hwa H2 ⊢
  unfold ptr at hwa H1 ⊢
  simp only [List.getElem?_toArray, List.getElem?_cons_zero, List.getElem?_cons_succ] at HM c0 c1 c2 c3 c4 hwa H2 ⊢
  rw [hwa] at c0 c1 c2 c3 c4
  go_enter Tryz.func37, Tryz.ntmps37
  go_wp2_with fail
  rw [← hwa]
  refine HM.mono ?_
  rintro e w1 ⟨rfl, hb1⟩
  obtain ⟨wb, hwb⟩ : ∃ wb, wb = w1.alloc (.cells #[.string md] 9) := ⟨_, rfl⟩
  have hb2 : Below wa.heap.size wa wb := by rw [hwb]; exact hb1.alloc hb1.size _
  have hd2 : Has wb w1.heap.size #[.string md] 9 := by rw [hwb]; exact Has.new w1 w1.heap.size #[.string md] 9 rfl
  have HG := hid (And.intro (H3.out.below hb2 H3.out.lt) (And.intro (H1.out.below hb2 H1.out.lt) (And.intro hd2 (HB.out.trans (hb2.mono HB.out.size)))))
  have HWB := hid (HWA.out.below hb2)
  have HZ : Hid (w.heap.size ≤ w1.heap.size ∧ w.heap.size + 3 ≤ wb.heap.size ∧ w1.heap.size < wb.heap.size) := hid ⟨Nat.le_trans HB.out.size hb1.size, by
    have := hb2.size
    have e : wa.heap.size = w.heap.size + 3 := by rw [hwa]; simp
    omega, hd2.lt⟩
  have y0 : wb.cell? ⟨w1.heap.size, 0, none⟩ = some (.string md) := hd2.cell 0
  have y1 : wb.cell? ⟨w.heap.size, 0, none⟩ = some (.pointer (some ⟨b, 0, none⟩)) := (H1.out.below hb2 H1.out.lt).cell 0
  have ly0 := hd2.lt
  have ly1 : w.heap.size < wb.heap.size := by have := HZ.out; omega
  clear hb1 hb2 HM hwa c0 c1 c2 c3 c4 hd2
  go_wp2_with fail
  rw [← hwb]
  clear hwb
  refine Tl.wp_mix_lit (by kernel_rfl) 5 [15, 16, 17, 18, 9] 20 rfl (by kernel_rfl) (BelW wb) (ptF2 b wb.heap.size md (V.l.length : Int) rr) ((Below.refl _ _).drew)
    ⟨fun a' W' hC hF => ?_, fun a' W' hC hF => ?_, fun a' W' hC hF => ?_, fun a' W' hC hF => ?_, fun a' W' hC hF => ?_, trivial⟩ ?_
  · exact Tl.sm_v 15 _ rfl (Tl.wanted_none rfl) hC rfl (rn_load9q rfl ((hF 7 (by decide +kernel)).2 (by decide)) (BelW.cell hC (p := ⟨w1.heap.size, 0, none⟩) ly0 y0))
  · exact Tl.sm_v 16 _ rfl (Tl.wanted_none rfl) hC rfl (rn_load27 rfl ((hF 3 (by decide +kernel)).2 (by decide)) (BelW.cell hC (p := ⟨w.heap.size, 0, none⟩) ly1 y1))
  · refine Tl.sm_call 42 #[_] (Tl.wanted_none rfl) (rn_call1 rfl rfl ((hF 16 (by decide +kernel)).1 (by decide)) (ens42 _ _)) ((HWB.out.below hC).n.mono ?_)
    rintro e w'' ⟨rfl, rfl⟩
    exact ⟨_, rfl, hC, fun d v _ h => h, fun d hd => by cases hd; rfl⟩
  · refine Tl.sm_call 51 #[_, _] (Tl.wanted_none rfl) (rn_call2 rfl rfl ((hF 15 (by decide +kernel)).1 (by decide)) ((hF 17 (by decide +kernel)).1 (by decide)) (ens51 _ _)) ((looked_any md (V.l.length : Int) W' ((HWB.out.below hC).lay HL.out)).mono ?_)
    rintro e w'' ⟨rfl, hb⟩
    exact ⟨_, rfl, Below.trans hC (hb.mono (Below.size hC)), fun d v _ h => ptF2_below h hb, fun d hd => by cases hd; rw [HLK.out]; rfl⟩
  · exact Tl.sm_w _ (Tl.wanted_none rfl) (rn_alloc105 rfl) (Below.trans hC ((boxed W' _).mono (Below.size hC))) (fun d v _ h => ptF2_below h (boxed W' _)) (fun d hd => by cases hd; exact ⟨_, rfl, Has.new _ _ _ _ rfl, Below.size hC⟩)
  intro v w2 hw2 hv
  have v18 : v 18 = .agg (rV rr).toArray := hv 18 (by decide)
  obtain ⟨q, v9, hq1, hqz⟩ := (show ∃ x, v 9 = .pointer (some ⟨x, 0, none⟩) ∧ Has w2 x (rV noR).toArray 105 ∧ wb.heap.size ≤ x from hv 9 (by decide))
  have hB2 : Below wb.heap.size wb w2 := hw2
  clear hv hw2 y0 y1
  simp only [Tl.fill, List.drop_succ_cons, List.drop_zero, wpList]
  simp only [Act.put, List.setIfInBounds_toArray, List.set_cons_succ, List.set_cons_zero, v18, v9]
  clear v18 v9
  rw [if_pos (Tl.wanted_none rfl)]
  left
  apply wp_new105 (x := .tmp 9) (y := .tmp 18) (g := q) (r := rr) _ _ _ _ hq1
  rotate_left
  · rfl
  · rfl
  · rfl
  · rfl
  intro w3 hn3 ho3
  obtain ⟨g1, g2, g3, g4⟩ := HG.out
  have HF : Hid (Has w3 (w.heap.size + 2) #[.func (.func 38) #[.agg #[.int .i64 oe, .int .i64 og]] #[]] 88 ∧ Has w3 w.heap.size #[.pointer (some ⟨b, 0, none⟩)] 27 ∧ Has w3 w1.heap.size #[.string md] 9 ∧ Has w3 q (rV rr).toArray 105 ∧ w.heap.size ≤ q ∧ Below w.heap.size w w3) := hid (by
    have := HZ.out
    refine ⟨ho3.has (g1.below hB2 g1.lt) (by omega), ho3.has (g2.below hB2 g2.lt) (by omega), ho3.has (g3.below hB2 g3.lt) (by omega), hn3, by omega, ?_⟩
    have hb := g4.trans (hB2.mono (by omega))
    exact hb.trans (ho3.below hb.size fun i hi => by omega))
  clear hn3 ho3 hB2 g1 g2 g3 g4 hq1 hqz HG
  go_wp2_with fail
  go_ret
  obtain ⟨g1, g2, g3, g4, g5, g6⟩ := HF.out
  exact ⟨_, _, _, _, rfl, g1, g2, g3, g4, by omega, by omega, HZ.out.1, g5, g6⟩
end Go.Proofs.YtmpgfpmkmgebdaaGreatDoor
