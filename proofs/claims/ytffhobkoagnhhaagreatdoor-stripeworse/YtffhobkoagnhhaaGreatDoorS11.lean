/- Stripe: synced, written. Printed by gen_s11.py. -/
import Derived.Test.YtffhobkoagnhhaaGreatDoorS10
namespace Go.Proofs.YtffhobkoagnhhaaGreatDoor
open Go.RowKit Go.Maps
open W
set_option linter.unusedVariables false
section
variable {ev : Operand → Value} {o : Oper} {w : World} {x y : Operand}
theorem rn_load140 {g k : Nat} {v : Value} (ho : o.op = .load 140 x) (hx : ev x = .pointer (some ⟨g, k, none⟩)) (hc : w.cell? ⟨g, k, none⟩ = some v) : (execOp ev o).run Tryz.prog w = .ok (.value v) w := by
  simp [execOp, ho, hx, go_sem, hc]
theorem rn_lss3 {u v : Int} (ho : o.op = .binOp .lss 3 x y 3) (hx : ev x = .int .i64 u) (hy : ev y = .int .i64 v) : (execOp ev o).run Tryz.prog w = .ok (.value (.bool (decide (u < v)))) w := by
  simp [execOp, ho, hx, hy, go_sem]
theorem ens82 (args : Array Value) : (callFunc 82 args).run Tryz.prog w = .ok (.enter 82 args) w := by kernel_rfl
end
variable {w0 w w' : World} {b : Nat} {V V' : Wd} {T T0 : Nat → Prop} {c1 c2 c3 gs sn sc : Nat} {os : List Ob}
theorem askG_ok {σ : Type} (d : ByteArray) (nx : σ → Nat → ByteArray → Int → Bool × σ) {n : Nat} : ∀ (j i M : Nat) (V : Wd) (s : σ), Ok M n V → Ok (M + j) n (askG d nx j i V s).2.1
  | 0, _, _, _, _, h => h
  | j + 1, i, M, V, s, h => by
    rw [askG_succ]
    split
    · exact (h.get (i : Int)).more (by omega)
    · split
      · have := askG_ok d nx j (i + 1) (M + 1) _ (nx s i (getW V (i : Int) (nmS d i)).1 (getW V (i : Int) (nmS d i)).2).2 (h.get (i : Int))
        rw [show M + (j + 1) = M + 1 + j by omega]
        exact this
      · exact (h.get (i : Int)).more (by omega)
def synE (r : (Nat × Int) × Wd × List Nat) (K : Int) : Int := if r.1.2 = 0 ∧ (r.1.1 : Int) < K then 53 else r.1.2
set_option maxHeartbeats 4000000 in
set_option maxRecDepth 20000 in
theorem synced_any (K : Int) (M n : Nat) (hT0 : ∀ i, T0 i → i < w.heap.size) (hw : w0.heap.size ≤ w.heap.size) {wz : World} {st : List Nat} (h : Bes w0 w wz b V T0 T (WX c1 c2 c3 b os gs sn sc w.heap.size) st) (hok : Ok M n V) (hM : M + 100 ≤ 900000) (hos : os.length = sn) (hsn : sn ≤ 12) (Q : Ending → World → Prop)
    (hq : ∀ w' T', Bes w0 w w' b (eachG 2 dSync sn 0 0 V st).2.1 T0 T' (WX c1 c2 c3 b os gs sn sc w.heap.size) (eachG 2 dSync sn 0 0 V st).2.2 → Ok (M + sn) n (eachG 2 dSync sn 0 0 V st).2.1 → Q (.returned (.int .i64 (synE (eachG 2 dSync sn 0 0 V st) K))) w') : Calls Tryz.prog 85 #[.slice (some ⟨gs, 0, none⟩) sn sc, .int .i64 K, .func (.func 86) #[ptr b] #[]] wz Q := by
  have HQ := hid hq
  have HEA := each86_any 2 M n hT0 hw h hok hM hos hsn
  clear hq h hok
  unfold ptr at *
  generalize eachG 2 dSync sn 0 0 V st = r at *
  go_enter Tryz.func85, Tryz.ntmps85
  go_wp2_with fail
  refine HEA _ fun w2 T2 hb2 hok2 hle => ?_
  clear HEA
  have HE := hid (HQ.out w2 T2 hb2 hok2)
  clear hb2 hok2 HQ
  obtain ⟨⟨dn, z⟩, V2, s2⟩ := r
  unfold synE at HE
  simp only at HE hle
  by_cases hz : z = 0
  · subst hz
    by_cases hd : (dn : Int) < K
    · rw [if_pos ⟨rfl, hd⟩] at HE
      go_wp2_with fail
      exact HE.out
    · rw [if_neg (fun h => hd h.2)] at HE
      go_wp2_with fail
      exact HE.out
  · rw [if_neg (fun h => hz h.1)] at HE
    have p1 : (z == 0) = false := by simpa using hz
    clear hz
    go_wp2_with fail
    exact HE.out
/-- what comes of a write, behind the asking -/
def writP (K : Int) (os : List Ob) (V : Wd) (st : List Nat) : Int × Wd :=
  if (((cnt st 1 os.length + cnt st 2 os.length : Nat) : Int)) < K then (55, V)
  else if (eachG 1 (dPut os) os.length 0 0 V st).1.2 ≠ 0 then ((eachG 1 (dPut os) os.length 0 0 V st).1.2, (eachG 1 (dPut os) os.length 0 0 V st).2.1)
  else if ((cnt (eachG 1 (dPut os) os.length 0 0 V st).2.2 2 os.length : Nat) : Int) < K then (53, (eachG 1 (dPut os) os.length 0 0 V st).2.1)
  else (synE (eachG 2 dSync os.length 0 0 (eachG 1 (dPut os) os.length 0 0 V st).2.1 (eachG 1 (dPut os) os.length 0 0 V st).2.2) K, (eachG 2 dSync os.length 0 0 (eachG 1 (dPut os) os.length 0 0 V st).2.1 (eachG 1 (dPut os) os.length 0 0 V st).2.2).2.1)
def writG (V : Wd) (K : Int) (os : List Ob) (d : ByteArray) : Int × Wd := if (askedG V os d).1 ≠ 0 then ((askedG V os d).1, (askedG V os d).2.1) else writP K os (askedG V os d).2.1 (askedG V os d).2.2
def cnF (K : Int) (vs : Value) (C1 C2 : Nat) (j : Nat) (v : Value) (_ : World) : Prop := match j with
  | 21 => v = vs | 22 => v = .int .i64 (C1 : Int) | 23 => v = vs | 24 => v = .int .i64 (C2 : Int)
  | 25 => v = .int .i64 ((C1 + C2 : Nat) : Int) | 26 => v = .int .i64 K | 27 => v = .bool (decide (((C1 + C2 : Nat) : Int) < K))
  | _ => True
set_option maxHeartbeats 8000000 in
set_option maxRecDepth 20000 in
theorem written_any (h : WT w0 w b V T) (hl : H.Lay w0) (K : Int) {vo : Value} (ho : w.ownsRow 0 64 2 vo os.length (objCells os)) (hvo : ∀ q, vo.ownBlock = some q → T q) (d : ByteArray) (hd : d.size ≤ 1000) {M : Nat} (hok : Ok M os.length V) (hM : M + 200 ≤ 900000) (hn0 : 0 < os.length) (hn12 : os.length ≤ 12) (Q : Ending → World → Prop)
    (hq : ∀ w', WT w0 w' b (writG V K os d).2 T → Kpt T w w' → Ok (M + 3 * os.length) os.length (writG V K os d).2 → Q (.returned (.int .i64 (writG V K os d).1)) w') : Calls Tryz.prog 36 #[ptr b, .int .i64 K, .string d, vo] w Q := by
  have HBA : Hid (Below w.heap.size w ((w.alloc (.cells #[ptr b] 23)).alloc (.cells #[vo] 55))) := hid ((boxed w _).trans ((boxed (w.alloc (.cells #[ptr b] 23)) _).mono (by simp)))
  have HH1 := hid ((Has.new w w.heap.size #[ptr b] 23 rfl).below (boxed (w.alloc (.cells #[ptr b] 23)) (.cells #[vo] 55)) (by simp))
  have HH2 := hid (Has.new (w.alloc (.cells #[ptr b] 23)) (w.heap.size + 1) #[vo] 55 (by simp))
  have HWA := hid (h.new HBA.out)
  have HOA := hid (row_below ho HBA.out)
  have HQ := hid hq
  have HH := hid h
  have HOK := hid hok
  have HVO := hid hvo
  have hcc := hok.calls
  have HAS := asked_any HWA.out hl HOA.out (fun q hq => .inl (hvo q hq)) d hd hok.len (by rw [hok.len]; exact hn12) (by omega) hok.left
  obtain ⟨ao, co, rfl⟩ := row_slice ho
  have HWG : Hid (writG V K os d = if (askedG V os d).1 ≠ 0 then ((askedG V os d).1, (askedG V os d).2.1) else writP K os (askedG V os d).2.1 (askedG V os d).2.2) := hid rfl
  have HOK3 : Hid (Ok (M + os.length) os.length (askedG V os d).2.1) := hid (by
    have := askG_ok d (anx os d) (n := os.length) V.l.length 0 M V (List.replicate os.length 0) hok
    rw [hok.len] at this
    unfold askedG
    rw [hok.len]
    exact this)
  clear hq h hok hvo ho hl
  have HFIN : Hid (∀ w' z' V', writG V K os d = (z', V') → WT w0 w' b V' T → Kpt T ((w.alloc (.cells #[ptr b] 23)).alloc (.cells #[.slice ao os.length co] 55)) w' → Ok (M + 3 * os.length) os.length V' → Q (.returned (.int .i64 z')) w') := hid fun w' z' V' he hwt hkp hok => by
    have := HQ.out w'
    rw [he] at this
    exact this hwt ((Kpt.below HH.out HBA.out).trans hkp) hok
  have HT0 : Hid (∀ i, T i → i < ((w.alloc (.cells #[ptr b] 23)).alloc (.cells #[.slice ao os.length co] 55)).heap.size) := hid fun i hi => Nat.lt_of_lt_of_le (HH.out.lt i hi) HBA.out.size
  have HW0 : Hid (w0.heap.size ≤ ((w.alloc (.cells #[ptr b] 23)).alloc (.cells #[.slice ao os.length co] 55)).heap.size) := hid HWA.out.base.size
  have HZS : Hid (((w.alloc (.cells #[ptr b] 23)).alloc (.cells #[.slice ao os.length co] 55)).heap.size = w.heap.size + 2) := hid (by simp)
  unfold ptr at *
  have k0 := HH1.out.cell 0
  have k1 := HH2.out.cell 0
  clear HQ
  go_enter Tryz.func36, Tryz.ntmps36
  go_wp2_with fail
  obtain ⟨wa, hwa⟩ : ∃ wa, wa = ((w.alloc (.cells #[.pointer (some ⟨b, 0, none⟩)] 23)).alloc (.cells #[.slice ao os.length co] 55)) := ⟨_, rfl⟩
  rw [← hwa] at HBA HH1 HH2 HWA HOA HAS HFIN HT0 HW0 HZS k0 k1 ⊢
  clear hwa
  refine HAS _ fun w3 T3 vs hw3 hsub hk3 hr3 hb3 hlen3 => ?_
  clear HAS k0 k1
  generalize askedG V os d = r at *
  obtain ⟨z, V3, st⟩ := r
  simp only at hw3 hr3 hb3 hlen3 HWG HOK3
  obtain ⟨sa, sc, rfl⟩ := row_slice hr3
  obtain ⟨gs, rfl, hgs⟩ := st_at hr3 (k := 0) (by rw [hlen3]; exact hn0)
  clear hgs
  have HK3 := hid (show WT w0 w3 b V3 T3 ∧ (∀ i, T i ∨ (w.heap.size ≤ i ∧ i < wa.heap.size) → T3 i) ∧ Kpt (fun i => T i ∨ (w.heap.size ≤ i ∧ i < wa.heap.size)) wa w3 from ⟨hw3, hsub, hk3⟩)
  have HR3 := hid (show w3.ownsRow wa.heap.size 144 1 (.slice (some ⟨gs, 0, none⟩) st.length sc) st.length (stCells st) ∧ T3 gs ∧ st.length = os.length from ⟨hr3, hb3 gs rfl, hlen3⟩)
  have HBX : Hid (∀ o, WT w0 (w3.alloc o) b V3 T ∧ Kpt T wa (w3.alloc o)) := hid fun o => by
    have h3 := HK3.out.1.sub (T' := T) fun i hi => HK3.out.2.1 i (.inl hi)
    exact ⟨h3.below (boxed _ _), (HK3.out.2.2.sub fun i hi => .inl hi).trans (Kpt.below h3 (boxed _ _))⟩
  clear hw3 hsub hk3 hr3 hb3
  by_cases hz : z = 0
  case neg =>
    rw [if_pos hz] at HWG
    have HE : Hid (∀ o, Q (.returned (.int .i64 z)) (w3.alloc o)) := hid fun o => HFIN.out _ _ _ HWG.out (HBX.out o).1 (HBX.out o).2 (HOK3.out.more (by omega))
    have p1 : (z != 0) = true := by simpa using hz
    clear hz HWG HFIN
    go_wp2_with fail
    exact HE.out _
  subst hz
  rw [if_neg (by simp)] at HWG
  have HBS : Hid (Bes w0 wa (w3.alloc (.cells #[.slice (some ⟨gs, 0, none⟩) st.length sc] 140)) b V3 T (fun i => T3 i ∨ (w3.heap.size ≤ i ∧ i < (w3.alloc (.cells #[.slice (some ⟨gs, 0, none⟩) st.length sc] 140)).heap.size)) (WX w.heap.size (w.heap.size + 1) w3.heap.size b os gs st.length sc wa.heap.size) st) := hid (by
    have hzs := HZS.out
    have t1 : T3 w.heap.size := HK3.out.2.1 _ (.inr ⟨Nat.le_refl _, by omega⟩)
    have t2 : T3 (w.heap.size + 1) := HK3.out.2.1 _ (.inr ⟨by omega, by omega⟩)
    have e1 : Has w3 w.heap.size #[ptr b] 23 := HK3.out.2.2.has (q := w.heap.size) (.inr ⟨Nat.le_refl _, by omega⟩) HH1.out
    have e2 : Has w3 (w.heap.size + 1) #[.slice ao os.length co] 55 := HK3.out.2.2.has (q := w.heap.size + 1) (.inr ⟨by omega, by omega⟩) HH2.out
    have e3 : w3.ownsRow 0 64 2 (.slice ao os.length co) os.length (objCells os) := HK3.out.2.2.row HOA.out fun q hq => .inl (HVO.out q hq)
    have bx := boxed w3 (.cells #[.slice (some ⟨gs, 0, none⟩) st.length sc] 140)
    have e4 : Has (w3.alloc (.cells #[.slice (some ⟨gs, 0, none⟩) st.length sc] 140)) w3.heap.size #[.slice (some ⟨gs, 0, none⟩) st.length sc] 140 := Has.new _ _ _ _ rfl
    have e5 := row_below HR3.out.1 bx
    refine ⟨HK3.out.1.new bx, ⟨.inl t1, e1.below bx e1.lt, ⟨.inl t2, .inr ⟨Nat.le_refl _, by simp⟩, HR3.out.2.2, ⟨_, e2.below bx e2.lt, row_below e3 bx, fun q hq => .inl (HK3.out.2.1 q (.inl (HVO.out q hq)))⟩, ⟨_, e4, e5, fun q hq => ?_⟩⟩, e4, e5, .inl HR3.out.2.1, rfl⟩, fun i hi => .inl (HK3.out.2.1 i (.inl hi)), (HBX.out _).2⟩
    cases hq
    exact .inl HR3.out.2.1)
  have HSN : Hid (st.length = os.length) := hid hlen3
  obtain ⟨sn, hsn⟩ : ∃ sn, sn = st.length := ⟨_, rfl⟩
  have hs12 : sn ≤ 12 := by rw [hsn, hlen3]; exact hn12
  have HS1 : Hid (os.length = sn) := hid (by rw [hsn, hlen3])
  have HS2 : Hid (st.length = sn) := hid hsn.symm
  rw [← hsn] at HBS HR3
  unfold writP at HWG
  rw [HS1.out] at HWG HOK3 HFIN
  obtain ⟨w4, hw4⟩ : ∃ w4, w4 = w3.alloc (.cells #[.slice (some ⟨gs, 0, none⟩) sn sc] 140) := ⟨_, rfl⟩
  rw [← hsn]
  clear hsn hlen3 HBX HR3 HK3 HH1 HH2 HWA HOA HOK HH HBA hn0 hn12 HVO
  have HBD := hid (show Bes w0 wa w4.drew b V3 T _ _ st from by rw [hw4]; exact HBS.out.below WX.kept (Below.refl _ _).drew)
  clear HBS
  have HCN : Hid (∀ (so : Nat) W', AtW w4.drew W' → Calls Tryz.prog 82 #[.slice (some ⟨gs, 0, none⟩) sn sc, .int .i64 (so : Int)] W' fun e w' => e = .returned (.int .i64 (cnt st so sn : Int)) ∧ w' = W') := hid fun so W' hW => by
    obtain rfl : W' = w4.drew := hW
    have := count_any HBD.out.x.s2 (by rw [HS2.out]; omega) so
    rw [HS2.out] at this
    exact this
  have k9 : w4.drew.cell? ⟨w3.heap.size, 0, none⟩ = some (.slice (some ⟨gs, 0, none⟩) sn sc) := HBD.out.x.s1.cell 0
  have hc1 := cnt_le st 1 sn
  have hc2 := cnt_le st 2 sn
  have HCN1 : Hid (∀ W', AtW w4.drew W' → Calls Tryz.prog 82 #[.slice (some ⟨gs, 0, none⟩) sn sc, .int .i64 1] W' fun e w' => e = .returned (.int .i64 (cnt st 1 sn : Int)) ∧ w' = W') := hid (HCN.out 1)
  have HCN2 : Hid (∀ W', AtW w4.drew W' → Calls Tryz.prog 82 #[.slice (some ⟨gs, 0, none⟩) sn sc, .int .i64 2] W' fun e w' => e = .returned (.int .i64 (cnt st 2 sn : Int)) ∧ w' = W') := hid (HCN.out 2)
  clear HCN
  generalize cnt st 1 sn = C1 at *
  generalize cnt st 2 sn = C2 at *
  go_wp2_with fail
  rw [← hw4]
  clear hw4
  refine Tl.wp_mix_lit (by kernel_rfl) 7 [21, 22, 23, 24, 25, 26, 27] 46 rfl (by kernel_rfl) (AtW w4.drew) (cnF K (.slice (some ⟨gs, 0, none⟩) sn sc) C1 C2) rfl
    ⟨fun a' W' hC hF => ?_, fun a' W' hC hF => ?_, fun a' W' hC hF => ?_, fun a' W' hC hF => ?_, fun a' W' hC hF => ?_, fun a' W' hC hF => ?_, fun a' W' hC hF => ?_, trivial⟩ ?_
  · exact Tl.sm_v 21 _ rfl (Tl.wanted_none rfl) hC rfl (rn_load140 rfl ((hF 9 (by decide +kernel)).2 (by decide)) (by rw [show W' = _ from hC]; exact k9))
  · refine Tl.sm_call 82 #[_, _] (Tl.wanted_none rfl) (rn_call2 rfl rfl ((hF 21 (by decide +kernel)).1 (by decide)) rfl (ens82 _)) ((HCN1.out _ hC).mono ?_)
    rintro e w'' ⟨rfl, rfl⟩
    exact ⟨_, rfl, hC, fun d v _ h => h, fun d hd => by cases hd; rfl⟩
  · exact Tl.sm_v 23 _ rfl (Tl.wanted_none rfl) hC rfl (rn_load140 rfl ((hF 9 (by decide +kernel)).2 (by decide)) (by rw [show W' = _ from hC]; exact k9))
  · refine Tl.sm_call 82 #[_, _] (Tl.wanted_none rfl) (rn_call2 rfl rfl ((hF 23 (by decide +kernel)).1 (by decide)) rfl (ens82 _)) ((HCN2.out _ hC).mono ?_)
    rintro e w'' ⟨rfl, rfl⟩
    exact ⟨_, rfl, hC, fun d v _ h => h, fun d hd => by cases hd; rfl⟩
  · exact Tl.sm_v 25 _ rfl (Tl.wanted_none rfl) hC rfl (rn_add3 rfl ((hF 22 (by decide +kernel)).1 (by decide)) ((hF 24 (by decide +kernel)).1 (by decide)) (wrapN (by omega)))
  · exact Tl.sm_v 26 _ rfl (Tl.wanted_none rfl) hC rfl (rn_move rfl ((hF 1 (by decide +kernel)).2 (by decide)))
  · exact Tl.sm_v 27 _ rfl (Tl.wanted_none rfl) hC rfl (rn_lss3 rfl ((hF 25 (by decide +kernel)).1 (by decide)) ((hF 26 (by decide +kernel)).1 (by decide)) )
  intro v wB hw2 hv
  obtain rfl : wB = _ := hw2
  have v27 : v 27 = .bool (decide (((C1 + C2 : Nat) : Int) < K)) := hv 27 (by decide)
  clear hv
  simp only [Tl.fill, List.drop_succ_cons, List.drop_zero, wpList]
  simp only [Act.put, List.setIfInBounds_toArray, List.set_cons_succ, List.set_cons_zero, v27]
  clear v27 HCN1 HCN2
  by_cases hq : ((C1 + C2 : Nat) : Int) < K
  · rw [decide_eq_true hq]
    rw [if_pos hq] at HWG
    have HE : Hid (Q (.returned (.int .i64 55)) w4.drew) := hid (HFIN.out _ _ _ HWG.out (HBD.out.wt.sub HBD.out.sub) HBD.out.kp (HOK3.out.more (by omega)))
    clear hq HWG HFIN
    go_wp2_with fail
    exact HE.out
  rw [decide_eq_false hq]
  rw [if_neg hq] at HWG
  clear hq
  have HEA := each84_any 1 (M + sn) sn HT0.out HW0.out HBD.out HOK3.out (by omega) HS1.out hs12
  unfold ptr at HEA
  generalize eachG 1 (dPut os) sn 0 0 V3 st = r5 at *
  obtain ⟨⟨dn, z5⟩, V5, st5⟩ := r5
  simp only at HEA HWG
  go_wp2_with fail
  refine HEA _ fun w5 T5 hb5 hok5 hle => ?_
  clear HEA HBD HOK3 k9
  have HB5 := hid hb5
  have HOK5 := hid hok5
  clear hb5 hok5 hle
  by_cases hz : z5 = 0
  case neg =>
    rw [if_pos hz] at HWG
    have HE : Hid (Q (.returned (.int .i64 z5)) w5) := hid (HFIN.out _ _ _ HWG.out (HB5.out.wt.sub HB5.out.sub) HB5.out.kp (HOK5.out.more (by omega)))
    have p1 : (z5 != 0) = true := by simpa using hz
    clear hz HWG HFIN
    go_wp2_with fail
    exact HE.out
  subst hz
  rw [if_neg (by simp)] at HWG
  have HC5 : Calls Tryz.prog 82 #[.slice (some ⟨gs, 0, none⟩) sn sc, .int .i64 2] w5 fun e w' => e = .returned (.int .i64 (cnt st5 2 sn : Int)) ∧ w' = w5 := by
    have := count_any HB5.out.x.s2 (by rw [HB5.out.x.sl]; omega) 2
    rw [HB5.out.x.sl] at this
    exact this
  have k9 : w5.cell? ⟨w3.heap.size, 0, none⟩ = some (.slice (some ⟨gs, 0, none⟩) sn sc) := HB5.out.x.s1.cell 0
  have k8 : w5.cell? ⟨w.heap.size, 0, none⟩ = some (.pointer (some ⟨b, 0, none⟩)) := HB5.out.x.h1.cell 0
  generalize cnt st5 2 sn = C5 at *
  go_wp2_with fail
  refine HC5.mono ?_
  clear HC5
  rintro y w6 ⟨rfl, rfl⟩
  by_cases hq : (C5 : Int) < K
  · rw [if_pos hq] at HWG
    have HE : Hid (Q (.returned (.int .i64 53)) w6) := hid (HFIN.out _ _ _ HWG.out (HB5.out.wt.sub HB5.out.sub) HB5.out.kp (HOK5.out.more (by omega)))
    clear HWG HFIN
    go_wp2_with fail
    exact HE.out
  rw [if_neg hq] at HWG
  have HSY := synced_any K (M + sn + sn) sn HT0.out HW0.out HB5.out HOK5.out (by omega) HS1.out hs12
  unfold ptr at HSY
  generalize eachG 2 dSync sn 0 0 V5 st5 = r7 at *
  go_wp2_with fail
  refine HSY _ fun w7 T7 hb7 hok7 => ?_
  have HE : Hid (Q (.returned (.int .i64 (synE r7 K))) w7) := hid (HFIN.out _ _ _ HWG.out (hb7.wt.sub hb7.sub) hb7.kp (hok7.more (by omega)))
  clear HSY hb7 hok7 HWG HFIN
  generalize synE r7 K = z7 at *
  go_wp2_with fail
  exact HE.out
end Go.Proofs.YtffhobkoagnhhaaGreatDoor
