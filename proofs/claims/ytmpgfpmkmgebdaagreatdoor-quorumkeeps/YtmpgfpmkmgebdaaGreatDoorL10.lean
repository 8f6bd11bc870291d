/- QuorumKeeps: the walk. -/
import Derived.Test.YtmpgfpmkmgebdaaGreatDoorL9
import Derived.Deep.Cut
namespace Go.Proofs.YtmpgfpmkmgebdaaGreatDoor
open Go.RowKit Go.Maps
open W
set_option linter.unusedVariables false
set_option maxHeartbeats 32000000 in
set_option maxRecDepth 20000 in
theorem keeps_walk {w : World} (hl : F.Lay w) (five : Bool) {v : Value} {l : List Dd} (hd : Deeds w v l) : Calls Tryz.prog 3 #[.bool five, v] w fun e w' => e = .returned (.bool true) ∧ Below w.heap.size w w' := by
  have HL := hid hl
  have HD := hid hd
  obtain ⟨al, cl, rfl, hl63⟩ := hd.form
  obtain ⟨L, hL⟩ : ∃ L, L = l.length := ⟨_, rfl⟩
  have HLL := hid hL
  have HLG := fun (Q : Ending → World → Prop) => long_any hd Q
  rw [← hL] at HD HLG ⊢
  have big : ∀ w2, Below w.heap.size w w2 → Calls Tryz.prog 5 #[] w2 fun e w' => e = .returned (.bool true) ∧ Below w.heap.size w w' := fun w2 h2 => (awake_true w2 (HL.out.below h2)).mono fun e w3 h3 => ⟨h3.1, h2.trans (h3.2.mono h2.size)⟩
  have HBIG := hid big
  have HLO := hid HLG
  clear hl hd big hL hl63 HLG
  go_enter Tryz.func3, Tryz.ntmps3
  go_wp2_with fail
  refine HLO.out _ ?_ ?_
  · go_wp2_with fail
    refine (HBIG.out w (Below.refl _ _)).mono ?_
    rintro _ w2 ⟨rfl, hb⟩
    go_wp2_with fail
    go_ret
    exact ⟨rfl, hb⟩
  intro hl40 hp2000
  have HP := hid hp2000
  have hL40 : L ≤ 40 := by exact hl40
  clear hp2000 hl40 HLO
  go_wp2_with fail
  refine (HBIG.out w (Below.refl _ _)).mono ?_
  rintro _ w1 ⟨rfl, hbw⟩
  have HBw := hid hbw
  clear hbw HBIG
  obtain ⟨q5, hq5⟩ : ∃ q5, q5 = w1.heap.size := ⟨_, rfl⟩
  have HQ5 := hid hq5
  go_upto_if 23 with fail
  go_cut [] from 24 (fun wx => ∃ (N : Nat) (K : Int), (N = 3 ∧ K = 2 ∨ N = 5 ∧ K = 3) ∧ Hid (wx = w1.alloc (.cells #[.int .i64 K, .int .i64 (N : Int)] 26)))
  case first =>
    cases five with
    | false =>
      go_wp2_with fail
      go_meet
      exact ⟨3, 2, .inl ⟨rfl, rfl⟩, hid rfl⟩
    | true =>
      go_wp2_with fail
      go_meet
      exact ⟨5, 3, .inr ⟨rfl, rfl⟩, hid (by first | rfl | simp)⟩
  case rest =>
    obtain ⟨N, K, hNK, hwc⟩ := hcut
    have hN5 : 3 ≤ N ∧ N ≤ 5 ∧ 1 ≤ K ∧ K ≤ (N : Int) ∧ (N : Int) < 2 * K := by omega
    have hcB : Below w1.heap.size w1 wc := by rw [hwc.out]; exact boxed _ _
    have hcH : Has wc w1.heap.size #[.int .i64 K, .int .i64 (N : Int)] 26 := by rw [hwc.out]; exact Has.new _ _ _ _ rfl
    rw [← hq5] at hcH ⊢
    have HCB := hid (HBw.out.trans (hcB.mono HBw.out.size))
    have HCH := hid hcH
    have e0 : wc.cell? ⟨q5, 0, none⟩ = some (.int .i64 K) := hcH.cell 0
    have e1 : wc.cell? ⟨q5, 1, none⟩ = some (.int .i64 (N : Int)) := hcH.cell 1
    have HZ5 : Hid (w.heap.size ≤ q5) := hid (by rw [hq5]; exact HBw.out.size)
    clear hwc hcB hcH hNK hq5 HQ5
    go_wp2_with fail
    refine wnew_any _ (N : Int) _ (fun h => absurd ⟨by omega, by omega⟩ h) ?_
    intro _ b g S lk w2 h1 h2 h3 h4 h5
    have h2' : lk.length = N := by rw [h2, Int.toNat_natCast]
    have HX2 := hid (HCH.out.below h5 HCH.out.lt)
    have hw2 : WT w w2 b (newW lk) (fun j => j = q5) := ⟨S, g, h1, fun i hi => Nat.le_trans HCB.out.size (h4 i hi), HCB.out.trans (h5.mono HCB.out.size), fun i hi => by
      rw [hi]
      refine ⟨fun hs => ?_, HX2.out.lt⟩
      have := h4 _ hs
      have := HCH.out.lt
      omega⟩
    obtain ⟨i1, i2, i3⟩ := KI.init (k := K) h2' h3 ⟨by omega, by omega, by omega⟩ (by omega) (p := ⟨#[102, 105, 114, 115, 116]⟩) (by decide)
    obtain ⟨ok2, sm2⟩ := new_ok h2' h3
    have HIN := init_any hw2 HL.out ok2 (by omega) (by decide) K (N : Int) ⟨#[102, 105, 114, 115, 116]⟩ (by decide)
    have hsm := Cl.sm.init sm2 K (N : Int) ⟨#[102, 105, 114, 115, 116]⟩
    rw [i1, i2] at HIN
    generalize (initW (newW lk) K (N : Int) ⟨#[102, 105, 114, 115, 116]⟩).2.2 = V1 at *
    have HI3 := hid i3
    have HSM := hid hsm
    simp only [bV_lit] at HIN
    unfold ptr er at HIN
    have e0 : w2.cell? ⟨q5, 0, none⟩ = some (.int .i64 K) := HX2.out.cell 0
    have e1 : w2.cell? ⟨q5, 1, none⟩ = some (.int .i64 (N : Int)) := HX2.out.cell 1
    clear h1 h2 h2' h3 h4 h5 hw2 i1 i2 i3 ok2 sm2 hsm
    go_wp2_with fail
    refine HIN.mono ?_
    clear HIN e0 e1
    rintro _ w3 ⟨rfl, a1, a2, a3⟩
    have HX3 := hid (a2.has rfl HX2.out)
    obtain ⟨m, hm⟩ : ∃ m, m = w3.heap.size + 1 := ⟨_, rfl⟩
    obtain ⟨q, hq⟩ : ∃ q, q = w3.heap.size + 2 := ⟨_, rfl⟩
    obtain ⟨w4, hw4⟩ : ∃ w4, w4 = ((w3.alloc (.cells #[.int .i64 1, .int .i64 1, .int .i64 K, .int .i64 (N : Int), .string ⟨#[102, 105, 114, 115, 116]⟩] 34)).alloc (.cells #[.string ⟨#[102, 105, 114, 115, 116]⟩] 9)).alloc (.cells #[.pointer (some ⟨b, 0, none⟩), .int .i64 1, .int .i64 1, .int .i64 K, .int .i64 (N : Int), .string ⟨#[102, 105, 114, 115, 116]⟩, .bool true, .slice (some ⟨w3.heap.size + 1, 0, none⟩) 1 1] 40) := ⟨_, rfl⟩
    have hb4 : Below w3.heap.size w3 w4 := by rw [hw4]; exact (((Below.refl _ _).alloc (Nat.le_refl _) _).alloc (by simp) _).alloc (by simp; omega) _
    have hm4 : Has w4 m #[.string ⟨#[102, 105, 114, 115, 116]⟩] 9 := by rw [hw4, hm]; exact (Has.new _ (w3.heap.size + 1) _ _ (by simp)).alloc _
    have hq4 : Has w4 q (hcells b ⟨1, 1, K, (N : Int), ⟨#[102, 105, 114, 115, 116]⟩⟩ true (.slice (some ⟨m, 0, none⟩) ([⟨#[102, 105, 114, 115, 116]⟩] : List ByteArray).length 1)) 40 := by rw [hw4, hq, hm]; exact Has.new _ (w3.heap.size + 2) _ _ (by simp)
    have hx3 := HX3.out.lt
    have hz3 := a1.base.size
    have HS4 : Hid (HS w w4 b q m 1 (fun j => j = q5) V1 ⟨1, 1, K, (N : Int), ⟨#[102, 105, 114, 115, 116]⟩⟩ true [⟨#[102, 105, 114, 115, 116]⟩]) := hid ⟨hq4, ⟨_, hm4, fun j z hj => by
      cases j with
      | zero => simp at hj; subst hj; rfl
      | succ j => simp at hj⟩, fun _ => ⟨rfl, _, rfl, hm4⟩, (a1.new hb4).sub (fun j hj => by
      rcases hj with hj | hj | hj
      · exact .inl hj
      · exact .inr (by rw [hj]; exact ⟨by omega, hq4.lt⟩)
      · exact .inr (by rw [hj]; exact ⟨by omega, hm4.lt⟩)), by omega, by omega, by omega, by omega, by omega, Nat.le_succ 1⟩
    have HX4 := hid (HX3.out.below hb4 hx3)
    have HKS0 : Hid (KS w w4 b q q5 N K 0 V1 ⟨1, 1, K, (N : Int), ⟨#[102, 105, 114, 115, 116]⟩⟩ true [⟨#[102, 105, 114, 115, 116]⟩] m 1) := hid ⟨HS4.out, HX4.out, a3.more (by omega), HSM.out, HI3.out⟩
    clear a1 a2 a3 hb4 hm4 hq4 hx3 hz3 HX3 HX2 HX4 HS4 HI3 HSM HCB HCH
    go_wp2_with fail
    rw [← hw4, ← hq]
    clear hw4 hm hq
    go_loopg [10, 11, 12, 13, 14] L (fun gk s10 s11 s12 s13 s14 wx => ∃ k : Nat, k + gk = L ∧ s10 = .int .i64 (k : Int) ∧ Hid (∃ V bs op lm m c, KS w wx b q q5 N K k V bs op lm m c))
    case atStart => exact ⟨0, by omega, rfl, hid ⟨_, _, _, _, _, _, HKS0.out⟩⟩
    case round =>
      obtain ⟨k, hk, rfl, HK⟩ := hrel
      obtain ⟨V, bs, op, lm, m, c, hks⟩ := HK.out
      have HKS := hid hks
      clear hks HK HKS0
      cases gk with
      | zero =>
        have q2 : ¬ (k : Int) < (L : Int) := by omega
        have HCR := HKS.out.hs.wt.crash (by rw [HKS.out.ok.len]; omega) (fun x hx => ⟨HKS.out.ok.fit x hx, (HKS.out.sm x hx).live⟩) (by omega) (.slice none 0 0) [] ⟨.inl ⟨_, _, rfl, rfl⟩, fun x hx => by cases hx⟩ (by decide)
        unfold ptr W.er at HCR
        go_wp2_with fail
        refine HCR.mono ?_
        clear HCR
        rintro _ w5 ⟨rfl, a1, a2⟩
        have H5 := hid (HKS.out.hs.did a1 a2)
        clear a1 a2
        have hki := HKS.out.ki.crash []
        have hok := HKS.out.ok.crash HKS.out.sm (by omega) []
        go_wp2_with fail
        rcases hki.open rfl (by omega) with ⟨e1, e2, e3⟩ | ⟨e1, e2, e3⟩
        · refine begin_any H5.out HL.out hok (by omega) (by omega) (.inl e1) _ ?_ (fun e => by rw [e1] at e; cases e)
          intro _ w6 h6 _ _
          rw [e2]
          have HB6 := hid h6.wt.base
          clear h6 e1 e2 e3 hki hok
          go_wp2_with fail
          go_ret
          exact ⟨rfl, HB6.out⟩
        · refine begin_any H5.out HL.out hok (by omega) (by omega) (.inr ⟨e1, e2⟩) _ (fun e => by rw [e1] at e; cases e) ?_
          intro _ w6 m6 h6 _ _
          have HB6 := hid h6.wt.base
          clear h6 e1 e2 e3 hki hok
          go_wp2_with fail
          go_ret
          exact ⟨rfl, HB6.out⟩
      | succ g1 =>
        have q2 : (k : Int) < (L : Int) := by omega
        have wk : IntKind.i64.wrap ((k : Int) + 1) = ((k + 1 : Nat) : Int) := wrapN (b := 1) (by omega)
        have hk40 : k < 40 := by omega
        obtain ⟨x, hx⟩ : ∃ x, l[k]? = some x := ⟨_, List.getElem?_eq_getElem (by have := HLL.out; omega)⟩
        obtain ⟨g, o, rfl, hok, hc⟩ := HD.out.at HKS.out.hs.wt.base hx
        have HOKD := hid hok
        have HP2 := hid (HP.out x (List.mem_of_getElem? hx))
        have d0 := hc 0 _ rfl
        have d1 := hc 1 _ rfl
        have d2 := hc 2 _ rfl
        have d3 := hc 3 _ rfl
        have d4 := hc 4 _ rfl
        have d5 := hc 5 _ rfl
        have d6 := hc 6 _ rfl
        have d7 := hc 7 _ rfl
        have d8 := hc 8 _ rfl
        clear hc hx hok
        obtain ⟨xk, xn, xp, xlv, xsv, fk, ft, fn, fa, fc⟩ := x
        obtain ⟨xA, xcc, rfl⟩ : ∃ a c, xlv = .slice a xsv.length c := RdS.form' HOKD.out.lv
        simp only [Nat.add_zero] at d0 d1 d2 d3 d4 d5 d6 d7 d8
        obtain ⟨wa, hwa⟩ : ∃ wa, wa = wr.alloc (.cells #[.int .u8 xk, .int .i64 xn, .string xp, (.slice xA xsv.length xcc), .int .u8 fk, .int .i64 ft, .int .i64 fn, .int .i64 fa, .int .i64 fc] 45) := ⟨_, rfl⟩
        have hba : Below wr.heap.size wr wa := by rw [hwa]; exact boxed _ _
        have hya : Has wa wr.heap.size #[.int .u8 xk, .int .i64 xn, .string xp, (.slice xA xsv.length xcc), .int .u8 fk, .int .i64 ft, .int .i64 fn, .int .i64 fa, .int .i64 fc] 45 := by rw [hwa]; exact Has.new _ _ _ _ rfl
        have HSA := hid (HKS.out.hs.below hba)
        have HKA : Hid (Kpt (fun j => j = q5) wr wa) := hid ((Kpt.below HKS.out.hs.wt hba).sub fun j hj => .inl hj)
        have HYA := hid hya
        have HCA := hid (HKA.out.has rfl HKS.out.hc)
        have c0 := hya.cell 0
        have c1 := hya.cell 1
        have c2 := hya.cell 2
        have c3 := hya.cell 3
        have c4 := hya.cell 4
        have c5 := hya.cell 5
        have c6 := hya.cell 6
        have c7 := hya.cell 7
        have c8 := hya.cell 8
        simp only [List.getElem?_toArray, List.getElem?_cons_zero, List.getElem?_cons_succ] at c0 c1 c2 c3 c4 c5 c6 c7 c8
        obtain ⟨⟨b0, b1, b2, b3, b4, b5, b6, b7⟩, _⟩ := HSA.out.cells
        have HDRK := HSA.out.wt.dark
        unfold ptr at HDRK
        clear hba hya b1 b2 b3 b4 b5 b7
        rw [hwa] at c0 c1 c2 c3 c4 c5 c6 c7 c8 b0 b6
        have HDRK' := HDRK
        rw [hwa] at HDRK'
        by_cases k6 : xk = 6
        · have q6 : (xk == 6) = true := by rw [k6]; rfl
          have HCU := HSA.out.wt.cut xn
          unfold ptr W.er at HCU
          clear k6 HDRK HDRK'
          go_wp2_with fail
          rw [← hwa]
          refine HCU.mono ?_
          clear HCU hwa c0 c1 c2 c3 c4 c5 c6 c7 c8 b0 b6
          rintro _ w2 ⟨rfl, a1, a2⟩
          have HN := hid (HKS.out.go (HSA.out.did a1 a2) (HKA.out.trans (HSA.out.kX a2)) (HKS.out.ok.cut HOKD.out.n) (by omega) (fun y hy => HKS.out.sm y (by
            have e : (cutW V xn).2.l = V.l := by unfold cutW; split <;> rfl
            rw [e] at hy
            exact hy)) ((HKS.out.ki.cut xn).up (by omega)))
          clear a1 a2
          go_wp2_with fail
          go_roundg g1
          case measure => omega
          case rel => exact ⟨k + 1, by omega, by first | rfl | simp, hid ⟨_, _, _, _, _, _, HN.out⟩⟩
        have q6 : (xk == 6) = false := beq_eq_false_iff_ne.2 k6
        have HCR := HSA.out.wt.crash (by rw [HKS.out.ok.len]; omega) (fun x hx => ⟨HKS.out.ok.fit x hx, (HKS.out.sm x hx).live⟩) (by omega) (.slice xA xsv.length xcc) xsv HOKD.out.lv HOKD.out.sl
        unfold ptr W.er at HCR
        by_cases k7 : xk = 7
        · have q7 : (xk == 7) = true := by rw [k7]; rfl
          clear k6 k7 HDRK HDRK'
          go_wp2_with fail
          rw [← hwa]
          refine HCR.mono ?_
          clear HCR hwa c0 c1 c2 c3 c4 c5 c6 c7 c8 b0 b6
          rintro _ w2 ⟨rfl, a1, a2⟩
          have H2 := hid (HSA.out.did a1 a2)
          have HK2 := hid (HKA.out.trans (HSA.out.kX a2))
          clear a1 a2
          obtain ⟨⟨b0, b1, b2, b3, b4, b5, b6, b7⟩, _, _, _, _, _, f6, _⟩ := H2.out.cells
          have HSH := hid H2.out.shut
          have HN := hid (HKS.out.go HSH.out.1 (HK2.out.trans HSH.out.2) (HKS.out.ok.crash HKS.out.sm (by omega) xsv) (by omega) (Sm.all_crash HKS.out.sm xsv) ((HKS.out.ki.crash xsv).up (by omega)))
          clear b1 b2 b3 b4 b5 b7 H2 HK2 HSH
          go_wp2_with fail
          go_roundg g1
          case measure => omega
          case rel => exact ⟨k + 1, by omega, by first | rfl | simp, hid ⟨_, _, _, _, _, _, HN.out⟩⟩
        have q7 : (xk == 7) = false := beq_eq_false_iff_ne.2 k7
        cases hdk : V.dark with
        | true =>
          rw [hdk] at HDRK HDRK'
          clear k6 k7
          go_wp2_with fail
          refine HDRK'.mono ?_
          rintro _ w9 ⟨rfl, rfl⟩
          clear HDRK HDRK'
          go_wp2_with fail
          rw [← hwa]
          refine HCR.mono ?_
          clear HCR hwa c0 c1 c2 c3 c4 c5 c6 c7 c8 b0 b6
          rintro _ w2 ⟨rfl, a1, a2⟩
          have H2 := hid (HSA.out.did a1 a2)
          have HK2 := hid (HKA.out.trans (HSA.out.kX a2))
          clear a1 a2
          obtain ⟨⟨b0, b1, b2, b3, b4, b5, b6, b7⟩, _, _, _, _, _, f6, _⟩ := H2.out.cells
          have HSH := hid H2.out.shut
          have HN := hid (HKS.out.go HSH.out.1 (HK2.out.trans HSH.out.2) (HKS.out.ok.crash HKS.out.sm (by omega) xsv) (by omega) (Sm.all_crash HKS.out.sm xsv) ((HKS.out.ki.crash xsv).up (by omega)))
          clear b1 b2 b3 b4 b5 b7 H2 HK2 HSH
          go_wp2_with fail
          go_roundg g1
          case measure => omega
          case rel => exact ⟨k + 1, by omega, by first | rfl | simp, hid ⟨_, _, _, _, _, _, HN.out⟩⟩
        | false =>
          rw [hdk] at HDRK HDRK'
          have HDF := hid hdk
          clear HCR hdk
          by_cases k8 : xk = 8
          · have q8 : (xk == 8) = true := by rw [k8]; rfl
            have wNK : IntKind.i64.wrap ((N : Int) - K) = (N : Int) - K := wrap_i64_of (by omega) (by omega)
            have g0 : wa.cell? ⟨q5, 0, none⟩ = some (.int .i64 K) := HCA.out.cell 0
            have g2 : wa.cell? ⟨q5, 1, none⟩ = some (.int .i64 (N : Int)) := HCA.out.cell 1
            rw [hwa] at g0 g2
            clear k6 k7 k8 HDRK
            go_wp2_with fail
            refine HDRK'.mono ?_
            rintro _ w9 ⟨rfl, rfl⟩
            clear HDRK'
            go_wp2_with fail
            rw [← hwa]
            clear hwa c0 c1 c2 c3 c4 c5 c6 c7 c8 b0 b6 g0 g2
            refine may_any HSA.out.wt HL.out HKS.out.ok (by omega) (by omega) HKS.out.sm fk ft fn fa fc ((N : Int) - K) ⟨HOKD.out.fk0, HOKD.out.fk1⟩ HOKD.out.fn HOKD.out.fa _ ?_
            intro r w2 hm hb2
            have H2 := hid (HSA.out.below hb2)
            have HK2 := hid (HKA.out.trans ((Kpt.below HSA.out.wt hb2).sub (T' := fun j => j = q5) fun j hj => .inl hj))
            have hy2 := HYA.out.below hb2 HYA.out.lt
            have c4 := hy2.cell 4
            have c5 := hy2.cell 5
            have c6 := hy2.cell 6
            have c7 := hy2.cell 7
            have c8 := hy2.cell 8
            simp only [List.getElem?_toArray, List.getElem?_cons_zero, List.getElem?_cons_succ] at c4 c5 c6 c7 c8
            clear hb2 hy2
            cases r with
            | false =>
              have HN := hid (HKS.out.go H2.out HK2.out HKS.out.ok (by omega) HKS.out.sm (HKS.out.ki.up (by omega)))
              clear hm c4 c5 c6 c7 c8
              go_wp2_with fail
              go_roundg g1
              case measure => omega
              case rel => exact ⟨k + 1, by omega, by first | rfl | simp, hid ⟨_, _, _, _, _, _, HN.out⟩⟩
            | true =>
              have hmm := hm rfl
              have HST := H2.out.wt.strike HKS.out.ok.fit (by omega) fk ft fn fa fc HOKD.out.fk0 HOKD.out.fk1 HOKD.out.fn HOKD.out.fa
              unfold ptr fv W.er at HST
              have HKI := hid (HKS.out.ki.strike HDF.out hmm)
              clear hm hmm
              go_wp2_with fail
              refine HST.mono ?_
              clear HST c4 c5 c6 c7 c8
              rintro _ w3 ⟨rfl, a1, a2⟩
              have HN := hid (HKS.out.go (H2.out.did a1 a2) (HK2.out.trans (H2.out.kX a2)) (HKS.out.ok.strike HKS.out.sm (by omega) HOKD.out.fn) (by omega) (Sm.all_strike HKS.out.sm HOKD.out.fn) (HKI.out.up (by omega)))
              clear a1 a2
              go_wp2_with fail
              go_roundg g1
              case measure => omega
              case rel => exact ⟨k + 1, by omega, by first | rfl | simp, hid ⟨_, _, _, _, _, _, HN.out⟩⟩
          have q8 : (xk == 8) = false := beq_eq_false_iff_ne.2 k8
          by_cases k5 : xk = 5
          · have q5' : (xk == 5) = true := by rw [k5]; rfl
            have q0 : (xk == 0) = false := by rw [k5]; rfl
            have q3 : (xk == 2) = false := by rw [k5]; rfl
            clear k5 k6 k7 k8 HDRK
            cases op with
            | false =>
              go_wp2_with fail
              refine HDRK'.mono ?_
              rintro _ w9 ⟨rfl, rfl⟩
              clear HDRK'
              go_wp2_with fail
              rw [← hwa]
              clear hwa c0 c1 c2 c3 c4 c5 c6 c7 c8 b0 b6
              rcases HKS.out.ki.open HDF.out (by omega) with ⟨e1, e2, e3⟩ | ⟨e1, e2, e3⟩
              · refine begin_any HSA.out HL.out HKS.out.ok (by omega) (by omega) (.inl e1) _ ?_ (fun e => by rw [e1] at e; cases e)
                intro _ w2 h2 k2 ok2
                rw [e2]
                have HN := hid (HKS.out.go h2 (HKA.out.trans k2) ok2 (by omega) (Cl.sm.open HKS.out.sm) (by rw [show (k : Int) + 2 = (k : Int) + 1 + 1 by omega]; exact e3))
                clear h2 k2 ok2 e1 e2 e3
                go_wp2_with fail
                go_roundg g1
                case measure => omega
                case rel => exact ⟨k + 1, by omega, by first | rfl | simp, hid ⟨_, _, _, _, _, _, HN.out⟩⟩
              · refine begin_any HSA.out HL.out HKS.out.ok (by omega) (by omega) (.inr ⟨e1, e2⟩) _ (fun e => by rw [e1] at e; cases e) ?_
                intro _ w2 m2 h2 k2 ok2
                have HN := hid (HKS.out.go h2 (HKA.out.trans k2) ok2 (by omega) (Cl.sm.open HKS.out.sm) (by rw [show (k : Int) + 2 = (k : Int) + 1 + 1 by omega]; exact e3))
                clear h2 k2 ok2 e1 e2 e3
                go_wp2_with fail
                go_roundg g1
                case measure => omega
                case rel => exact ⟨k + 1, by omega, by first | rfl | simp, hid ⟨_, _, _, _, _, _, HN.out⟩⟩
            | true =>
              have HME := mend_any HSA.out.wt HL.out HKS.out.ok (by omega) (by omega) bs (HKS.out.ki.may HDF.out)
              obtain ⟨⟨b0', b1, b2, b3, b4, b5, b6', b7⟩, _⟩ := HSA.out.cells
              rw [hwa] at b1 b2 b3 b4 b5
              have HKM := hid (HKS.out.ki.mend HDF.out)
              have HSMM := hid (Cl.sm.mend HKS.out.sm bs)
              generalize mendW V bs = R at *
              obtain ⟨e, V'⟩ := R
              simp only at HME HKM HSMM
              obtain ⟨se, sg, sk, sn, sp⟩ := bs
              simp only [bV_lit] at HME b1 b2 b3 b4 b5
              unfold ptr er at HME
              clear b0' b6' b7
              go_wp2_with fail
              refine HDRK'.mono ?_
              rintro _ w9 ⟨rfl, rfl⟩
              clear HDRK'
              go_wp2_with fail
              rw [← hwa]
              refine HME.mono ?_
              clear HME hwa c0 c1 c2 c3 c4 c5 c6 c7 c8 b0 b1 b2 b3 b4 b5 b6
              rintro _ w2 ⟨rfl, a1, a2, a3⟩
              have H2 := hid (HSA.out.did a1 a2)
              have HK2 := hid (HKA.out.trans (HSA.out.kX a2))
              have HOK2 := hid a3
              clear a1 a2 a3
              rcases HKM.out with ⟨rfl, hki⟩ | ⟨rfl, hki⟩ | ⟨rfl, hki⟩
              · obtain ⟨⟨b0, b1, b2, b3, b4, b5, b6, b7⟩, _, _, _, _, _, f6, _⟩ := H2.out.cells
                have HSH := hid H2.out.shut
                have HN := hid (HKS.out.go HSH.out.1 (HK2.out.trans HSH.out.2) HOK2.out (by omega) HSMM.out (hki.up (by omega)))
                clear b1 b2 b3 b4 b5 b7 H2 HK2 HSH HKM hki
                go_wp2_with fail
                go_roundg g1
                case measure => omega
                case rel => exact ⟨k + 1, by omega, by first | rfl | simp, hid ⟨_, _, _, _, _, _, HN.out⟩⟩
              · have HN := hid (HKS.out.go H2.out HK2.out HOK2.out (by omega) HSMM.out (hki.up (by omega)))
                clear hki HKM
                go_wp2_with fail
                go_roundg g1
                case measure => omega
                case rel => exact ⟨k + 1, by omega, by first | rfl | simp, hid ⟨_, _, _, _, _, _, HN.out⟩⟩
              · have HCL := H2.out.wt.clear (by rw [HOK2.out.len]; omega)
                unfold ptr at HCL
                have HKI := hid hki
                clear hki HKM
                go_wp2_with fail
                refine HCL.mono ?_
                clear HCL
                rintro _ w3 ⟨rfl, a1, a2⟩
                have HN := hid (HKS.out.go (H2.out.did a1 a2) (HK2.out.trans (H2.out.kX a2)) HOK2.out.clear (by omega) (Sm.all_clear HSMM.out) (HKI.out.up (by omega)))
                clear a1 a2
                go_wp2_with fail
                go_roundg g1
                case measure => omega
                case rel => exact ⟨k + 1, by omega, by first | rfl | simp, hid ⟨_, _, _, _, _, _, HN.out⟩⟩
          have q5' : (xk == 5) = false := beq_eq_false_iff_ne.2 k5
          by_cases k0 : xk = 0
          · have q0 : (xk == 0) = true := by rw [k0]; rfl
            have HRD := read_any HSA.out.wt HL.out HKS.out.ok (by omega) (by omega)
            have HKR := hid (HKS.out.ki.read HDF.out)
            have HSMR := hid (Cl.sm.read HKS.out.sm)
            generalize readW V = R at *
            obtain ⟨e, r, V'⟩ := R
            obtain ⟨re, rg, rk, rn, rp⟩ := r
            simp only [bV_lit] at HRD HKR HSMR
            unfold ptr er at HRD
            clear k0 k5 k6 k7 k8 HDRK
            go_wp2_with fail
            refine HDRK'.mono ?_
            rintro _ w9 ⟨rfl, rfl⟩
            clear HDRK'
            go_wp2_with fail
            rw [← hwa]
            refine HRD.mono ?_
            clear HRD hwa c0 c1 c2 c3 c4 c5 c6 c7 c8 b0 b6
            rintro _ w2 ⟨rfl, a1, a2, a3⟩
            have h2 := HSA.out.did a1 a2
            have HOK2 := hid a3
            obtain ⟨w3, hw3⟩ : ∃ w3, w3 = w2.alloc (.cells #[.int .i64 re, .int .i64 rg, .int .i64 rk, .int .i64 rn, .string rp] 34) := ⟨_, rfl⟩
            have hb3 : Below w2.heap.size w2 w3 := by rw [hw3]; exact boxed _ _
            have hx3 : Has w3 w2.heap.size #[.int .i64 re, .int .i64 rg, .int .i64 rk, .int .i64 rn, .string rp] 34 := by rw [hw3]; exact Has.new _ _ _ _ rfl
            have H3 := hid (h2.below hb3)
            have HK3 := hid ((HKA.out.trans (HSA.out.kX a2)).trans ((Kpt.below h2.wt hb3).sub (T' := fun j => j = q5) fun j hj => .inl hj))
            have y4 := hx3.cell 4
            simp only [List.getElem?_toArray, List.getElem?_cons_zero, List.getElem?_cons_succ] at y4
            clear a1 a2 a3 h2 hb3 hx3
            rcases HKR.out with ⟨rfl, hki⟩ | ⟨rfl, hmem, hki⟩
            · obtain ⟨⟨b0, b1, b2, b3, b4, b5, b6, b7⟩, _, _, _, _, _, f6, _⟩ := H3.out.cells
              have HSH := hid H3.out.shut
              have HN := hid (HKS.out.go HSH.out.1 (HK3.out.trans HSH.out.2) HOK2.out (by omega) HSMR.out (hki.up (by omega)))
              rw [hw3] at b0 b6 f6 HN
              clear b1 b2 b3 b4 b5 b7 H3 HK3 HSH HKR hki hw3 y4
              go_wp2_with fail
              go_roundg g1
              case measure => omega
              case rel => exact ⟨k + 1, by omega, by first | rfl | simp, hid ⟨_, _, _, _, _, _, HN.out⟩⟩
            · have HHA := hhas_any H3.out rp
              rw [inL_of hmem] at HHA
              have HN := hid (HKS.out.go H3.out HK3.out HOK2.out (by omega) HSMR.out (hki.up (by omega)))
              rw [hw3] at y4 HHA HN
              clear H3 HK3 HKR hki hmem hw3
              go_wp2_with fail
              refine HHA.mono ?_
              rintro _ w5 ⟨rfl, rfl⟩
              clear HHA
              go_wp2_with fail
              go_roundg g1
              case measure => omega
              case rel => exact ⟨k + 1, by omega, by first | rfl | simp, hid ⟨_, _, _, _, _, _, HN.out⟩⟩
          have q0 : (xk == 0) = false := beq_eq_false_iff_ne.2 k0
          by_cases k2 : xk = 2
          · have q3 : (xk == 2) = true := by rw [k2]; rfl
            clear k0 k2 k5 k6 k7 k8 HDRK
            cases op with
            | false =>
              go_wp2_with fail
              refine HDRK'.mono ?_
              rintro _ w9 ⟨rfl, rfl⟩
              clear HDRK'
              go_wp2_with fail
              rw [← hwa]
              clear hwa c0 c1 c2 c3 c4 c5 c6 c7 c8 b0 b6
              rcases HKS.out.ki.open HDF.out (by omega) with ⟨e1, e2, e3⟩ | ⟨e1, e2, e3⟩
              · refine begin_any HSA.out HL.out HKS.out.ok (by omega) (by omega) (.inl e1) _ ?_ (fun e => by rw [e1] at e; cases e)
                intro _ w2 h2 k2 ok2
                rw [e2]
                have HN := hid (HKS.out.go h2 (HKA.out.trans k2) ok2 (by omega) (Cl.sm.open HKS.out.sm) (by rw [show (k : Int) + 2 = (k : Int) + 1 + 1 by omega]; exact e3))
                clear h2 k2 ok2 e1 e2 e3
                go_wp2_with fail
                go_roundg g1
                case measure => omega
                case rel => exact ⟨k + 1, by omega, by first | rfl | simp, hid ⟨_, _, _, _, _, _, HN.out⟩⟩
              · refine begin_any HSA.out HL.out HKS.out.ok (by omega) (by omega) (.inr ⟨e1, e2⟩) _ (fun e => by rw [e1] at e; cases e) ?_
                intro _ w2 m2 h2 k2 ok2
                have HN := hid (HKS.out.go h2 (HKA.out.trans k2) ok2 (by omega) (Cl.sm.open HKS.out.sm) (by rw [show (k : Int) + 2 = (k : Int) + 1 + 1 by omega]; exact e3))
                clear h2 k2 ok2 e1 e2 e3
                go_wp2_with fail
                go_roundg g1
                case measure => omega
                case rel => exact ⟨k + 1, by omega, by first | rfl | simp, hid ⟨_, _, _, _, _, _, HN.out⟩⟩
            | true =>
              go_wp2_with fail
              refine HDRK'.mono ?_
              rintro _ w9 ⟨rfl, rfl⟩
              clear HDRK'
              go_wp2_with fail
              rw [← hwa]
              clear hwa c0 c1 c2 c3 c4 c5 c6 c7 c8 b0 b6
              have hpb : xp.size ≤ 2000 := HP2.out
              rcases HKS.out.ki.write HDF.out (by omega) (p := xp) (by omega) with ⟨e1, e2, e3⟩ | ⟨e1, e2, e3⟩
              · refine hwrite_any HSA.out HL.out HKS.out.ok (by omega) (by omega) xp (by omega) (.inl e1) _ ?_ (fun e => by rw [e1] at e; cases e)
                intro _ w2 m2 c2 h2 k2 ok2
                rw [e2]
                have HN := hid (HKS.out.go h2 (HKA.out.trans k2) ok2 (by omega) (Cl.sm.write HKS.out.sm bs xp) (by rw [show (k : Int) + 2 = (k : Int) + 1 + 1 by omega]; exact e3))
                clear h2 k2 ok2 e1 e2 e3
                go_wp2_with fail
                go_roundg g1
                case measure => omega
                case rel => exact ⟨k + 1, by omega, by first | rfl | simp, hid ⟨_, _, _, _, _, _, HN.out⟩⟩
              · refine hwrite_any HSA.out HL.out HKS.out.ok (by omega) (by omega) xp (by omega) (.inr ⟨e1, e2⟩) _ (fun e => by rw [e1] at e; cases e) ?_
                intro _ w2 m2 h2 k2 ok2
                have HN := hid (HKS.out.go h2 (HKA.out.trans k2) ok2 (by omega) (Cl.sm.write HKS.out.sm bs xp) (by rw [show (k : Int) + 2 = (k : Int) + 1 + 1 by omega]; exact e3))
                clear h2 k2 ok2 e1 e2 e3
                go_wp2_with fail
                go_roundg g1
                case measure => omega
                case rel => exact ⟨k + 1, by omega, by first | rfl | simp, hid ⟨_, _, _, _, _, _, HN.out⟩⟩
          have q3 : (xk == 2) = false := beq_eq_false_iff_ne.2 k2
          clear k0 k2 k5 k6 k7 k8 HDRK
          go_wp2_with fail
          refine HDRK'.mono ?_
          rintro _ w9 ⟨rfl, rfl⟩
          clear HDRK'
          go_wp2_with fail
          rw [← hwa]
          clear hwa c0 c1 c2 c3 c4 c5 c6 c7 c8 b0 b6
          rcases HKS.out.ki.open HDF.out (by omega) with ⟨e1, e2, e3⟩ | ⟨e1, e2, e3⟩
          · refine begin_any HSA.out HL.out HKS.out.ok (by omega) (by omega) (.inl e1) _ ?_ (fun e => by rw [e1] at e; cases e)
            intro _ w2 h2 k2 ok2
            rw [e2]
            have HN := hid (HKS.out.go h2 (HKA.out.trans k2) ok2 (by omega) (Cl.sm.open HKS.out.sm) (by rw [show (k : Int) + 2 = (k : Int) + 1 + 1 by omega]; exact e3))
            clear h2 k2 ok2 e1 e2 e3
            go_wp2_with fail
            go_roundg g1
            case measure => omega
            case rel => exact ⟨k + 1, by omega, by first | rfl | simp, hid ⟨_, _, _, _, _, _, HN.out⟩⟩
          · refine begin_any HSA.out HL.out HKS.out.ok (by omega) (by omega) (.inr ⟨e1, e2⟩) _ (fun e => by rw [e1] at e; cases e) ?_
            intro _ w2 m2 h2 k2 ok2
            have HN := hid (HKS.out.go h2 (HKA.out.trans k2) ok2 (by omega) (Cl.sm.open HKS.out.sm) (by rw [show (k : Int) + 2 = (k : Int) + 1 + 1 by omega]; exact e3))
            clear h2 k2 ok2 e1 e2 e3
            go_wp2_with fail
            go_roundg g1
            case measure => omega
            case rel => exact ⟨k + 1, by omega, by first | rfl | simp, hid ⟨_, _, _, _, _, _, HN.out⟩⟩
end Go.Proofs.YtmpgfpmkmgebdaaGreatDoor
