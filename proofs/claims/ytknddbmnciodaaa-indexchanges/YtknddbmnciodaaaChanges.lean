/- The walk of the statement IndexChanges. -/
import Derived.Test.YtknddbmnciodaaaLaws
import Derived.Test.YtknddbmnciodaaaOps2
import Derived.Test.YtknddbmnciodaaaChg
import Derived.Test.YtknddbmnciodaaaCopied
import Derived.Test.YtknddbmnciodaaaRAdd
namespace Go.Proofs.Ytknddbmnciodaaa
open Go.RowKit Go.Lib Go.Sort
open Ix
set_option linter.unusedVariables false
theorem cells6 {W : World} {b : Nat} {s : St} {a0 a1 a2 : Option Addr} {c0 c1 c2 : Nat} (hW : Has W b (stV s a0 a1 a2 c0 c1 c2) 28) : W.cell? ⟨b, 0, none⟩ = some (.int .i64 s.k) ∧ W.cell? ⟨b, 1, none⟩ = some (.int .i64 s.n) ∧ W.cell? ⟨b, 2, none⟩ = some (.int .i64 s.nx) ∧ W.cell? ⟨b, 3, none⟩ = some (.slice a0 s.sn.length c0) ∧ W.cell? ⟨b, 4, none⟩ = some (.slice a1 s.C.length c1) ∧ W.cell? ⟨b, 5, none⟩ = some (.slice a2 s.P.length c2) :=
  ⟨by rw [hW.cell]; rfl, by rw [hW.cell]; rfl, by rw [hW.cell]; rfl, by rw [hW.cell]; rfl, by rw [hW.cell]; rfl, by rw [hW.cell]; rfl⟩
theorem addS_len {s : St} {D : List ByteArray} {Q : List Pl} (h : addR s.C s.P D Q = 0) : (addS s D Q).C.length = s.C.length + D.length := by
  have h1 : adE s.C s.P D Q = 0 := by
    unfold addR at h
    by_cases h0 : adE s.C s.P D Q = 0
    · exact h0
    · rw [if_neg h0] at h; exact h
  unfold addS
  rw [List.length_map]
  exact (adE_ok h1).len
theorem droS_len (s : St) (D : List ByteArray) : (droS s D).C.length ≤ s.C.length := by
  unfold droS droL
  rw [List.length_map]
  have h1 : (drops D (s.C.zip s.P)).length ≤ (s.C.zip s.P).length := by unfold drops; exact List.length_filter_le _ _
  rw [List.length_zip] at h1
  omega
theorem resA_len {s : St} {D : List ByteArray} {Q : List Pl} (h1 : s.C.length ≤ 2000) (h2 : D.length ≤ 500) : (resS (addS s D Q) (addR s.C s.P D Q)).C.length ≤ 100000 := by
  unfold resS
  split
  · rw [addS_len (by assumption)]; omega
  · exact Nat.zero_le _
theorem resD_len {s : St} {D : List ByteArray} {er : Int} (h1 : s.C.length ≤ 2000) : (resS (droS s D) er).C.length ≤ 100000 := by
  unfold resS
  split
  · have := droS_len s D; omega
  · exact Nat.zero_le _
theorem resA_sn {s : St} {D : List ByteArray} {Q : List Pl} {er : Int} (h1 : s.sn.length ≤ 2000) : (resS (addS s D Q) er).sn.length ≤ 100000 := by
  unfold resS
  split
  · show s.sn.length ≤ 100000; omega
  · exact Nat.zero_le _
theorem resD_sn {s : St} {D : List ByteArray} {er : Int} (h1 : s.sn.length ≤ 2000) : (resS (droS s D) er).sn.length ≤ 100000 := by
  unfold resS
  split
  · show s.sn.length ≤ 100000; omega
  · exact Nat.zero_le _
set_option maxRecDepth 20000 in
set_option maxHeartbeats 16000000 in
theorem changes_walk (s : St) (a0 a1 a2 b1 b2 : Option Addr) (c0 c1 c2 d1 d2 : Nat) (D : List ByteArray) (Q : List Pl) (hn : s.C.length ≤ 4611686018427387903) (hn2 : s.P.length ≤ 4611686018427387903) (hn3 : s.sn.length ≤ 4611686018427387903) (hm : D.length ≤ 4611686018427387903) (hm2 : Q.length ≤ 4611686018427387903)
    (hr : ∀ x ∈ s.sn, x.root.size ≤ 281474976710656) (w : World) (hS : Sn w a0 s.sn) (hC : Tx w a1 s.C) (hP : Ps w a2 s.P) (hD : Tx w b1 D) (hQ : Ps w b2 Q) :
    Calls Try.prog 3 #[.agg (stV s a0 a1 a2 c0 c1 c2), .slice b1 D.length d1, .slice b2 Q.length d2] w fun e w' => e = .returned (.bool true) ∧ RowKit.Below w.heap.size w w' := by
  obtain ⟨w1, hw1, hB, n1⟩ := box_state (w := w) s a0 a1 a2 c0 c1 c2
  obtain ⟨b, hb⟩ : ∃ b, b = w.heap.size := ⟨_, rfl⟩
  rw [← hb] at n1
  have C0 := large_any s a0 a1 a2 c0 c1 c2 (by omega) (by omega) (by omega) w1
  have HS := hid (hS.below hB)
  have HC := hid (hC.below hB)
  have HP := hid (hP.below hB)
  have HD := hid (hD.below hB)
  have HQ := hid (hQ.below hB)
  have HB := hid hB
  have HN := hid n1
  have HBW := hid hb
  have HK := hid (fun W (hW : RowKit.Below w1.heap.size w1 W) => cells6 (n1.below hW n1.lt))
  clear hB n1 hS hC hP hD hQ
  change w1 = w.alloc (.cells #[.int .i64 s.k, .int .i64 s.n, .int .i64 s.nx, .slice a0 s.sn.length c0, .slice a1 s.C.length c1, .slice a2 s.P.length c2] 28) at hw1
  show Calls Try.prog 3 #[.agg #[.int .i64 s.k, .int .i64 s.n, .int .i64 s.nx, .slice a0 s.sn.length c0, .slice a1 s.C.length c1, .slice a2 s.P.length c2], .slice b1 D.length d1, .slice b2 Q.length d2] w _
  change Calls Try.prog 5 #[.agg #[.int .i64 s.k, .int .i64 s.n, .int .i64 s.nx, .slice a0 s.sn.length c0, .slice a1 s.C.length c1, .slice a2 s.P.length c2]] w1 _ at C0
  obtain ⟨m, hmm⟩ : ∃ m, m = D.length := ⟨_, rfl⟩
  obtain ⟨r, hrr⟩ : ∃ r, r = Q.length := ⟨_, rfl⟩
  have HMM := hid hmm
  have HRR := hid hrr
  rw [← hmm, ← hrr]
  clear hmm hrr
  obtain ⟨k0, k1, k2, k3, k4, k5⟩ := HK.out w1 (RowKit.Below.refl _ _)
  go_enter Try.func3, Try.ntmps3
  go_upto_region 1 with fail
  rw [← hw1, ← hb]
  clear hw1 hb
  go_wp2_with fail
  refine C0.mono ?_
  rintro e w2 ⟨rfl, b2'⟩
  have B2 := hid b2'
  have HB2 := hid (HB.out.trans (b2'.mono HB.out.size))
  clear C0 b2' k0 k1 k2 k3 k4 k5
  cases hlg : largeB s with
  | true =>
    go_wp2_with fail
    go_ret
    exact ⟨rfl, HB2.out⟩
  | false =>
    by_cases hm5 : 500 < m
    · have i5 : (500 : Int) < (m : Int) := by omega
      go_wp2_with fail
      go_ret
      exact ⟨rfl, HB2.out⟩
    have i5 : ¬ (500 : Int) < (m : Int) := by omega
    by_cases hr5 : 500 < r
    · have i6 : (500 : Int) < (r : Int) := by omega
      go_wp2_with fail
      go_ret
      exact ⟨rfl, HB2.out⟩
    have i6 : ¬ (500 : Int) < (r : Int) := by omega
    obtain ⟨hsz, hsn⟩ : s.C.length + s.P.length ≤ 2000 ∧ s.sn.length ≤ 2000 := by
      unfold largeB at hlg
      rw [Bool.or_eq_false_iff, decide_eq_false_iff_not, decide_eq_false_iff_not] at hlg
      omega
    have HZ1 : Hid (s.C.length ≤ 2000) := hid (by omega)
    have HZ2 : Hid (s.P.length ≤ 2000) := hid (by omega)
    have HZ3 : Hid (s.sn.length ≤ 2000) := hid (by omega)
    have HM5 : Hid (D.length ≤ 500) := hid (by have := HMM.out; omega)
    have HR5 : Hid (Q.length ≤ 500) := hid (by have := HRR.out; omega)
    clear hlg hsz hsn hn hn2 hn3 hm hm2
    obtain ⟨k0, k1, k2, k3, k4, k5⟩ := HK.out w2 B2.out
    have C1 := copied_any s a0 a1 a2 c0 c1 c2 (by have := HZ1.out; omega) (by have := HZ2.out; omega) (by have := HZ3.out; omega) w2 (HS.out.below B2.out) (HC.out.below B2.out) (HP.out.below B2.out)
    unfold stV at C1
    go_wp2_with fail
    refine C1.mono ?_
    rintro e w3 ⟨A0, A1, A2, e0, e1, e2, rfl, hS', hC', hP', b3⟩
    clear C1 k0 k1 k2 k3 k4 k5
    obtain ⟨q7, hq7⟩ : ∃ q, q = w3.heap.size := ⟨_, rfl⟩
    obtain ⟨x3, hx3⟩ : ∃ x3, x3 = w3.alloc (.cells #[.int .i64 s.k, .int .i64 s.n, .int .i64 s.nx, .slice A0 s.sn.length e0, .slice A1 s.C.length e1, .slice A2 s.P.length e2] 28) := ⟨_, rfl⟩
    have hbx : RowKit.Below w3.heap.size w3 x3 := by rw [hx3]; exact (RowKit.Below.refl _ _).alloc (Nat.le_refl _) _
    have n7 : Has x3 q7 (stV s A0 A1 A2 e0 e1 e2) 28 := by rw [hx3]; exact Has.new _ _ _ _ hq7
    have HK7 := hid (fun W (hW : RowKit.Below x3.heap.size x3 W) => cells6 (n7.below hW n7.lt))
    have HS3 := hid (hS'.below hbx)
    have HC3 := hid (hC'.below hbx)
    have HP3 := hid (hP'.below hbx)
    have B3 := hid ((B2.out.trans (b3.mono B2.out.size)).trans (hbx.mono (Nat.le_trans B2.out.size b3.size)))
    have HB3 := hid ((HB2.out.trans (b3.mono HB2.out.size)).trans (hbx.mono (Nat.le_trans HB2.out.size b3.size)))
    clear hS' hC' hP' b3 hbx n7 B2 HB2
    have HW3 := hid (fun W (hW : RowKit.Below x3.heap.size x3 W) => B3.out.trans (hW.mono B3.out.size))
    have HADD := hid (fun W (hW : RowKit.Below x3.heap.size x3 W) => add_any s A0 A1 A2 b1 b2 e0 e1 e2 d1 d2 D Q (by have := HZ1.out; omega) (by have := HZ2.out; omega) (by have := HZ3.out; omega) (by have := HM5.out; omega) (by have := HR5.out; omega) hr W (HS3.out.below hW) (HC3.out.below hW) (HP3.out.below hW) (HD.out.below (HW3.out W hW)) (HQ.out.below (HW3.out W hW)))
    have HRAD := hid (fun W (hW : RowKit.Below x3.heap.size x3 W) => refAdd_any s a0 a1 a2 b1 b2 c0 c1 c2 d1 d2 D Q (by have := HZ1.out; omega) (by have := HZ2.out; omega) (by have := HM5.out; omega) (by have := HR5.out; omega) W (HS.out.below (HW3.out W hW)) (HC.out.below (HW3.out W hW)) (HP.out.below (HW3.out W hW)) (HD.out.below (HW3.out W hW)) (HQ.out.below (HW3.out W hW)))
    have HDRO := hid (fun W (hW : RowKit.Below x3.heap.size x3 W) => drop_any s A0 A1 A2 b1 e0 e1 e2 d1 D (by have := HZ1.out; omega) (by have := HZ2.out; omega) (by have := HZ3.out; omega) (by have := HM5.out; omega) hr W (HS3.out.below hW) (HC3.out.below hW) (HP3.out.below hW) (HD.out.below (HW3.out W hW)))
    have HRDR := hid (fun W (hW : RowKit.Below x3.heap.size x3 W) => refDrop_any s a0 a1 a2 b1 c0 c1 c2 d1 D (by have := HZ1.out; omega) (by have := HZ2.out; omega) (by have := HM5.out; omega) W (HS.out.below (HW3.out W hW)) (HC.out.below (HW3.out W hW)) (HP.out.below (HW3.out W hW)) (HD.out.below (HW3.out W hW)))
    have HSAM := hid (fun W (hW : RowKit.Below x3.heap.size x3 W) => same_any s A0 A1 A2 a0 a1 a2 e0 e1 e2 c0 c1 c2 (by have := HZ1.out; omega) (by have := HZ2.out; omega) (by have := HZ3.out; omega) W (HS3.out.below hW) (HC3.out.below hW) (HP3.out.below hW) (HS.out.below (HW3.out W hW)) (HC.out.below (HW3.out W hW)) (HP.out.below (HW3.out W hW)))
    have HTL := hid (resA_len (Q := Q) HZ1.out HM5.out)
    have HTS := hid (resA_sn (D := D) (Q := Q) (er := addR s.C s.P D Q) HZ3.out)
    have HUL := hid (resD_len (D := D) (er := droE s.C s.P D) HZ1.out)
    have HUS := hid (resD_sn (D := D) (er := droE s.C s.P D) HZ3.out)
    have HAL : Hid ((addS s D Q).C.length = (addS s D Q).P.length) := hid (by unfold addS; rw [List.length_map, List.length_map])
    have HDL : Hid ((droS s D).C.length = (droS s D).P.length) := hid (by unfold droS; rw [List.length_map, List.length_map])
    rw [← HMM.out, ← HRR.out] at HADD HRAD
    rw [← HMM.out] at HDRO HRDR
    unfold stV at HADD HRAD HDRO HRDR HSAM
    clear HZ1 HZ2 HZ3 hr
    generalize addR s.C s.P D Q = ea at *
    generalize droE s.C s.P D = ed at *
    go_upto_region 4 with fail
    rw [← hx3, ← hq7]
    clear hx3 hq7
    go_wp2_with fail
    go_loopw [8, 9, 10, 11, 12, 13, 14, 15, 16, 17, 18] (fun v8 _ _ _ _ _ _ _ _ _ _ wr => ∃ k : Nat, k ≤ 2 ∧ v8 = .int .i64 (k : Int) ∧ Hid (RowKit.Below x3.heap.size x3 wr)) (fun v8 _ _ _ _ _ _ _ _ _ _ _ => 2 - (intOf v8).toNat)
    case atStart => exact ⟨0, by omega, rfl, hid (RowKit.Below.refl _ _)⟩
    case round =>
      obtain ⟨k, hk2, rfl, HX⟩ := hrel
      by_cases hlt : k < 2
      · have i1 : (k : Int) < 2 := by omega
        have i0 : (0 : Int) ≤ (k : Int) := by omega
        have wk : IntKind.i64.wrap ((k : Int) + 1) = ((k + 1 : Nat) : Int) := by rw [IntKind.wrap_i64]; omega
        have C1 := HADD.out _ HX.out
        obtain ⟨k0, k1, k2, k3, k4, k5⟩ := HK7.out _ HX.out
        go_wp2_with fail
        refine C1.mono ?_
        rintro e wa ⟨vv, rfl, hg⟩
        have hbl := hg.below
        obtain ⟨B0, B1, B2, bf0, bf1, bf2, rfl, r1, r2, r3, r4, r5⟩ := hg.read HAL.out
        clear C1 hg k0 k1 k2 k3 k4 k5
        generalize hT : resS (addS s D Q) ea = t at *
        have HTE := hid hT
        clear hT
        unfold stV
        obtain ⟨q9, hq9⟩ : ∃ q, q = wa.heap.size := ⟨_, rfl⟩
        obtain ⟨xa, hxa⟩ : ∃ x, x = wa.alloc (.cells #[.int .i64 t.k, .int .i64 t.n, .int .i64 t.nx, .slice B0 t.sn.length bf0, .slice B1 t.C.length bf1, .slice B2 t.P.length bf2] 28) := ⟨_, rfl⟩
        have hbx : RowKit.Below wa.heap.size wa xa := by rw [hxa]; exact (RowKit.Below.refl _ _).alloc (Nat.le_refl _) _
        have hsz : xa.heap.size = wa.heap.size + 1 := by rw [hxa]; simp
        have N9 : Hid (Has xa q9 (stV t B0 B1 B2 bf0 bf1 bf2) 28) := hid (by rw [hxa]; exact Has.new _ _ _ _ hq9)
        have R9S := hid (r1.below hbx)
        have R9C := hid (r2.below hbx)
        have R9P := hid (r3.below hbx)
        have R9W := hid (r4.below hbx)
        have R9L := hid r5
        have HXb := hid ((HX.out.trans (hbl.mono HX.out.size)).trans (hbx.mono (Nat.le_trans HX.out.size hbl.size)))
        have L9 : Hid (wr.heap.size ≤ wa.heap.size ∧ q9 = wa.heap.size ∧ xa.heap.size = wa.heap.size + 1) := hid ⟨hbl.size, hq9, hsz⟩
        clear hbl hbx r1 r2 r3 hsz r4 r5
        go_upto_region 8 with fail
        rw [← hxa, ← hq9]
        clear hxa hq9
        have C1 := HRAD.out _ HXb.out
        obtain ⟨k0, k1, k2, k3, k4, k5⟩ := HK.out _ (HW3.out _ HXb.out)
        go_wp2_with fail
        refine C1.mono ?_
        rintro e wb ⟨vv, rfl, hg⟩
        have hbl := hg.below
        obtain ⟨F0, F1, F2, ff0, ff1, ff2, rfl, r1, r2, r3⟩ := hg.read
        clear C1 hg k0 k1 k2 k3 k4 k5
        rw [HTE.out] at r1 r2 r3 ⊢
        unfold stV
        obtain ⟨q11, hq11⟩ : ∃ q, q = wb.heap.size := ⟨_, rfl⟩
        obtain ⟨xb, hxb⟩ : ∃ x, x = wb.alloc (.cells #[.int .i64 t.k, .int .i64 t.n, .int .i64 t.nx, .slice F0 t.sn.length ff0, .slice F1 t.C.length ff1, .slice F2 t.P.length ff2] 28) := ⟨_, rfl⟩
        have hbx : RowKit.Below wb.heap.size wb xb := by rw [hxb]; exact (RowKit.Below.refl _ _).alloc (Nat.le_refl _) _
        have hsz : xb.heap.size = wb.heap.size + 1 := by rw [hxb]; simp
        have N11 : Hid (Has xb q11 (stV t F0 F1 F2 ff0 ff1 ff2) 28) := hid (by rw [hxb]; exact Has.new _ _ _ _ hq11)
        have R11S := hid (r1.below hbx)
        have R11C := hid (r2.below hbx)
        have R11P := hid (r3.below hbx)
        have N9 := hid ((N9.out.below hbl N9.out.lt).below hbx (Nat.lt_of_lt_of_le N9.out.lt hbl.size))
        have R9S := hid ((R9S.out.below hbl).below hbx)
        have R9C := hid ((R9C.out.below hbl).below hbx)
        have R9P := hid ((R9P.out.below hbl).below hbx)
        have R9W := hid ((R9W.out.below hbl).below hbx)
        have HXc := hid ((HXb.out.trans (hbl.mono HXb.out.size)).trans (hbx.mono (Nat.le_trans HXb.out.size hbl.size)))
        have L11 : Hid (xa.heap.size ≤ wb.heap.size ∧ q11 = wb.heap.size ∧ xb.heap.size = wb.heap.size + 1) := hid ⟨hbl.size, hq11, hsz⟩
        clear hbl hbx r1 r2 r3 hsz
        go_upto_region 9 with fail
        rw [← hxb, ← hq11]
        clear hxb hq11
        have C1 := HDRO.out _ HXc.out
        obtain ⟨k0, k1, k2, k3, k4, k5⟩ := HK7.out _ HXc.out
        go_wp2_with fail
        refine C1.mono ?_
        rintro e wc ⟨vv, rfl, hg⟩
        have hbl := hg.below
        obtain ⟨G0, G1, G2, gf0, gf1, gf2, rfl, r1, r2, r3, r4, r5⟩ := hg.read HDL.out
        clear C1 hg k0 k1 k2 k3 k4 k5
        generalize hU : resS (droS s D) ed = u at *
        have HUE := hid hU
        clear hU
        unfold stV
        obtain ⟨q13, hq13⟩ : ∃ q, q = wc.heap.size := ⟨_, rfl⟩
        obtain ⟨xc, hxc⟩ : ∃ x, x = wc.alloc (.cells #[.int .i64 u.k, .int .i64 u.n, .int .i64 u.nx, .slice G0 u.sn.length gf0, .slice G1 u.C.length gf1, .slice G2 u.P.length gf2] 28) := ⟨_, rfl⟩
        have hbx : RowKit.Below wc.heap.size wc xc := by rw [hxc]; exact (RowKit.Below.refl _ _).alloc (Nat.le_refl _) _
        have hsz : xc.heap.size = wc.heap.size + 1 := by rw [hxc]; simp
        have N13 : Hid (Has xc q13 (stV u G0 G1 G2 gf0 gf1 gf2) 28) := hid (by rw [hxc]; exact Has.new _ _ _ _ hq13)
        have R13S := hid (r1.below hbx)
        have R13C := hid (r2.below hbx)
        have R13P := hid (r3.below hbx)
        have R13W := hid (r4.below hbx)
        have R13L := hid r5
        have N9 := hid ((N9.out.below hbl N9.out.lt).below hbx (Nat.lt_of_lt_of_le N9.out.lt hbl.size))
        have R9S := hid ((R9S.out.below hbl).below hbx)
        have R9C := hid ((R9C.out.below hbl).below hbx)
        have R9P := hid ((R9P.out.below hbl).below hbx)
        have R9W := hid ((R9W.out.below hbl).below hbx)
        have N11 := hid ((N11.out.below hbl N11.out.lt).below hbx (Nat.lt_of_lt_of_le N11.out.lt hbl.size))
        have R11S := hid ((R11S.out.below hbl).below hbx)
        have R11C := hid ((R11C.out.below hbl).below hbx)
        have R11P := hid ((R11P.out.below hbl).below hbx)
        have HXd := hid ((HXc.out.trans (hbl.mono HXc.out.size)).trans (hbx.mono (Nat.le_trans HXc.out.size hbl.size)))
        have L13 : Hid (xb.heap.size ≤ wc.heap.size ∧ q13 = wc.heap.size ∧ xc.heap.size = wc.heap.size + 1) := hid ⟨hbl.size, hq13, hsz⟩
        clear hbl hbx r1 r2 r3 hsz r4 r5
        go_upto_region 10 with fail
        rw [← hxc, ← hq13]
        clear hxc hq13
        have C1 := HRDR.out _ HXd.out
        obtain ⟨k0, k1, k2, k3, k4, k5⟩ := HK.out _ (HW3.out _ HXd.out)
        go_wp2_with fail
        refine C1.mono ?_
        rintro e wd ⟨vv, rfl, hg⟩
        have hbl := hg.below
        obtain ⟨H0, H1, H2, hf0, hf1, hf2, rfl, r1, r2, r3⟩ := hg.read
        clear C1 hg k0 k1 k2 k3 k4 k5
        rw [HUE.out] at r1 r2 r3 ⊢
        unfold stV
        obtain ⟨q15, hq15⟩ : ∃ q, q = wd.heap.size := ⟨_, rfl⟩
        obtain ⟨xd, hxd⟩ : ∃ x, x = wd.alloc (.cells #[.int .i64 u.k, .int .i64 u.n, .int .i64 u.nx, .slice H0 u.sn.length hf0, .slice H1 u.C.length hf1, .slice H2 u.P.length hf2] 28) := ⟨_, rfl⟩
        have hbx : RowKit.Below wd.heap.size wd xd := by rw [hxd]; exact (RowKit.Below.refl _ _).alloc (Nat.le_refl _) _
        have hsz : xd.heap.size = wd.heap.size + 1 := by rw [hxd]; simp
        have N15 : Hid (Has xd q15 (stV u H0 H1 H2 hf0 hf1 hf2) 28) := hid (by rw [hxd]; exact Has.new _ _ _ _ hq15)
        have R15S := hid (r1.below hbx)
        have R15C := hid (r2.below hbx)
        have R15P := hid (r3.below hbx)
        have N9 := hid ((N9.out.below hbl N9.out.lt).below hbx (Nat.lt_of_lt_of_le N9.out.lt hbl.size))
        have R9S := hid ((R9S.out.below hbl).below hbx)
        have R9C := hid ((R9C.out.below hbl).below hbx)
        have R9P := hid ((R9P.out.below hbl).below hbx)
        have R9W := hid ((R9W.out.below hbl).below hbx)
        have N11 := hid ((N11.out.below hbl N11.out.lt).below hbx (Nat.lt_of_lt_of_le N11.out.lt hbl.size))
        have R11S := hid ((R11S.out.below hbl).below hbx)
        have R11C := hid ((R11C.out.below hbl).below hbx)
        have R11P := hid ((R11P.out.below hbl).below hbx)
        have N13 := hid ((N13.out.below hbl N13.out.lt).below hbx (Nat.lt_of_lt_of_le N13.out.lt hbl.size))
        have R13S := hid ((R13S.out.below hbl).below hbx)
        have R13C := hid ((R13C.out.below hbl).below hbx)
        have R13P := hid ((R13P.out.below hbl).below hbx)
        have R13W := hid ((R13W.out.below hbl).below hbx)
        have HXe := hid ((HXd.out.trans (hbl.mono HXd.out.size)).trans (hbx.mono (Nat.le_trans HXd.out.size hbl.size)))
        have L15 : Hid (xc.heap.size ≤ wd.heap.size ∧ q15 = wd.heap.size ∧ xd.heap.size = wd.heap.size + 1) := hid ⟨hbl.size, hq15, hsz⟩
        clear hbl hbx r1 r2 r3 hsz
        go_upto_region 11 with fail
        rw [← hxd, ← hq15]
        clear hxd hq15
        obtain ⟨k0, k1, k2, k3, k4, k5⟩ := HK7.out _ HXe.out
        obtain ⟨l0, l1, l2, l3, l4, l5⟩ := HK.out _ (HW3.out _ HXe.out)
        obtain ⟨p0, p1, p2, p3, p4, p5⟩ := cells6 N9.out
        obtain ⟨r0, r1, r2, r3, r4, r5⟩ := cells6 N11.out
        clear k0 k1 k2 k3 k4 k5 l0 l1 l2 l3 l4 l5
        go_wp2_with fail
        refine (same_any t B0 B1 B2 F0 F1 F2 bf0 bf1 bf2 ff0 ff1 ff2 HTL.out ?_ HTS.out _ R9S.out R9C.out R9P.out R11S.out R11C.out R11P.out).mono ?_
        · rw [← R9L.out]; exact HTL.out
        rintro e y1 ⟨rfl, v1⟩
        clear p0 p1 p2 p3 p4 p5 r0 r1 r2 r3 r4 r5
        have HV1 := hid v1
        obtain ⟨p0, p1, p2, p3, p4, p5⟩ := cells6 (N13.out.below v1 N13.out.lt)
        obtain ⟨r0, r1, r2, r3, r4, r5⟩ := cells6 (N15.out.below v1 N15.out.lt)
        clear v1
        go_wp2_with fail
        refine (same_any u G0 G1 G2 H0 H1 H2 gf0 gf1 gf2 hf0 hf1 hf2 HUL.out ?_ HUS.out _ (R13S.out.below HV1.out) (R13C.out.below HV1.out) (R13P.out.below HV1.out) (R15S.out.below HV1.out) (R15C.out.below HV1.out) (R15P.out.below HV1.out)).mono ?_
        · rw [← R13L.out]; exact HUL.out
        rintro e y2 ⟨rfl, v2⟩
        clear p0 p1 p2 p3 p4 p5 r0 r1 r2 r3 r4 r5
        have HV2 := hid (HV1.out.trans (v2.mono HV1.out.size))
        have HX2 := hid (HXe.out.trans (HV2.out.mono HXe.out.size))
        obtain ⟨p0, p1, p2, p3, p4, p5⟩ := HK7.out _ HX2.out
        obtain ⟨r0, r1, r2, r3, r4, r5⟩ := HK.out _ (HW3.out _ HX2.out)
        clear v2 HV1
        go_wp2_with fail
        refine (HSAM.out _ HX2.out).mono ?_
        rintro e y3 ⟨rfl, v3⟩
        clear p0 p1 p2 p3 p4 p5 r0 r1 r2 r3 r4 r5
        have HV3 := hid (HV2.out.trans (v3.mono HV2.out.size))
        have HX3 := hid (HXe.out.trans (HV3.out.mono HXe.out.size))
        have M9 := hid (N9.out.below HV3.out N9.out.lt)
        have M13 := hid (N13.out.below HV3.out N13.out.lt)
        have W9 := hid (R9W.out.below HV3.out)
        have W13 := hid (R13W.out.below HV3.out)
        have HLL : Hid (x3.heap.size ≤ wr.heap.size) := hid HX.out.size
        obtain ⟨LA, hLA⟩ : ∃ LA, LA = wr.heap.size := ⟨_, rfl⟩
        obtain ⟨HA, hHA⟩ : ∃ HA, HA = wa.heap.size := ⟨_, rfl⟩
        obtain ⟨LC, hLC⟩ : ∃ LC, LC = xb.heap.size := ⟨_, rfl⟩
        obtain ⟨HC', hHC⟩ : ∃ HC', HC' = wc.heap.size := ⟨_, rfl⟩
        have HNN : Hid (x3.heap.size ≤ LA ∧ LA ≤ HA ∧ q9 = HA ∧ HA < LC ∧ LC ≤ HC' ∧ q13 = HC') := hid (by
          have a1 := L9.out; have a2 := L11.out; have a3 := L13.out; have a4 := HLL.out
          omega)
        rw [← hLA, ← hHA] at W9
        rw [← hLC, ← hHC] at W13
        clear v3 HV2 HX2 HV3 R9S R9C R9P R9W R11S R11C R11P R13S R13C R13P R13W R15S R15C R15P N9 N11 N13 N15 L9 L11 L13 L15 HLL hLA hHA hLC hHC HXb HXc HXd HXe HX
        go_wp2_with fail
        go_loopw [17] (fun v wz => ∃ i : Nat, i ≤ t.C.length ∧ v = .int .i64 (i : Int) ∧ Hid (Wr wz LA HA t.C.length B1 B2) ∧ Hid (Wr wz LC HC' u.C.length G1 G2) ∧ Hid (Has wz q9 (stV t B0 B1 B2 bf0 bf1 bf2) 28) ∧ Hid (Has wz q13 (stV u G0 G1 G2 gf0 gf1 gf2) 28) ∧ Hid (RowKit.Below x3.heap.size x3 wz)) (fun v _ => t.C.length - (intOf v).toNat)
        case atStart => exact ⟨0, Nat.zero_le _, rfl, W9, W13, M9, M13, HX3⟩
        case round =>
          obtain ⟨i, hi, rfl, HWA, HWC, H9, H13, HBX⟩ := hrel
          obtain ⟨p0, p1, p2, p3, p4, p5⟩ := cells6 H9.out
          by_cases hlt2 : i < t.C.length
          · obtain ⟨g1, e1, lg1, hg1, zg1, ⟨u1, cu1⟩, fr1, put1⟩ := HWA.out.dig hlt2
            subst e1
            have j1 : (i : Int) < (t.C.length : Int) := by omega
            have j2 : (i : Int) < (t.P.length : Int) := by have := R9L.out; omega
            have j0 : (0 : Int) ≤ (i : Int) := by omega
            have wi : IntKind.i64.wrap ((i : Int) + 1) = ((i + 1 : Nat) : Int) := by rw [IntKind.wrap_i64]; have := HTL.out; have := HUL.out; omega
            obtain ⟨z1, hz1⟩ : ∃ z1, z1 = (wr.setCell ⟨g1, i, none⟩ (.string ⟨#[63]⟩)) := ⟨_, rfl⟩
            have P1 := put1 (.string ⟨#[63]⟩)
            rw [← hz1] at P1
            have h9 := H9.out.other ⟨g1, i, none⟩ (.string ⟨#[63]⟩) (show q9 ≠ g1 by have := HNN.out; omega)
            rw [← hz1] at h9
            have h13 := H13.out.other ⟨g1, i, none⟩ (.string ⟨#[63]⟩) (show q13 ≠ g1 by have := HNN.out; omega)
            rw [← hz1] at h13
            have HC2 := HWC.out.apart (b := g1) (o := i) (u := .string ⟨#[63]⟩) (.inl (by have := HNN.out; omega))
            rw [← hz1] at HC2
            have HB2 := HBX.out.setCell (p := ⟨g1, i, none⟩) (show x3.heap.size ≤ g1 by have := HNN.out; omega) (.string ⟨#[63]⟩)
            rw [← hz1] at HB2
            obtain ⟨g2, e2, lg2, hg2, zg2, ⟨u2, cu2⟩, fr2, put2⟩ := P1.pla hlt2
            subst e2
            have P2 := hid (put2 (.int .i64 (-1)))
            have H9'' := hid (h9.other ⟨g2, i * 3 + 1, none⟩ (.int .i64 (-1)) (show q9 ≠ g2 by have := HNN.out; omega))
            have H13'' := hid (h13.other ⟨g2, i * 3 + 1, none⟩ (.int .i64 (-1)) (show q13 ≠ g2 by have := HNN.out; omega))
            have HC3 := hid (HC2.apart (b := g2) (o := i * 3 + 1) (u := .int .i64 (-1)) (.inl (by have := HNN.out; omega)))
            have HB3' := hid (HB2.setCell (p := ⟨g2, i * 3 + 1, none⟩) (show x3.heap.size ≤ g2 by have := HNN.out; omega) (.int .i64 (-1)))
            obtain ⟨s0, s1, s2, s3, s4, s5⟩ := cells6 h9
            clear put1 put2 P1 HWA H9 HBX h9 HB2 h13 HC2 HWC H13
            go_upto_region 17 with fail
            rw [← hz1]
            clear hz1 p0 p1 p2 p3 p4 p5 cu1 fr1
            go_wp2_with fail
            go_roundw
            case rel => exact ⟨i + 1, by omega, by rfl, P2, HC3, H9'', H13'', HB3'⟩
            case measure => first | (simp [intOf]; done) | (simp [intOf]; omega)
          · obtain rfl : i = t.C.length := by omega
            have j1 : ¬ ((t.C.length : Int) < (t.C.length : Int)) := by omega
            clear HWA H9
            go_wp2_with fail
            go_loopw [18] (fun v wz => ∃ i : Nat, i ≤ u.C.length ∧ v = .int .i64 (i : Int) ∧ Hid (Wr wz LC HC' u.C.length G1 G2) ∧ Hid (Has wz q13 (stV u G0 G1 G2 gf0 gf1 gf2) 28) ∧ Hid (RowKit.Below x3.heap.size x3 wz)) (fun v _ => u.C.length - (intOf v).toNat)
            case atStart => exact ⟨0, Nat.zero_le _, rfl, HWC, H13, HBX⟩
            case round =>
              obtain ⟨i, hi, rfl, HWA, H9, HBX⟩ := hrel
              obtain ⟨p0, p1, p2, p3, p4, p5⟩ := cells6 H9.out
              by_cases hlt2 : i < u.C.length
              · obtain ⟨g1, e1, lg1, hg1, zg1, ⟨u1, cu1⟩, fr1, put1⟩ := HWA.out.dig hlt2
                subst e1
                have j1 : (i : Int) < (u.C.length : Int) := by omega
                have j2 : (i : Int) < (u.P.length : Int) := by have := R13L.out; omega
                have j0 : (0 : Int) ≤ (i : Int) := by omega
                have wi : IntKind.i64.wrap ((i : Int) + 1) = ((i + 1 : Nat) : Int) := by rw [IntKind.wrap_i64]; have := HTL.out; have := HUL.out; omega
                obtain ⟨z1, hz1⟩ : ∃ z1, z1 = (wr.setCell ⟨g1, i, none⟩ (.string ⟨#[63]⟩)) := ⟨_, rfl⟩
                have P1 := put1 (.string ⟨#[63]⟩)
                rw [← hz1] at P1
                have h9 := H9.out.other ⟨g1, i, none⟩ (.string ⟨#[63]⟩) (show q13 ≠ g1 by have := HNN.out; omega)
                rw [← hz1] at h9
                have HB2 := HBX.out.setCell (p := ⟨g1, i, none⟩) (show x3.heap.size ≤ g1 by have := HNN.out; omega) (.string ⟨#[63]⟩)
                rw [← hz1] at HB2
                obtain ⟨g2, e2, lg2, hg2, zg2, ⟨u2, cu2⟩, fr2, put2⟩ := P1.pla hlt2
                subst e2
                have P2 := hid (put2 (.int .i64 (-1)))
                have H9'' := hid (h9.other ⟨g2, i * 3 + 1, none⟩ (.int .i64 (-1)) (show q13 ≠ g2 by have := HNN.out; omega))
                have HB3' := hid (HB2.setCell (p := ⟨g2, i * 3 + 1, none⟩) (show x3.heap.size ≤ g2 by have := HNN.out; omega) (.int .i64 (-1)))
                obtain ⟨s0, s1, s2, s3, s4, s5⟩ := cells6 h9
                clear put1 put2 P1 HWA H9 HBX h9 HB2
                go_upto_region 22 with fail
                rw [← hz1]
                clear hz1 p0 p1 p2 p3 p4 p5 cu1 fr1
                go_wp2_with fail
                go_roundw
                case rel => exact ⟨i + 1, by omega, by rfl, P2, H9'', HB3'⟩
                case measure => first | (simp [intOf]; done) | (simp [intOf]; omega)
              · obtain rfl : i = u.C.length := by omega
                have j1 : ¬ ((u.C.length : Int) < (u.C.length : Int)) := by omega
                clear HWA H9
                go_wp2_with fail
                go_roundw
                case rel => exact ⟨k + 1, by omega, by rfl, HBX⟩
                case measure => first | (simp [intOf]; done) | (simp [intOf]; omega)
      · obtain rfl : k = 2 := by omega
        go_wp2_with fail
        go_ret
        exact ⟨rfl, HB3.out.trans (HX.out.mono HB3.out.size)⟩
end Go.Proofs.Ytknddbmnciodaaa
