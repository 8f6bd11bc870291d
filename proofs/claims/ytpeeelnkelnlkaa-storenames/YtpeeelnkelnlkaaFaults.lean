/- faults: the examples. Printed by gen_faults.py. -/
import Derived.Test.YtpeeelnkelnlkaaBun
namespace Go.Proofs.Ytpeeelnkelnlkaa
open Go.RowKit Go.Maps
theorem st0_w16fit : Fit 100 st0 := fit_of (by decide +kernel)
theorem st0_w16lv : st0.writes ≠ [] → st0.live = true := by decide +kernel
def w16k1 : St := ⟨[(⟨#[97]⟩, ⟨#[49, 49]⟩)], [⟨⟨#[97]⟩, none, some ⟨#[49, 49]⟩⟩], false, none, none, true⟩
theorem w16k1_w16fit : Fit 100 w16k1 := fit_of (by decide +kernel)
theorem w16k1_w16lv : w16k1.writes ≠ [] → w16k1.live = true := by decide +kernel
theorem w16f1 : putS st0 ⟨#[97]⟩ ⟨#[49, 49]⟩ = (0, w16k1) := by decide +kernel
def w16k2 : St := ⟨[(⟨#[97]⟩, ⟨#[49, 49]⟩), (⟨#[98]⟩, ⟨#[]⟩)], [⟨⟨#[97]⟩, none, some ⟨#[49, 49]⟩⟩, ⟨⟨#[98]⟩, none, some ⟨#[]⟩⟩], false, none, none, true⟩
theorem w16k2_w16fit : Fit 100 w16k2 := fit_of (by decide +kernel)
theorem w16k2_w16lv : w16k2.writes ≠ [] → w16k2.live = true := by decide +kernel
theorem w16f2 : putS w16k1 ⟨#[98]⟩ ⟨#[]⟩ = (0, w16k2) := by decide +kernel
def w16k3 : St := ⟨[(⟨#[97]⟩, ⟨#[49, 49]⟩), (⟨#[98]⟩, ⟨#[]⟩), (⟨#[99]⟩, ⟨#[51, 51, 51]⟩)], [⟨⟨#[97]⟩, none, some ⟨#[49, 49]⟩⟩, ⟨⟨#[98]⟩, none, some ⟨#[]⟩⟩, ⟨⟨#[99]⟩, none, some ⟨#[51, 51, 51]⟩⟩], false, none, none, true⟩
theorem w16k3_w16fit : Fit 100 w16k3 := fit_of (by decide +kernel)
theorem w16k3_w16lv : w16k3.writes ≠ [] → w16k3.live = true := by decide +kernel
theorem w16f3 : putS w16k2 ⟨#[99]⟩ ⟨#[51, 51, 51]⟩ = (0, w16k3) := by decide +kernel
def w16k4 : St := ⟨[(⟨#[97]⟩, ⟨#[49, 49]⟩), (⟨#[98]⟩, ⟨#[]⟩), (⟨#[99]⟩, ⟨#[51, 120, 51]⟩)], [], false, none, none, true⟩
theorem w16k4_w16fit : Fit 100 w16k4 := fit_of (by decide +kernel)
theorem w16k4_w16lv : w16k4.writes ≠ [] → w16k4.live = true := by decide +kernel
theorem w16f4 : strikeS w16k3 (3) (5) (4) (120) = (0, w16k4) := by decide +kernel
theorem w16f5 : crashS w16k4 [] = w16k4 := by decide +kernel
theorem w16f6 : hasS w16k4 ⟨#[99]⟩ ⟨#[51, 120, 51]⟩ = true := by decide +kernel
theorem w16f7 : strikeS w16k4 (3) (1) (0) (120) = (0, w16k4) := by decide +kernel
theorem w16f8 : hasS w16k4 ⟨#[98]⟩ ⟨#[]⟩ = true := by decide +kernel
def w16k5 : St := ⟨[(⟨#[98]⟩, ⟨#[]⟩), (⟨#[99]⟩, ⟨#[51, 120, 51]⟩)], [], false, none, none, true⟩
theorem w16k5_w16fit : Fit 100 w16k5 := fit_of (by decide +kernel)
theorem w16k5_w16lv : w16k5.writes ≠ [] → w16k5.live = true := by decide +kernel
theorem w16f9 : strikeS w16k4 (2) (3) (0) (0) = (0, w16k5) := by decide +kernel
def w16k6 : St := ⟨[(⟨#[97]⟩, ⟨#[57]⟩), (⟨#[98]⟩, ⟨#[]⟩), (⟨#[99]⟩, ⟨#[51, 120, 51]⟩)], [⟨⟨#[97]⟩, none, some ⟨#[57]⟩⟩], false, none, none, true⟩
theorem w16k6_w16fit : Fit 100 w16k6 := fit_of (by decide +kernel)
theorem w16k6_w16lv : w16k6.writes ≠ [] → w16k6.live = true := by decide +kernel
theorem w16f10 : putS w16k5 ⟨#[97]⟩ ⟨#[57]⟩ = (0, w16k6) := by decide +kernel
theorem w16f11 : crashS w16k6 [] = w16k5 := by decide +kernel
def w16k7 : St := ⟨[(⟨#[98]⟩, ⟨#[]⟩), (⟨#[99]⟩, ⟨#[51, 120, 51]⟩)], [], true, none, none, true⟩
theorem w16k7_w16fit : Fit 100 w16k7 := fit_of (by decide +kernel)
theorem w16k7_w16lv : w16k7.writes ≠ [] → w16k7.live = true := by decide +kernel
theorem w16f12 : strikeS w16k5 (4) (0) (0) (0) = (0, w16k7) := by decide +kernel
theorem w16f13 : putS w16k7 ⟨#[113]⟩ ⟨#[]⟩ = (51, w16k7) := by decide +kernel
theorem w16f14 : delS w16k7 ⟨#[113]⟩ = (51, w16k7) := by decide +kernel
theorem w16f15 : sync w16k7 = (51, w16k7) := by decide +kernel
theorem w16f16 : putS w16k7 ⟨#[]⟩ ⟨#[]⟩ = (1, w16k7) := by decide +kernel
theorem w16f17 : get w16k7 ⟨#[98]⟩ = (⟨#[]⟩, 51) := by decide +kernel
def w16k8 : St := ⟨[(⟨#[99]⟩, ⟨#[51, 120, 51]⟩)], [], true, none, none, true⟩
theorem w16k8_w16fit : Fit 100 w16k8 := fit_of (by decide +kernel)
theorem w16k8_w16lv : w16k8.writes ≠ [] → w16k8.live = true := by decide +kernel
theorem w16f18 : strikeS w16k7 (2) (0) (0) (0) = (0, w16k8) := by decide +kernel
theorem w16f19 : crashS w16k8 [] = w16k8 := by decide +kernel
def w16k9 : St := ⟨[(⟨#[99]⟩, ⟨#[51, 120, 51]⟩)], [], false, none, none, true⟩
theorem w16k9_w16fit : Fit 100 w16k9 := fit_of (by decide +kernel)
theorem w16k9_w16lv : w16k9.writes ≠ [] → w16k9.live = true := by decide +kernel
theorem w16f20 : strikeS w16k8 (5) (0) (0) (0) = (0, w16k9) := by decide +kernel
def w16k10 : St := ⟨[(⟨#[99]⟩, ⟨#[51, 120, 51]⟩), (⟨#[100]⟩, ⟨#[52]⟩)], [⟨⟨#[100]⟩, none, some ⟨#[52]⟩⟩], false, none, none, true⟩
theorem w16k10_w16fit : Fit 100 w16k10 := fit_of (by decide +kernel)
theorem w16k10_w16lv : w16k10.writes ≠ [] → w16k10.live = true := by decide +kernel
theorem w16f21 : putS w16k9 ⟨#[100]⟩ ⟨#[52]⟩ = (0, w16k10) := by decide +kernel
theorem w16f22 : strikeS w16k10 (1) (0) (0) (0) = (0, st0) := by decide +kernel
theorem w16f23 : crashS st0 [65536, 65536] = st0 := by decide +kernel
theorem w16f24 : strikeS st0 (2) (0) (0) (0) = (0, st0) := by decide +kernel
theorem w16f25 : strikeS st0 (3) (0) (0) (0) = (0, st0) := by decide +kernel
set_option maxHeartbeats 4000000 in
set_option maxRecDepth 20000 in
theorem faults_true (w : World) : Calls Try.prog 16 #[] w fun e w' => e = .returned (.bool true) ∧ Below w.heap.size w w' := by
  have H := Sts.start w
  go_enter Try.func16, Try.ntmps16
  go_wp2_with fail
  refine (Sts.new H).mono ?_
  rintro x w1 ⟨b1, rfl, H⟩
  replace H : Sts w w1 [(b1, st0)] := H
  go_wp2_with fail
  refine (Sts.o H ⟨#[97]⟩ ⟨#[49, 49]⟩).mono ?_
  unfold obv
  rintro x w2 ⟨rfl, H⟩
  replace H : Sts w w2 [(b1, st0)] := H
  go_wp2_with fail
  refine (Sts.o H ⟨#[98]⟩ ⟨#[]⟩).mono ?_
  unfold obv
  rintro x w3 ⟨rfl, H⟩
  replace H : Sts w w3 [(b1, st0)] := H
  go_wp2_with fail
  refine (Sts.o H ⟨#[99]⟩ ⟨#[51, 51, 51]⟩).mono ?_
  unfold obv
  rintro x w4 ⟨rfl, H⟩
  replace H : Sts w w4 [(b1, st0)] := H
  go_wp2_with fail
  have HS := H.box #[.string ⟨#[97]⟩, .string ⟨#[49, 49]⟩, .string ⟨#[98]⟩, .string ⟨#[]⟩, .string ⟨#[99]⟩, .string ⟨#[51, 51, 51]⟩] 28
  clear H
  have q0 : ((0 : Int) < 3) := by decide
  refine wp_loop_rounds 4 ?_
  have c0_0 : (w4.alloc (.cells #[.string ⟨#[97]⟩, .string ⟨#[49, 49]⟩, .string ⟨#[98]⟩, .string ⟨#[]⟩, .string ⟨#[99]⟩, .string ⟨#[51, 51, 51]⟩] 28)).cell? ⟨w4.heap.size, 0, none⟩ = some (.string ⟨#[97]⟩) := HS.has.cell 0
  have c0_1 : (w4.alloc (.cells #[.string ⟨#[97]⟩, .string ⟨#[49, 49]⟩, .string ⟨#[98]⟩, .string ⟨#[]⟩, .string ⟨#[99]⟩, .string ⟨#[51, 51, 51]⟩] 28)).cell? ⟨w4.heap.size, 1, none⟩ = some (.string ⟨#[49, 49]⟩) := HS.has.cell 1
  have c0_2 : (w4.alloc (.cells #[.string ⟨#[97]⟩, .string ⟨#[49, 49]⟩, .string ⟨#[98]⟩, .string ⟨#[]⟩, .string ⟨#[99]⟩, .string ⟨#[51, 51, 51]⟩] 28)).cell? ⟨w4.heap.size, 2, none⟩ = some (.string ⟨#[98]⟩) := HS.has.cell 2
  have c0_3 : (w4.alloc (.cells #[.string ⟨#[97]⟩, .string ⟨#[49, 49]⟩, .string ⟨#[98]⟩, .string ⟨#[]⟩, .string ⟨#[99]⟩, .string ⟨#[51, 51, 51]⟩] 28)).cell? ⟨w4.heap.size, 3, none⟩ = some (.string ⟨#[]⟩) := HS.has.cell 3
  have c0_4 : (w4.alloc (.cells #[.string ⟨#[97]⟩, .string ⟨#[49, 49]⟩, .string ⟨#[98]⟩, .string ⟨#[]⟩, .string ⟨#[99]⟩, .string ⟨#[51, 51, 51]⟩] 28)).cell? ⟨w4.heap.size, 4, none⟩ = some (.string ⟨#[99]⟩) := HS.has.cell 4
  have c0_5 : (w4.alloc (.cells #[.string ⟨#[97]⟩, .string ⟨#[49, 49]⟩, .string ⟨#[98]⟩, .string ⟨#[]⟩, .string ⟨#[99]⟩, .string ⟨#[51, 51, 51]⟩] 28)).cell? ⟨w4.heap.size, 5, none⟩ = some (.string ⟨#[51, 51, 51]⟩) := HS.has.cell 5
  rw [rounds_succ]
  go_wp2_with fail
  refine ((HS.below (boxed _ _)).put 0 rfl st0_w16fit (by decide) w16f1).mono ?_
  clear HS c0_0 c0_1 c0_2 c0_3 c0_4 c0_5
  rintro x w5 ⟨rfl, HS⟩
  replace HS : StsB w w5 [(b1, w16k1)] w4.heap.size #[.string ⟨#[97]⟩, .string ⟨#[49, 49]⟩, .string ⟨#[98]⟩, .string ⟨#[]⟩, .string ⟨#[99]⟩, .string ⟨#[51, 51, 51]⟩] 28 := HS
  go_wp2_with fail
  have c1_0 : w5.cell? ⟨w4.heap.size, 0, none⟩ = some (.string ⟨#[97]⟩) := HS.has.cell 0
  have c1_1 : w5.cell? ⟨w4.heap.size, 1, none⟩ = some (.string ⟨#[49, 49]⟩) := HS.has.cell 1
  have c1_2 : w5.cell? ⟨w4.heap.size, 2, none⟩ = some (.string ⟨#[98]⟩) := HS.has.cell 2
  have c1_3 : w5.cell? ⟨w4.heap.size, 3, none⟩ = some (.string ⟨#[]⟩) := HS.has.cell 3
  have c1_4 : w5.cell? ⟨w4.heap.size, 4, none⟩ = some (.string ⟨#[99]⟩) := HS.has.cell 4
  have c1_5 : w5.cell? ⟨w4.heap.size, 5, none⟩ = some (.string ⟨#[51, 51, 51]⟩) := HS.has.cell 5
  rw [rounds_succ]
  go_wp2_with fail
  refine ((HS.below (boxed _ _)).put 0 rfl w16k1_w16fit (by decide) w16f2).mono ?_
  clear HS c1_0 c1_1 c1_2 c1_3 c1_4 c1_5
  rintro x w6 ⟨rfl, HS⟩
  replace HS : StsB w w6 [(b1, w16k2)] w4.heap.size #[.string ⟨#[97]⟩, .string ⟨#[49, 49]⟩, .string ⟨#[98]⟩, .string ⟨#[]⟩, .string ⟨#[99]⟩, .string ⟨#[51, 51, 51]⟩] 28 := HS
  go_wp2_with fail
  have c2_0 : w6.cell? ⟨w4.heap.size, 0, none⟩ = some (.string ⟨#[97]⟩) := HS.has.cell 0
  have c2_1 : w6.cell? ⟨w4.heap.size, 1, none⟩ = some (.string ⟨#[49, 49]⟩) := HS.has.cell 1
  have c2_2 : w6.cell? ⟨w4.heap.size, 2, none⟩ = some (.string ⟨#[98]⟩) := HS.has.cell 2
  have c2_3 : w6.cell? ⟨w4.heap.size, 3, none⟩ = some (.string ⟨#[]⟩) := HS.has.cell 3
  have c2_4 : w6.cell? ⟨w4.heap.size, 4, none⟩ = some (.string ⟨#[99]⟩) := HS.has.cell 4
  have c2_5 : w6.cell? ⟨w4.heap.size, 5, none⟩ = some (.string ⟨#[51, 51, 51]⟩) := HS.has.cell 5
  rw [rounds_succ]
  go_wp2_with fail
  refine ((HS.below (boxed _ _)).put 0 rfl w16k2_w16fit (by decide) w16f3).mono ?_
  clear HS c2_0 c2_1 c2_2 c2_3 c2_4 c2_5
  rintro x w7 ⟨rfl, HS⟩
  replace HS : StsB w w7 [(b1, w16k3)] w4.heap.size #[.string ⟨#[97]⟩, .string ⟨#[49, 49]⟩, .string ⟨#[98]⟩, .string ⟨#[]⟩, .string ⟨#[99]⟩, .string ⟨#[51, 51, 51]⟩] 28 := HS
  go_wp2_with fail
  rw [rounds_succ]
  have H := HS.sts
  clear HS
  go_wp2_with fail
  refine (Sts.strike H 0 rfl w16k3_w16fit (by decide) (by decide) (t := 0) w16f4).mono ?_
  rintro x w8 ⟨rfl, H⟩
  replace H : Sts w w8 [(b1, w16k4)] := H
  go_wp2_with fail
  refine (Sts.crash0 H 0 rfl w16k4_w16fit (by decide) w16k4_w16lv w16f5).mono ?_
  rintro x w9 ⟨rfl, H⟩
  replace H : Sts w w9 [(b1, w16k4)] := H
  go_wp2_with fail
  refine (Sts.has H 0 rfl (by decide) w16f6).mono ?_
  rintro x w10 ⟨rfl, H⟩
  replace H : Sts w w10 [(b1, w16k4)] := H
  go_wp2_with fail
  refine (Sts.strike H 0 rfl w16k4_w16fit (by decide) (by decide) (t := 0) w16f7).mono ?_
  rintro x w11 ⟨rfl, H⟩
  replace H : Sts w w11 [(b1, w16k4)] := H
  go_wp2_with fail
  refine (Sts.has H 0 rfl (by decide) w16f8).mono ?_
  rintro x w12 ⟨rfl, H⟩
  replace H : Sts w w12 [(b1, w16k4)] := H
  go_wp2_with fail
  refine (Sts.strike H 0 rfl w16k4_w16fit (by decide) (by decide) (t := 0) w16f9).mono ?_
  rintro x w13 ⟨rfl, H⟩
  replace H : Sts w w13 [(b1, w16k5)] := H
  go_wp2_with fail
  refine (Sts.objs H 0 rfl (by decide) (k := 2) rfl).mono ?_
  rintro x w14 ⟨oa13, oc13, rfl, H⟩
  replace H : Sts w w14 [(b1, w16k5)] := H
  go_wp2_with fail
  refine (Sts.obj0 H 0 rfl (by decide) (k := 1) rfl (n := ⟨#[98]⟩) (by decide +kernel)).mono ?_
  rintro x w15 ⟨og14, oc14, rfl, hc14, H⟩
  replace H : Sts w w15 [(b1, w16k5)] := H
  go_wp2_with fail
  refine (Sts.o H ⟨#[97]⟩ ⟨#[57]⟩).mono ?_
  rintro x w16 ⟨rfl, H⟩
  replace H : Sts w w16 [(b1, w16k5)] := H
  go_wp2_with fail
  refine (Sts.put H 0 rfl w16k5_w16fit (by decide) w16f10).mono ?_
  rintro x w17 ⟨rfl, H⟩
  replace H : Sts w w17 [(b1, w16k6)] := H
  go_wp2_with fail
  refine (Sts.crash0 H 0 rfl w16k6_w16fit (by decide) w16k6_w16lv w16f11).mono ?_
  rintro x w18 ⟨rfl, H⟩
  replace H : Sts w w18 [(b1, w16k5)] := H
  go_wp2_with fail
  refine (Sts.objs H 0 rfl (by decide) (k := 2) rfl).mono ?_
  rintro x w19 ⟨oa18, oc18, rfl, H⟩
  replace H : Sts w w19 [(b1, w16k5)] := H
  go_wp2_with fail
  refine (Sts.strike H 0 rfl w16k5_w16fit (by decide) (by decide) (t := 0) w16f12).mono ?_
  rintro x w20 ⟨rfl, H⟩
  replace H : Sts w w20 [(b1, w16k7)] := H
  go_wp2_with fail
  refine (Sts.up H 0 rfl (y := false) rfl).mono ?_
  rintro x w21 ⟨rfl, H⟩
  replace H : Sts w w21 [(b1, w16k7)] := H
  go_wp2_with fail
  refine (Sts.sound H 0 rfl (y := false) rfl).mono ?_
  rintro x w22 ⟨rfl, H⟩
  replace H : Sts w w22 [(b1, w16k7)] := H
  go_wp2_with fail
  refine (Sts.o H ⟨#[113]⟩ ⟨#[]⟩).mono ?_
  rintro x w23 ⟨rfl, H⟩
  replace H : Sts w w23 [(b1, w16k7)] := H
  go_wp2_with fail
  refine (Sts.put H 0 rfl w16k7_w16fit (by decide) w16f13).mono ?_
  rintro x w24 ⟨rfl, H⟩
  replace H : Sts w w24 [(b1, w16k7)] := H
  go_wp2_with fail
  refine (Sts.del H 0 rfl w16k7_w16fit (by decide) (by decide) w16f14).mono ?_
  rintro x w25 ⟨rfl, H⟩
  replace H : Sts w w25 [(b1, w16k7)] := H
  go_wp2_with fail
  refine (Sts.sync H 0 rfl w16f15).mono ?_
  rintro x w26 ⟨rfl, H⟩
  replace H : Sts w w26 [(b1, w16k7)] := H
  go_wp2_with fail
  refine (Sts.o H ⟨#[]⟩ ⟨#[]⟩).mono ?_
  rintro x w27 ⟨rfl, H⟩
  replace H : Sts w w27 [(b1, w16k7)] := H
  go_wp2_with fail
  refine (Sts.put H 0 rfl w16k7_w16fit (by decide) w16f16).mono ?_
  rintro x w28 ⟨rfl, H⟩
  replace H : Sts w w28 [(b1, w16k7)] := H
  go_wp2_with fail
  refine (Sts.objs H 0 rfl (by decide) (k := 2) rfl).mono ?_
  rintro x w29 ⟨oa28, oc28, rfl, H⟩
  replace H : Sts w w29 [(b1, w16k7)] := H
  go_wp2_with fail
  refine (Sts.gets H 0 rfl (by decide) w16f17).mono ?_
  rintro x w30 ⟨rfl, H⟩
  replace H : Sts w w30 [(b1, w16k7)] := H
  go_wp2_with fail
  refine (Sts.list H 0 rfl (by decide) (k := 0) (e := 51) (by decide +kernel) (by decide +kernel)).mono ?_
  rintro x w31 ⟨la30, lc30, rfl, H⟩
  replace H : Sts w w31 [(b1, w16k7)] := H
  go_wp2_with fail
  refine (Sts.strike H 0 rfl w16k7_w16fit (by decide) (by decide) (t := 0) w16f18).mono ?_
  rintro x w32 ⟨rfl, H⟩
  replace H : Sts w w32 [(b1, w16k8)] := H
  go_wp2_with fail
  refine (Sts.objs H 0 rfl (by decide) (k := 1) rfl).mono ?_
  rintro x w33 ⟨oa32, oc32, rfl, H⟩
  replace H : Sts w w33 [(b1, w16k8)] := H
  go_wp2_with fail
  refine (Sts.crash0 H 0 rfl w16k8_w16fit (by decide) w16k8_w16lv w16f19).mono ?_
  rintro x w34 ⟨rfl, H⟩
  replace H : Sts w w34 [(b1, w16k8)] := H
  go_wp2_with fail
  refine (Sts.up H 0 rfl (y := false) rfl).mono ?_
  rintro x w35 ⟨rfl, H⟩
  replace H : Sts w w35 [(b1, w16k8)] := H
  go_wp2_with fail
  refine (Sts.strike H 0 rfl w16k8_w16fit (by decide) (by decide) (t := 0) w16f20).mono ?_
  rintro x w36 ⟨rfl, H⟩
  replace H : Sts w w36 [(b1, w16k9)] := H
  go_wp2_with fail
  refine (Sts.sound H 0 rfl (y := true) rfl).mono ?_
  rintro x w37 ⟨rfl, H⟩
  replace H : Sts w w37 [(b1, w16k9)] := H
  go_wp2_with fail
  refine (Sts.o H ⟨#[100]⟩ ⟨#[52]⟩).mono ?_
  rintro x w38 ⟨rfl, H⟩
  replace H : Sts w w38 [(b1, w16k9)] := H
  go_wp2_with fail
  refine (Sts.put H 0 rfl w16k9_w16fit (by decide) w16f21).mono ?_
  rintro x w39 ⟨rfl, H⟩
  replace H : Sts w w39 [(b1, w16k10)] := H
  go_wp2_with fail
  refine (Sts.strike H 0 rfl w16k10_w16fit (by decide) (by decide) (t := 0) w16f22).mono ?_
  rintro x w40 ⟨rfl, H⟩
  replace H : Sts w w40 [(b1, st0)] := H
  go_wp2_with fail
  refine (Sts.crashL H 0 rfl st0_w16fit (by decide) st0_w16lv [65536, 65536] 3 (by decide) w16f23).mono ?_
  rintro x w41 ⟨rfl, H⟩
  replace H : Sts w w41 [(b1, st0)] := H
  go_wp2_with fail
  refine (Sts.objs H 0 rfl (by decide) (k := 0) rfl).mono ?_
  rintro x w42 ⟨oa41, oc41, rfl, H⟩
  replace H : Sts w w42 [(b1, st0)] := H
  go_wp2_with fail
  refine (Sts.strike H 0 rfl st0_w16fit (by decide) (by decide) (t := 0) w16f24).mono ?_
  rintro x w43 ⟨rfl, H⟩
  replace H : Sts w w43 [(b1, st0)] := H
  go_wp2_with fail
  refine (Sts.strike H 0 rfl st0_w16fit (by decide) (by decide) (t := 0) w16f25).mono ?_
  rintro x w44 ⟨rfl, H⟩
  replace H : Sts w w44 [(b1, st0)] := H
  go_wp2_with fail
  refine (Sts.list H 0 rfl (by decide) (k := 0) (e := 0) (by decide +kernel) (by decide +kernel)).mono ?_
  rintro x w45 ⟨la44, lc44, rfl, H⟩
  replace H : Sts w w45 [(b1, st0)] := H
  go_wp2_with fail
  go_ret
  exact ⟨rfl, H.base⟩
end Go.Proofs.Ytpeeelnkelnlkaa
