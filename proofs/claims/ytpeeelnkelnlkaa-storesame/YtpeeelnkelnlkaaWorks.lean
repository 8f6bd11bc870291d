/- works_true: the examples. Printed by gen_law.py. -/
import Derived.Test.YtpeeelnkelnlkaaBun
namespace Go.Proofs.Ytpeeelnkelnlkaa
open Go.RowKit Go.Maps
theorem st0_w8fit : Fit 100 st0 := fit_of (by decide +kernel)
theorem st0_w8lv : st0.writes ≠ [] → st0.live = true := by decide +kernel
def w8k1 : St := ⟨[(⟨#[97]⟩, ⟨#[49]⟩)], [⟨⟨#[97]⟩, none, some ⟨#[49]⟩⟩], false, none, none, true⟩
theorem w8k1_w8fit : Fit 100 w8k1 := fit_of (by decide +kernel)
theorem w8k1_w8lv : w8k1.writes ≠ [] → w8k1.live = true := by decide +kernel
theorem w8f1 : putS st0 ⟨#[97]⟩ ⟨#[49]⟩ = (0, w8k1) := by decide +kernel
def w8k2 : St := ⟨[(⟨#[97]⟩, ⟨#[49]⟩)], [], false, none, none, true⟩
theorem w8k2_w8fit : Fit 100 w8k2 := fit_of (by decide +kernel)
theorem w8k2_w8lv : w8k2.writes ≠ [] → w8k2.live = true := by decide +kernel
theorem w8f2 : sync w8k1 = (0, w8k2) := by decide +kernel
def w8k3 : St := ⟨[(⟨#[97]⟩, ⟨#[50, 51]⟩)], [⟨⟨#[97]⟩, some ⟨#[49]⟩, some ⟨#[50, 51]⟩⟩], false, none, none, true⟩
theorem w8k3_w8fit : Fit 100 w8k3 := fit_of (by decide +kernel)
theorem w8k3_w8lv : w8k3.writes ≠ [] → w8k3.live = true := by decide +kernel
theorem w8f3 : putS w8k2 ⟨#[97]⟩ ⟨#[50, 51]⟩ = (0, w8k3) := by decide +kernel
theorem w8f4 : delS w8k3 ⟨#[98]⟩ = (5, w8k3) := by decide +kernel
def w8k4 : St := ⟨[(⟨#[97]⟩, ⟨#[50]⟩)], [], false, none, none, true⟩
theorem w8k4_w8fit : Fit 100 w8k4 := fit_of (by decide +kernel)
theorem w8k4_w8lv : w8k4.writes ≠ [] → w8k4.live = true := by decide +kernel
theorem w8f5 : crashS w8k3 [1] = w8k4 := by decide +kernel
theorem w8f6 : hasS w8k4 ⟨#[97]⟩ ⟨#[50]⟩ = true := by decide +kernel
theorem w8f7 : crashS w8k3 [] = w8k2 := by decide +kernel
theorem w8f8 : hasS w8k2 ⟨#[97]⟩ ⟨#[49]⟩ = true := by decide +kernel
def w8k5 : St := ⟨[(⟨#[97]⟩, ⟨#[49]⟩)], [], false, none, some 2, true⟩
theorem w8k5_w8fit : Fit 100 w8k5 := fit_of (by decide +kernel)
theorem w8k5_w8lv : w8k5.writes ≠ [] → w8k5.live = true := by decide +kernel
theorem w8f9 : strikeS w8k2 (7) (2) (0) (0) = (0, w8k5) := by decide +kernel
theorem w8f10 : putS w8k5 ⟨#[98]⟩ ⟨#[49, 50, 51]⟩ = (52, w8k5) := by decide +kernel
def w8k6 : St := ⟨[(⟨#[97]⟩, ⟨#[49]⟩), (⟨#[109, 48]⟩, ⟨#[49, 50, 51]⟩)], [⟨⟨#[109, 48]⟩, none, some ⟨#[49, 50, 51]⟩⟩], false, none, some 2, true⟩
theorem w8k6_w8fit : Fit 100 w8k6 := fit_of (by decide +kernel)
theorem w8k6_w8lv : w8k6.writes ≠ [] → w8k6.live = true := by decide +kernel
theorem w8f11 : putS w8k5 ⟨#[109, 48]⟩ ⟨#[49, 50, 51]⟩ = (0, w8k6) := by decide +kernel
def w8k7 : St := ⟨[(⟨#[97]⟩, ⟨#[50]⟩)], [], false, some 1, none, true⟩
theorem w8k7_w8fit : Fit 100 w8k7 := fit_of (by decide +kernel)
theorem w8k7_w8lv : w8k7.writes ≠ [] → w8k7.live = true := by decide +kernel
theorem w8f12 : strikeS w8k4 (6) (1) (0) (0) = (0, w8k7) := by decide +kernel
def w8k8 : St := ⟨[(⟨#[97]⟩, ⟨#[50]⟩), (⟨#[99]⟩, ⟨#[]⟩)], [⟨⟨#[99]⟩, none, some ⟨#[]⟩⟩], false, some 0, none, true⟩
theorem w8k8_w8fit : Fit 100 w8k8 := fit_of (by decide +kernel)
theorem w8k8_w8lv : w8k8.writes ≠ [] → w8k8.live = true := by decide +kernel
theorem w8f13 : putS w8k7 ⟨#[99]⟩ ⟨#[]⟩ = (0, w8k8) := by decide +kernel
def w8k9 : St := ⟨[(⟨#[97]⟩, ⟨#[50]⟩), (⟨#[99]⟩, ⟨#[]⟩)], [⟨⟨#[99]⟩, none, some ⟨#[]⟩⟩], false, none, none, true⟩
theorem w8k9_w8fit : Fit 100 w8k9 := fit_of (by decide +kernel)
theorem w8k9_w8lv : w8k9.writes ≠ [] → w8k9.live = true := by decide +kernel
theorem w8f14 : putS w8k8 ⟨#[100]⟩ ⟨#[]⟩ = (53, w8k9) := by decide +kernel
def w8k10 : St := ⟨[(⟨#[97]⟩, ⟨#[50]⟩), (⟨#[99]⟩, ⟨#[]⟩), (⟨#[100]⟩, ⟨#[]⟩)], [⟨⟨#[99]⟩, none, some ⟨#[]⟩⟩, ⟨⟨#[100]⟩, none, some ⟨#[]⟩⟩], false, none, none, true⟩
theorem w8k10_w8fit : Fit 100 w8k10 := fit_of (by decide +kernel)
theorem w8k10_w8lv : w8k10.writes ≠ [] → w8k10.live = true := by decide +kernel
theorem w8f15 : putS w8k9 ⟨#[100]⟩ ⟨#[]⟩ = (0, w8k10) := by decide +kernel
set_option maxHeartbeats 4000000 in
set_option maxRecDepth 20000 in
theorem works_true (w : World) : Calls Try.prog 8 #[] w fun e w' => e = .returned (.bool true) ∧ Below w.heap.size w w' := by
  have H := Sts.start w
  go_enter Try.func8, Try.ntmps8
  go_wp2_with fail
  refine (Sts.new H).mono ?_
  rintro x w1 ⟨b1, rfl, H⟩
  replace H : Sts w w1 [(b1, st0)] := H
  go_wp2_with fail
  refine (Sts.o H ⟨#[97]⟩ ⟨#[49]⟩).mono ?_
  rintro x w2 ⟨rfl, H⟩
  replace H : Sts w w2 [(b1, st0)] := H
  go_wp2_with fail
  refine (Sts.put H 0 rfl st0_w8fit (by decide) w8f1).mono ?_
  rintro x w3 ⟨rfl, H⟩
  replace H : Sts w w3 [(b1, w8k1)] := H
  go_wp2_with fail
  refine (Sts.sync H 0 rfl w8f2).mono ?_
  rintro x w4 ⟨rfl, H⟩
  replace H : Sts w w4 [(b1, w8k2)] := H
  go_wp2_with fail
  refine (Sts.o H ⟨#[97]⟩ ⟨#[50, 51]⟩).mono ?_
  rintro x w5 ⟨rfl, H⟩
  replace H : Sts w w5 [(b1, w8k2)] := H
  go_wp2_with fail
  refine (Sts.put H 0 rfl w8k2_w8fit (by decide) w8f3).mono ?_
  rintro x w6 ⟨rfl, H⟩
  replace H : Sts w w6 [(b1, w8k3)] := H
  go_wp2_with fail
  refine (Sts.del H 0 rfl w8k3_w8fit (by decide) (by decide) w8f4).mono ?_
  rintro x w7 ⟨rfl, H⟩
  replace H : Sts w w7 [(b1, w8k3)] := H
  go_wp2_with fail
  refine (Sts.copy H 0 rfl (by decide)).mono ?_
  rintro x w8 ⟨b2, rfl, H⟩
  replace H : Sts w w8 [(b1, w8k3), (b2, w8k3)] := H
  go_wp2_with fail
  refine (Sts.crashL H 0 rfl w8k3_w8fit (by decide) w8k3_w8lv [1] 3 (by decide) w8f5).mono ?_
  rintro x w9 ⟨rfl, H⟩
  replace H : Sts w w9 [(b1, w8k4), (b2, w8k3)] := H
  go_wp2_with fail
  refine (Sts.has H 0 rfl (by decide) w8f6).mono ?_
  rintro x w10 ⟨rfl, H⟩
  replace H : Sts w w10 [(b1, w8k4), (b2, w8k3)] := H
  go_wp2_with fail
  refine (Sts.crash0 H 1 rfl w8k3_w8fit (by decide) w8k3_w8lv w8f7).mono ?_
  rintro x w11 ⟨rfl, H⟩
  replace H : Sts w w11 [(b1, w8k4), (b2, w8k2)] := H
  go_wp2_with fail
  refine (Sts.has H 1 rfl (by decide) w8f8).mono ?_
  rintro x w12 ⟨rfl, H⟩
  replace H : Sts w w12 [(b1, w8k4), (b2, w8k2)] := H
  go_wp2_with fail
  refine (Sts.strike H 1 rfl w8k2_w8fit (by decide) (by decide) (t := 0) w8f9).mono ?_
  rintro x w13 ⟨rfl, H⟩
  replace H : Sts w w13 [(b1, w8k4), (b2, w8k5)] := H
  go_wp2_with fail
  refine (Sts.o H ⟨#[98]⟩ ⟨#[49, 50, 51]⟩).mono ?_
  rintro x w14 ⟨rfl, H⟩
  replace H : Sts w w14 [(b1, w8k4), (b2, w8k5)] := H
  go_wp2_with fail
  refine (Sts.put H 1 rfl w8k5_w8fit (by decide) w8f10).mono ?_
  rintro x w15 ⟨rfl, H⟩
  replace H : Sts w w15 [(b1, w8k4), (b2, w8k5)] := H
  go_wp2_with fail
  refine (Sts.o H ⟨#[109, 48]⟩ ⟨#[49, 50, 51]⟩).mono ?_
  rintro x w16 ⟨rfl, H⟩
  replace H : Sts w w16 [(b1, w8k4), (b2, w8k5)] := H
  go_wp2_with fail
  refine (Sts.put H 1 rfl w8k5_w8fit (by decide) w8f11).mono ?_
  rintro x w17 ⟨rfl, H⟩
  replace H : Sts w w17 [(b1, w8k4), (b2, w8k6)] := H
  go_wp2_with fail
  refine (Sts.strike H 0 rfl w8k4_w8fit (by decide) (by decide) (t := 0) w8f12).mono ?_
  rintro x w18 ⟨rfl, H⟩
  replace H : Sts w w18 [(b1, w8k7), (b2, w8k6)] := H
  go_wp2_with fail
  refine (Sts.o H ⟨#[99]⟩ ⟨#[]⟩).mono ?_
  rintro x w19 ⟨rfl, H⟩
  replace H : Sts w w19 [(b1, w8k7), (b2, w8k6)] := H
  go_wp2_with fail
  refine (Sts.put H 0 rfl w8k7_w8fit (by decide) w8f13).mono ?_
  rintro x w20 ⟨rfl, H⟩
  replace H : Sts w w20 [(b1, w8k8), (b2, w8k6)] := H
  go_wp2_with fail
  refine (Sts.o H ⟨#[100]⟩ ⟨#[]⟩).mono ?_
  rintro x w21 ⟨rfl, H⟩
  replace H : Sts w w21 [(b1, w8k8), (b2, w8k6)] := H
  go_wp2_with fail
  refine (Sts.put H 0 rfl w8k8_w8fit (by decide) w8f14).mono ?_
  rintro x w22 ⟨rfl, H⟩
  replace H : Sts w w22 [(b1, w8k9), (b2, w8k6)] := H
  go_wp2_with fail
  refine (Sts.o H ⟨#[100]⟩ ⟨#[]⟩).mono ?_
  rintro x w23 ⟨rfl, H⟩
  replace H : Sts w w23 [(b1, w8k9), (b2, w8k6)] := H
  go_wp2_with fail
  refine (Sts.put H 0 rfl w8k9_w8fit (by decide) w8f15).mono ?_
  rintro x w24 ⟨rfl, H⟩
  replace H : Sts w w24 [(b1, w8k10), (b2, w8k6)] := H
  go_wp2_with fail
  go_ret
  exact ⟨rfl, H.base⟩
end Go.Proofs.Ytpeeelnkelnlkaa
