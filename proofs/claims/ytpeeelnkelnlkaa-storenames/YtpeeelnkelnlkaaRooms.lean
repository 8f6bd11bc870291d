/- rooms_true: the examples. Printed by gen_law.py. -/
import Derived.Test.YtpeeelnkelnlkaaBun
namespace Go.Proofs.Ytpeeelnkelnlkaa
open Go.RowKit Go.Maps
theorem st0_w17fit : Fit 100 st0 := fit_of (by decide +kernel)
theorem st0_w17lv : st0.writes ≠ [] → st0.live = true := by decide +kernel
def w17k1 : St := ⟨[(⟨#[97]⟩, ⟨#[49, 50, 51]⟩)], [⟨⟨#[97]⟩, none, some ⟨#[49, 50, 51]⟩⟩], false, none, none, true⟩
theorem w17k1_w17fit : Fit 100 w17k1 := fit_of (by decide +kernel)
theorem w17k1_w17lv : w17k1.writes ≠ [] → w17k1.live = true := by decide +kernel
theorem w17f1 : putS st0 ⟨#[97]⟩ ⟨#[49, 50, 51]⟩ = (0, w17k1) := by decide +kernel
def w17k2 : St := ⟨[(⟨#[97]⟩, ⟨#[49, 50, 51]⟩)], [⟨⟨#[97]⟩, none, some ⟨#[49, 50, 51]⟩⟩], false, none, some 5, true⟩
theorem w17k2_w17fit : Fit 100 w17k2 := fit_of (by decide +kernel)
theorem w17k2_w17lv : w17k2.writes ≠ [] → w17k2.live = true := by decide +kernel
theorem w17f2 : strikeS w17k1 (7) (5) (0) (0) = (0, w17k2) := by decide +kernel
def w17k3 : St := ⟨[(⟨#[97]⟩, ⟨#[49, 50, 51, 52, 53]⟩)], [⟨⟨#[97]⟩, none, some ⟨#[49, 50, 51]⟩⟩, ⟨⟨#[97]⟩, some ⟨#[49, 50, 51]⟩, some ⟨#[49, 50, 51, 52, 53]⟩⟩], false, none, some 5, true⟩
theorem w17k3_w17fit : Fit 100 w17k3 := fit_of (by decide +kernel)
theorem w17k3_w17lv : w17k3.writes ≠ [] → w17k3.live = true := by decide +kernel
theorem w17f3 : putS w17k2 ⟨#[97]⟩ ⟨#[49, 50, 51, 52, 53]⟩ = (0, w17k3) := by decide +kernel
theorem w17f4 : putS w17k3 ⟨#[97]⟩ ⟨#[49, 50, 51, 52, 53, 54]⟩ = (52, w17k3) := by decide +kernel
def w17k4 : St := ⟨[(⟨#[97]⟩, ⟨#[49, 50, 51, 52, 53]⟩), (⟨#[98]⟩, ⟨#[]⟩)], [⟨⟨#[97]⟩, none, some ⟨#[49, 50, 51]⟩⟩, ⟨⟨#[97]⟩, some ⟨#[49, 50, 51]⟩, some ⟨#[49, 50, 51, 52, 53]⟩⟩, ⟨⟨#[98]⟩, none, some ⟨#[]⟩⟩], false, none, some 5, true⟩
theorem w17k4_w17fit : Fit 100 w17k4 := fit_of (by decide +kernel)
theorem w17k4_w17lv : w17k4.writes ≠ [] → w17k4.live = true := by decide +kernel
theorem w17f5 : putS w17k3 ⟨#[98]⟩ ⟨#[]⟩ = (0, w17k4) := by decide +kernel
theorem w17f6 : putS w17k4 ⟨#[98]⟩ ⟨#[49]⟩ = (52, w17k4) := by decide +kernel
def w17k5 : St := ⟨[(⟨#[97]⟩, ⟨#[49, 50, 51, 52, 53]⟩), (⟨#[98]⟩, ⟨#[]⟩), (⟨#[109, 49]⟩, ⟨#[49, 50, 51, 52, 53, 54]⟩)], [⟨⟨#[97]⟩, none, some ⟨#[49, 50, 51]⟩⟩, ⟨⟨#[97]⟩, some ⟨#[49, 50, 51]⟩, some ⟨#[49, 50, 51, 52, 53]⟩⟩, ⟨⟨#[98]⟩, none, some ⟨#[]⟩⟩, ⟨⟨#[109, 49]⟩, none, some ⟨#[49, 50, 51, 52, 53, 54]⟩⟩], false, none, some 5, true⟩
theorem w17k5_w17fit : Fit 100 w17k5 := fit_of (by decide +kernel)
theorem w17k5_w17lv : w17k5.writes ≠ [] → w17k5.live = true := by decide +kernel
theorem w17f7 : putS w17k4 ⟨#[109, 49]⟩ ⟨#[49, 50, 51, 52, 53, 54]⟩ = (0, w17k5) := by decide +kernel
theorem w17f8 : putS w17k5 ⟨#[109, 50]⟩ ⟨#[49]⟩ = (52, w17k5) := by decide +kernel
def w17k6 : St := ⟨[(⟨#[97]⟩, ⟨#[49, 50, 51, 52, 53]⟩), (⟨#[98]⟩, ⟨#[]⟩), (⟨#[109, 49]⟩, ⟨#[49, 50, 51, 52, 53, 54]⟩)], [⟨⟨#[97]⟩, none, some ⟨#[49, 50, 51]⟩⟩, ⟨⟨#[97]⟩, some ⟨#[49, 50, 51]⟩, some ⟨#[49, 50, 51, 52, 53]⟩⟩, ⟨⟨#[98]⟩, none, some ⟨#[]⟩⟩, ⟨⟨#[109, 49]⟩, none, some ⟨#[49, 50, 51, 52, 53, 54]⟩⟩], false, none, some 2, true⟩
theorem w17k6_w17fit : Fit 100 w17k6 := fit_of (by decide +kernel)
theorem w17k6_w17lv : w17k6.writes ≠ [] → w17k6.live = true := by decide +kernel
theorem w17f9 : strikeS w17k5 (7) (2) (0) (0) = (0, w17k6) := by decide +kernel
theorem w17f10 : putS w17k6 ⟨#[97]⟩ ⟨#[49, 50, 51]⟩ = (52, w17k6) := by decide +kernel
def w17k7 : St := ⟨[(⟨#[97]⟩, ⟨#[49, 50]⟩), (⟨#[98]⟩, ⟨#[]⟩), (⟨#[109, 49]⟩, ⟨#[49, 50, 51, 52, 53, 54]⟩)], [⟨⟨#[97]⟩, none, some ⟨#[49, 50, 51]⟩⟩, ⟨⟨#[97]⟩, some ⟨#[49, 50, 51]⟩, some ⟨#[49, 50, 51, 52, 53]⟩⟩, ⟨⟨#[98]⟩, none, some ⟨#[]⟩⟩, ⟨⟨#[109, 49]⟩, none, some ⟨#[49, 50, 51, 52, 53, 54]⟩⟩, ⟨⟨#[97]⟩, some ⟨#[49, 50, 51, 52, 53]⟩, some ⟨#[49, 50]⟩⟩], false, none, some 2, true⟩
theorem w17k7_w17fit : Fit 100 w17k7 := fit_of (by decide +kernel)
theorem w17k7_w17lv : w17k7.writes ≠ [] → w17k7.live = true := by decide +kernel
theorem w17f11 : putS w17k6 ⟨#[97]⟩ ⟨#[49, 50]⟩ = (0, w17k7) := by decide +kernel
def w17k8 : St := ⟨[(⟨#[98]⟩, ⟨#[]⟩), (⟨#[109, 49]⟩, ⟨#[49, 50, 51, 52, 53, 54]⟩)], [⟨⟨#[97]⟩, none, some ⟨#[49, 50, 51]⟩⟩, ⟨⟨#[97]⟩, some ⟨#[49, 50, 51]⟩, some ⟨#[49, 50, 51, 52, 53]⟩⟩, ⟨⟨#[98]⟩, none, some ⟨#[]⟩⟩, ⟨⟨#[109, 49]⟩, none, some ⟨#[49, 50, 51, 52, 53, 54]⟩⟩, ⟨⟨#[97]⟩, some ⟨#[49, 50, 51, 52, 53]⟩, some ⟨#[49, 50]⟩⟩, ⟨⟨#[97]⟩, some ⟨#[49, 50]⟩, none⟩], false, none, some 2, true⟩
theorem w17k8_w17fit : Fit 100 w17k8 := fit_of (by decide +kernel)
theorem w17k8_w17lv : w17k8.writes ≠ [] → w17k8.live = true := by decide +kernel
theorem w17f12 : delS w17k7 ⟨#[97]⟩ = (0, w17k8) := by decide +kernel
def w17k9 : St := ⟨[(⟨#[98]⟩, ⟨#[49, 50]⟩), (⟨#[109, 49]⟩, ⟨#[49, 50, 51, 52, 53, 54]⟩)], [⟨⟨#[97]⟩, none, some ⟨#[49, 50, 51]⟩⟩, ⟨⟨#[97]⟩, some ⟨#[49, 50, 51]⟩, some ⟨#[49, 50, 51, 52, 53]⟩⟩, ⟨⟨#[98]⟩, none, some ⟨#[]⟩⟩, ⟨⟨#[109, 49]⟩, none, some ⟨#[49, 50, 51, 52, 53, 54]⟩⟩, ⟨⟨#[97]⟩, some ⟨#[49, 50, 51, 52, 53]⟩, some ⟨#[49, 50]⟩⟩, ⟨⟨#[97]⟩, some ⟨#[49, 50]⟩, none⟩, ⟨⟨#[98]⟩, some ⟨#[]⟩, some ⟨#[49, 50]⟩⟩], false, none, some 2, true⟩
theorem w17k9_w17fit : Fit 100 w17k9 := fit_of (by decide +kernel)
theorem w17k9_w17lv : w17k9.writes ≠ [] → w17k9.live = true := by decide +kernel
theorem w17f13 : putS w17k8 ⟨#[98]⟩ ⟨#[49, 50]⟩ = (0, w17k9) := by decide +kernel
def w17k10 : St := ⟨[(⟨#[98]⟩, ⟨#[49, 50]⟩), (⟨#[109, 49]⟩, ⟨#[49, 50, 51, 52, 53, 54]⟩)], [⟨⟨#[97]⟩, none, some ⟨#[49, 50, 51]⟩⟩, ⟨⟨#[97]⟩, some ⟨#[49, 50, 51]⟩, some ⟨#[49, 50, 51, 52, 53]⟩⟩, ⟨⟨#[98]⟩, none, some ⟨#[]⟩⟩, ⟨⟨#[109, 49]⟩, none, some ⟨#[49, 50, 51, 52, 53, 54]⟩⟩, ⟨⟨#[97]⟩, some ⟨#[49, 50, 51, 52, 53]⟩, some ⟨#[49, 50]⟩⟩, ⟨⟨#[97]⟩, some ⟨#[49, 50]⟩, none⟩, ⟨⟨#[98]⟩, some ⟨#[]⟩, some ⟨#[49, 50]⟩⟩], false, none, some 0, true⟩
theorem w17k10_w17fit : Fit 100 w17k10 := fit_of (by decide +kernel)
theorem w17k10_w17lv : w17k10.writes ≠ [] → w17k10.live = true := by decide +kernel
theorem w17f14 : strikeS w17k9 (7) (0) (0) (0) = (0, w17k10) := by decide +kernel
theorem w17f15 : putS w17k10 ⟨#[98]⟩ ⟨#[49]⟩ = (52, w17k10) := by decide +kernel
def w17k11 : St := ⟨[(⟨#[98]⟩, ⟨#[]⟩), (⟨#[109, 49]⟩, ⟨#[49, 50, 51, 52, 53, 54]⟩)], [⟨⟨#[97]⟩, none, some ⟨#[49, 50, 51]⟩⟩, ⟨⟨#[97]⟩, some ⟨#[49, 50, 51]⟩, some ⟨#[49, 50, 51, 52, 53]⟩⟩, ⟨⟨#[98]⟩, none, some ⟨#[]⟩⟩, ⟨⟨#[109, 49]⟩, none, some ⟨#[49, 50, 51, 52, 53, 54]⟩⟩, ⟨⟨#[97]⟩, some ⟨#[49, 50, 51, 52, 53]⟩, some ⟨#[49, 50]⟩⟩, ⟨⟨#[97]⟩, some ⟨#[49, 50]⟩, none⟩, ⟨⟨#[98]⟩, some ⟨#[]⟩, some ⟨#[49, 50]⟩⟩, ⟨⟨#[98]⟩, some ⟨#[49, 50]⟩, some ⟨#[]⟩⟩], false, none, some 0, true⟩
theorem w17k11_w17fit : Fit 100 w17k11 := fit_of (by decide +kernel)
theorem w17k11_w17lv : w17k11.writes ≠ [] → w17k11.live = true := by decide +kernel
theorem w17f16 : putS w17k10 ⟨#[98]⟩ ⟨#[]⟩ = (0, w17k11) := by decide +kernel
set_option maxHeartbeats 4000000 in
set_option maxRecDepth 20000 in
theorem rooms_true (w : World) : Calls Try.prog 17 #[] w fun e w' => e = .returned (.bool true) ∧ Below w.heap.size w w' := by
  have H := Sts.start w
  go_enter Try.func17, Try.ntmps17
  go_wp2_with fail
  refine (Sts.new H).mono ?_
  rintro x w1 ⟨b1, rfl, H⟩
  replace H : Sts w w1 [(b1, st0)] := H
  go_wp2_with fail
  refine (Sts.o H ⟨#[97]⟩ ⟨#[49, 50, 51]⟩).mono ?_
  rintro x w2 ⟨rfl, H⟩
  replace H : Sts w w2 [(b1, st0)] := H
  go_wp2_with fail
  refine (Sts.put H 0 rfl st0_w17fit (by decide) w17f1).mono ?_
  rintro x w3 ⟨rfl, H⟩
  replace H : Sts w w3 [(b1, w17k1)] := H
  go_wp2_with fail
  refine (Sts.strike H 0 rfl w17k1_w17fit (by decide) (by decide) (t := 0) w17f2).mono ?_
  rintro x w4 ⟨rfl, H⟩
  replace H : Sts w w4 [(b1, w17k2)] := H
  go_wp2_with fail
  refine (Sts.o H ⟨#[97]⟩ ⟨#[49, 50, 51, 52, 53]⟩).mono ?_
  rintro x w5 ⟨rfl, H⟩
  replace H : Sts w w5 [(b1, w17k2)] := H
  go_wp2_with fail
  refine (Sts.put H 0 rfl w17k2_w17fit (by decide) w17f3).mono ?_
  rintro x w6 ⟨rfl, H⟩
  replace H : Sts w w6 [(b1, w17k3)] := H
  go_wp2_with fail
  refine (Sts.o H ⟨#[97]⟩ ⟨#[49, 50, 51, 52, 53, 54]⟩).mono ?_
  rintro x w7 ⟨rfl, H⟩
  replace H : Sts w w7 [(b1, w17k3)] := H
  go_wp2_with fail
  refine (Sts.put H 0 rfl w17k3_w17fit (by decide) w17f4).mono ?_
  rintro x w8 ⟨rfl, H⟩
  replace H : Sts w w8 [(b1, w17k3)] := H
  go_wp2_with fail
  refine (Sts.o H ⟨#[98]⟩ ⟨#[]⟩).mono ?_
  rintro x w9 ⟨rfl, H⟩
  replace H : Sts w w9 [(b1, w17k3)] := H
  go_wp2_with fail
  refine (Sts.put H 0 rfl w17k3_w17fit (by decide) w17f5).mono ?_
  rintro x w10 ⟨rfl, H⟩
  replace H : Sts w w10 [(b1, w17k4)] := H
  go_wp2_with fail
  refine (Sts.o H ⟨#[98]⟩ ⟨#[49]⟩).mono ?_
  rintro x w11 ⟨rfl, H⟩
  replace H : Sts w w11 [(b1, w17k4)] := H
  go_wp2_with fail
  refine (Sts.put H 0 rfl w17k4_w17fit (by decide) w17f6).mono ?_
  rintro x w12 ⟨rfl, H⟩
  replace H : Sts w w12 [(b1, w17k4)] := H
  go_wp2_with fail
  refine (Sts.o H ⟨#[109, 49]⟩ ⟨#[49, 50, 51, 52, 53, 54]⟩).mono ?_
  rintro x w13 ⟨rfl, H⟩
  replace H : Sts w w13 [(b1, w17k4)] := H
  go_wp2_with fail
  refine (Sts.put H 0 rfl w17k4_w17fit (by decide) w17f7).mono ?_
  rintro x w14 ⟨rfl, H⟩
  replace H : Sts w w14 [(b1, w17k5)] := H
  go_wp2_with fail
  refine (Sts.o H ⟨#[109, 50]⟩ ⟨#[49]⟩).mono ?_
  rintro x w15 ⟨rfl, H⟩
  replace H : Sts w w15 [(b1, w17k5)] := H
  go_wp2_with fail
  refine (Sts.put H 0 rfl w17k5_w17fit (by decide) w17f8).mono ?_
  rintro x w16 ⟨rfl, H⟩
  replace H : Sts w w16 [(b1, w17k5)] := H
  go_wp2_with fail
  refine (Sts.strike H 0 rfl w17k5_w17fit (by decide) (by decide) (t := 0) w17f9).mono ?_
  rintro x w17 ⟨rfl, H⟩
  replace H : Sts w w17 [(b1, w17k6)] := H
  go_wp2_with fail
  refine (Sts.o H ⟨#[97]⟩ ⟨#[49, 50, 51]⟩).mono ?_
  rintro x w18 ⟨rfl, H⟩
  replace H : Sts w w18 [(b1, w17k6)] := H
  go_wp2_with fail
  refine (Sts.put H 0 rfl w17k6_w17fit (by decide) w17f10).mono ?_
  rintro x w19 ⟨rfl, H⟩
  replace H : Sts w w19 [(b1, w17k6)] := H
  go_wp2_with fail
  refine (Sts.o H ⟨#[97]⟩ ⟨#[49, 50]⟩).mono ?_
  rintro x w20 ⟨rfl, H⟩
  replace H : Sts w w20 [(b1, w17k6)] := H
  go_wp2_with fail
  refine (Sts.put H 0 rfl w17k6_w17fit (by decide) w17f11).mono ?_
  rintro x w21 ⟨rfl, H⟩
  replace H : Sts w w21 [(b1, w17k7)] := H
  go_wp2_with fail
  refine (Sts.del H 0 rfl w17k7_w17fit (by decide) (by decide) w17f12).mono ?_
  rintro x w22 ⟨rfl, H⟩
  replace H : Sts w w22 [(b1, w17k8)] := H
  go_wp2_with fail
  refine (Sts.o H ⟨#[98]⟩ ⟨#[49, 50]⟩).mono ?_
  rintro x w23 ⟨rfl, H⟩
  replace H : Sts w w23 [(b1, w17k8)] := H
  go_wp2_with fail
  refine (Sts.put H 0 rfl w17k8_w17fit (by decide) w17f13).mono ?_
  rintro x w24 ⟨rfl, H⟩
  replace H : Sts w w24 [(b1, w17k9)] := H
  go_wp2_with fail
  refine (Sts.strike H 0 rfl w17k9_w17fit (by decide) (by decide) (t := 0) w17f14).mono ?_
  rintro x w25 ⟨rfl, H⟩
  replace H : Sts w w25 [(b1, w17k10)] := H
  go_wp2_with fail
  refine (Sts.o H ⟨#[98]⟩ ⟨#[49]⟩).mono ?_
  rintro x w26 ⟨rfl, H⟩
  replace H : Sts w w26 [(b1, w17k10)] := H
  go_wp2_with fail
  refine (Sts.put H 0 rfl w17k10_w17fit (by decide) w17f15).mono ?_
  rintro x w27 ⟨rfl, H⟩
  replace H : Sts w w27 [(b1, w17k10)] := H
  go_wp2_with fail
  refine (Sts.o H ⟨#[98]⟩ ⟨#[]⟩).mono ?_
  rintro x w28 ⟨rfl, H⟩
  replace H : Sts w w28 [(b1, w17k10)] := H
  go_wp2_with fail
  refine (Sts.put H 0 rfl w17k10_w17fit (by decide) w17f16).mono ?_
  rintro x w29 ⟨rfl, H⟩
  replace H : Sts w w29 [(b1, w17k11)] := H
  go_wp2_with fail
  go_ret
  exact ⟨rfl, H.base⟩
end Go.Proofs.Ytpeeelnkelnlkaa
