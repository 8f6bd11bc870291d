/- refuses_true: the examples. Printed by gen_law.py. -/
import Derived.Test.YtpeeelnkelnlkaaBun
namespace Go.Proofs.Ytpeeelnkelnlkaa
open Go.RowKit Go.Maps
theorem st0_w18fit : Fit 100 st0 := fit_of (by decide +kernel)
theorem st0_w18lv : st0.writes ≠ [] → st0.live = true := by decide +kernel
def w18k1 : St := ⟨[(⟨#[97]⟩, ⟨#[49]⟩)], [⟨⟨#[97]⟩, none, some ⟨#[49]⟩⟩], false, none, none, true⟩
theorem w18k1_w18fit : Fit 100 w18k1 := fit_of (by decide +kernel)
theorem w18k1_w18lv : w18k1.writes ≠ [] → w18k1.live = true := by decide +kernel
theorem w18f1 : putS st0 ⟨#[97]⟩ ⟨#[49]⟩ = (0, w18k1) := by decide +kernel
def w18k2 : St := ⟨[(⟨#[97]⟩, ⟨#[49]⟩)], [⟨⟨#[97]⟩, none, some ⟨#[49]⟩⟩], false, none, some 3, true⟩
theorem w18k2_w18fit : Fit 100 w18k2 := fit_of (by decide +kernel)
theorem w18k2_w18lv : w18k2.writes ≠ [] → w18k2.live = true := by decide +kernel
theorem w18f2 : strikeS w18k1 (7) (3) (0) (0) = (0, w18k2) := by decide +kernel
def w18k3 : St := ⟨[(⟨#[97]⟩, ⟨#[49]⟩)], [⟨⟨#[97]⟩, none, some ⟨#[49]⟩⟩], false, some 1, some 3, true⟩
theorem w18k3_w18fit : Fit 100 w18k3 := fit_of (by decide +kernel)
theorem w18k3_w18lv : w18k3.writes ≠ [] → w18k3.live = true := by decide +kernel
theorem w18f3 : strikeS w18k2 (6) (1) (0) (0) = (0, w18k3) := by decide +kernel
theorem w18f4 : putS w18k3 ⟨#[]⟩ ⟨#[]⟩ = (1, w18k3) := by decide +kernel
theorem w18f5 : putS w18k3 ⟨#[98]⟩ ⟨#[49, 50, 51, 52]⟩ = (52, w18k3) := by decide +kernel
theorem w18f6 : delS w18k3 ⟨#[113]⟩ = (5, w18k3) := by decide +kernel
def w18k4 : St := ⟨[(⟨#[97]⟩, ⟨#[49]⟩)], [], false, some 1, some 3, true⟩
theorem w18k4_w18fit : Fit 100 w18k4 := fit_of (by decide +kernel)
theorem w18k4_w18lv : w18k4.writes ≠ [] → w18k4.live = true := by decide +kernel
theorem w18f7 : sync w18k3 = (0, w18k4) := by decide +kernel
def w18k5 : St := ⟨[(⟨#[97]⟩, ⟨#[49]⟩), (⟨#[98]⟩, ⟨#[49]⟩)], [⟨⟨#[98]⟩, none, some ⟨#[49]⟩⟩], false, some 0, some 3, true⟩
theorem w18k5_w18fit : Fit 100 w18k5 := fit_of (by decide +kernel)
theorem w18k5_w18lv : w18k5.writes ≠ [] → w18k5.live = true := by decide +kernel
theorem w18f8 : putS w18k4 ⟨#[98]⟩ ⟨#[49]⟩ = (0, w18k5) := by decide +kernel
theorem w18f9 : putS w18k5 ⟨#[113]⟩ ⟨#[49, 50, 51, 52, 53, 54]⟩ = (52, w18k5) := by decide +kernel
theorem w18f10 : strikeS w18k5 (5) (0) (0) (0) = (0, w18k5) := by decide +kernel
def w18k6 : St := ⟨[(⟨#[97]⟩, ⟨#[49]⟩), (⟨#[98]⟩, ⟨#[49]⟩)], [⟨⟨#[98]⟩, none, some ⟨#[49]⟩⟩], false, none, some 3, true⟩
theorem w18k6_w18fit : Fit 100 w18k6 := fit_of (by decide +kernel)
theorem w18k6_w18lv : w18k6.writes ≠ [] → w18k6.live = true := by decide +kernel
theorem w18f11 : delS w18k5 ⟨#[97]⟩ = (53, w18k6) := by decide +kernel
theorem w18f12 : hasS w18k6 ⟨#[97]⟩ ⟨#[49]⟩ = true := by decide +kernel
def w18k7 : St := ⟨[(⟨#[98]⟩, ⟨#[49]⟩)], [⟨⟨#[98]⟩, none, some ⟨#[49]⟩⟩, ⟨⟨#[97]⟩, some ⟨#[49]⟩, none⟩], false, none, some 3, true⟩
theorem w18k7_w18fit : Fit 100 w18k7 := fit_of (by decide +kernel)
theorem w18k7_w18lv : w18k7.writes ≠ [] → w18k7.live = true := by decide +kernel
theorem w18f13 : delS w18k6 ⟨#[97]⟩ = (0, w18k7) := by decide +kernel
def w18k8 : St := ⟨[(⟨#[98]⟩, ⟨#[49]⟩)], [⟨⟨#[98]⟩, none, some ⟨#[49]⟩⟩, ⟨⟨#[97]⟩, some ⟨#[49]⟩, none⟩], false, some 9, some 3, true⟩
theorem w18k8_w18fit : Fit 100 w18k8 := fit_of (by decide +kernel)
theorem w18k8_w18lv : w18k8.writes ≠ [] → w18k8.live = true := by decide +kernel
theorem w18f14 : strikeS w18k7 (6) (9) (0) (0) = (0, w18k8) := by decide +kernel
def w18k9 : St := ⟨[(⟨#[98]⟩, ⟨#[49]⟩)], [⟨⟨#[98]⟩, none, some ⟨#[49]⟩⟩, ⟨⟨#[97]⟩, some ⟨#[49]⟩, none⟩], false, some 0, some 3, true⟩
theorem w18k9_w18fit : Fit 100 w18k9 := fit_of (by decide +kernel)
theorem w18k9_w18lv : w18k9.writes ≠ [] → w18k9.live = true := by decide +kernel
theorem w18f15 : strikeS w18k8 (6) (0) (0) (0) = (0, w18k9) := by decide +kernel
def w18k10 : St := ⟨[(⟨#[97]⟩, ⟨#[49]⟩)], [], false, some 0, some 3, true⟩
theorem w18k10_w18fit : Fit 100 w18k10 := fit_of (by decide +kernel)
theorem w18k10_w18lv : w18k10.writes ≠ [] → w18k10.live = true := by decide +kernel
theorem w18f16 : crashS w18k9 [] = w18k10 := by decide +kernel
def w18k11 : St := ⟨[(⟨#[97]⟩, ⟨#[49]⟩)], [], false, none, some 3, true⟩
theorem w18k11_w18fit : Fit 100 w18k11 := fit_of (by decide +kernel)
theorem w18k11_w18lv : w18k11.writes ≠ [] → w18k11.live = true := by decide +kernel
theorem w18f17 : putS w18k10 ⟨#[99]⟩ ⟨#[]⟩ = (53, w18k11) := by decide +kernel
def w18k12 : St := ⟨[(⟨#[97]⟩, ⟨#[]⟩)], [⟨⟨#[97]⟩, some ⟨#[49]⟩, some ⟨#[]⟩⟩], false, none, some 3, true⟩
theorem w18k12_w18fit : Fit 100 w18k12 := fit_of (by decide +kernel)
theorem w18k12_w18lv : w18k12.writes ≠ [] → w18k12.live = true := by decide +kernel
theorem w18f18 : putS w18k11 ⟨#[97]⟩ ⟨#[]⟩ = (0, w18k12) := by decide +kernel
def w18k13 : St := ⟨[(⟨#[97]⟩, ⟨#[]⟩)], [], false, none, some 3, true⟩
theorem w18k13_w18fit : Fit 100 w18k13 := fit_of (by decide +kernel)
theorem w18k13_w18lv : w18k13.writes ≠ [] → w18k13.live = true := by decide +kernel
theorem w18f19 : sync w18k12 = (0, w18k13) := by decide +kernel
def w18k14 : St := ⟨[], [⟨⟨#[97]⟩, some ⟨#[]⟩, none⟩], false, none, some 3, true⟩
theorem w18k14_w18fit : Fit 100 w18k14 := fit_of (by decide +kernel)
theorem w18k14_w18lv : w18k14.writes ≠ [] → w18k14.live = true := by decide +kernel
theorem w18f20 : delS w18k13 ⟨#[97]⟩ = (0, w18k14) := by decide +kernel
def w18k15 : St := ⟨[], [], false, none, some 3, true⟩
theorem w18k15_w18fit : Fit 100 w18k15 := fit_of (by decide +kernel)
theorem w18k15_w18lv : w18k15.writes ≠ [] → w18k15.live = true := by decide +kernel
theorem w18f21 : crashS w18k14 [0] = w18k15 := by decide +kernel
theorem w18f22 : get w18k15 ⟨#[97]⟩ = (⟨#[]⟩, 5) := by decide +kernel
def w18k16 : St := ⟨[(⟨#[99]⟩, ⟨#[]⟩)], [⟨⟨#[99]⟩, none, some ⟨#[]⟩⟩], false, none, some 3, true⟩
theorem w18k16_w18fit : Fit 100 w18k16 := fit_of (by decide +kernel)
theorem w18k16_w18lv : w18k16.writes ≠ [] → w18k16.live = true := by decide +kernel
theorem w18f23 : putS w18k15 ⟨#[99]⟩ ⟨#[]⟩ = (0, w18k16) := by decide +kernel
def w18k17 : St := ⟨[(⟨#[97]⟩, ⟨#[49]⟩)], [], false, none, some 4, true⟩
theorem w18k17_w18fit : Fit 100 w18k17 := fit_of (by decide +kernel)
theorem w18k17_w18lv : w18k17.writes ≠ [] → w18k17.live = true := by decide +kernel
theorem w18f24 : strikeS w18k11 (7) (4) (0) (0) = (0, w18k17) := by decide +kernel
theorem w18f25 : sameS w18k11 w18k17 = false := by decide +kernel
set_option maxHeartbeats 4000000 in
set_option maxRecDepth 20000 in
theorem refuses_true (w : World) : Calls Try.prog 18 #[] w fun e w' => e = .returned (.bool true) ∧ Below w.heap.size w w' := by
  have H := Sts.start w
  go_enter Try.func18, Try.ntmps18
  go_wp2_with fail
  refine (Sts.new H).mono ?_
  rintro x w1 ⟨b1, rfl, H⟩
  replace H : Sts w w1 [(b1, st0)] := H
  go_wp2_with fail
  refine (Sts.o H ⟨#[97]⟩ ⟨#[49]⟩).mono ?_
  rintro x w2 ⟨rfl, H⟩
  replace H : Sts w w2 [(b1, st0)] := H
  go_wp2_with fail
  refine (Sts.put H 0 rfl st0_w18fit (by decide) w18f1).mono ?_
  rintro x w3 ⟨rfl, H⟩
  replace H : Sts w w3 [(b1, w18k1)] := H
  go_wp2_with fail
  refine (Sts.strike H 0 rfl w18k1_w18fit (by decide) (by decide) (t := 0) w18f2).mono ?_
  rintro x w4 ⟨rfl, H⟩
  replace H : Sts w w4 [(b1, w18k2)] := H
  go_wp2_with fail
  refine (Sts.strike H 0 rfl w18k2_w18fit (by decide) (by decide) (t := 0) w18f3).mono ?_
  rintro x w5 ⟨rfl, H⟩
  replace H : Sts w w5 [(b1, w18k3)] := H
  go_wp2_with fail
  refine (Sts.sound H 0 rfl (y := false) rfl).mono ?_
  rintro x w6 ⟨rfl, H⟩
  replace H : Sts w w6 [(b1, w18k3)] := H
  go_wp2_with fail
  refine (Sts.o H ⟨#[]⟩ ⟨#[]⟩).mono ?_
  rintro x w7 ⟨rfl, H⟩
  replace H : Sts w w7 [(b1, w18k3)] := H
  go_wp2_with fail
  refine (Sts.put H 0 rfl w18k3_w18fit (by decide) w18f4).mono ?_
  rintro x w8 ⟨rfl, H⟩
  replace H : Sts w w8 [(b1, w18k3)] := H
  go_wp2_with fail
  refine (Sts.o H ⟨#[98]⟩ ⟨#[49, 50, 51, 52]⟩).mono ?_
  rintro x w9 ⟨rfl, H⟩
  replace H : Sts w w9 [(b1, w18k3)] := H
  go_wp2_with fail
  refine (Sts.put H 0 rfl w18k3_w18fit (by decide) w18f5).mono ?_
  rintro x w10 ⟨rfl, H⟩
  replace H : Sts w w10 [(b1, w18k3)] := H
  go_wp2_with fail
  refine (Sts.del H 0 rfl w18k3_w18fit (by decide) (by decide) w18f6).mono ?_
  rintro x w11 ⟨rfl, H⟩
  replace H : Sts w w11 [(b1, w18k3)] := H
  go_wp2_with fail
  refine (Sts.sync H 0 rfl w18f7).mono ?_
  rintro x w12 ⟨rfl, H⟩
  replace H : Sts w w12 [(b1, w18k4)] := H
  go_wp2_with fail
  refine (Sts.sound H 0 rfl (y := false) rfl).mono ?_
  rintro x w13 ⟨rfl, H⟩
  replace H : Sts w w13 [(b1, w18k4)] := H
  go_wp2_with fail
  refine (Sts.o H ⟨#[98]⟩ ⟨#[49]⟩).mono ?_
  rintro x w14 ⟨rfl, H⟩
  replace H : Sts w w14 [(b1, w18k4)] := H
  go_wp2_with fail
  refine (Sts.put H 0 rfl w18k4_w18fit (by decide) w18f8).mono ?_
  rintro x w15 ⟨rfl, H⟩
  replace H : Sts w w15 [(b1, w18k5)] := H
  go_wp2_with fail
  refine (Sts.sound H 0 rfl (y := false) rfl).mono ?_
  rintro x w16 ⟨rfl, H⟩
  replace H : Sts w w16 [(b1, w18k5)] := H
  go_wp2_with fail
  refine (Sts.o H ⟨#[113]⟩ ⟨#[49, 50, 51, 52, 53, 54]⟩).mono ?_
  rintro x w17 ⟨rfl, H⟩
  replace H : Sts w w17 [(b1, w18k5)] := H
  go_wp2_with fail
  refine (Sts.put H 0 rfl w18k5_w18fit (by decide) w18f9).mono ?_
  rintro x w18 ⟨rfl, H⟩
  replace H : Sts w w18 [(b1, w18k5)] := H
  go_wp2_with fail
  refine (Sts.strike H 0 rfl w18k5_w18fit (by decide) (by decide) (t := 0) w18f10).mono ?_
  rintro x w19 ⟨rfl, H⟩
  replace H : Sts w w19 [(b1, w18k5)] := H
  go_wp2_with fail
  refine (Sts.sound H 0 rfl (y := false) rfl).mono ?_
  rintro x w20 ⟨rfl, H⟩
  replace H : Sts w w20 [(b1, w18k5)] := H
  go_wp2_with fail
  refine (Sts.del H 0 rfl w18k5_w18fit (by decide) (by decide) w18f11).mono ?_
  rintro x w21 ⟨rfl, H⟩
  replace H : Sts w w21 [(b1, w18k6)] := H
  go_wp2_with fail
  refine (Sts.sound H 0 rfl (y := true) rfl).mono ?_
  rintro x w22 ⟨rfl, H⟩
  replace H : Sts w w22 [(b1, w18k6)] := H
  go_wp2_with fail
  refine (Sts.has H 0 rfl (by decide) w18f12).mono ?_
  rintro x w23 ⟨rfl, H⟩
  replace H : Sts w w23 [(b1, w18k6)] := H
  go_wp2_with fail
  refine (Sts.del H 0 rfl w18k6_w18fit (by decide) (by decide) w18f13).mono ?_
  rintro x w24 ⟨rfl, H⟩
  replace H : Sts w w24 [(b1, w18k7)] := H
  go_wp2_with fail
  refine (Sts.strike H 0 rfl w18k7_w18fit (by decide) (by decide) (t := 0) w18f14).mono ?_
  rintro x w25 ⟨rfl, H⟩
  replace H : Sts w w25 [(b1, w18k8)] := H
  go_wp2_with fail
  refine (Sts.strike H 0 rfl w18k8_w18fit (by decide) (by decide) (t := 0) w18f15).mono ?_
  rintro x w26 ⟨rfl, H⟩
  replace H : Sts w w26 [(b1, w18k9)] := H
  go_wp2_with fail
  refine (Sts.crash0 H 0 rfl w18k9_w18fit (by decide) w18k9_w18lv w18f16).mono ?_
  rintro x w27 ⟨rfl, H⟩
  replace H : Sts w w27 [(b1, w18k10)] := H
  go_wp2_with fail
  refine (Sts.sound H 0 rfl (y := false) rfl).mono ?_
  rintro x w28 ⟨rfl, H⟩
  replace H : Sts w w28 [(b1, w18k10)] := H
  go_wp2_with fail
  refine (Sts.o H ⟨#[99]⟩ ⟨#[]⟩).mono ?_
  rintro x w29 ⟨rfl, H⟩
  replace H : Sts w w29 [(b1, w18k10)] := H
  go_wp2_with fail
  refine (Sts.put H 0 rfl w18k10_w18fit (by decide) w18f17).mono ?_
  rintro x w30 ⟨rfl, H⟩
  replace H : Sts w w30 [(b1, w18k11)] := H
  go_wp2_with fail
  refine (Sts.copy H 0 rfl (by decide)).mono ?_
  rintro x w31 ⟨b2, rfl, H⟩
  replace H : Sts w w31 [(b1, w18k11), (b2, w18k11)] := H
  go_wp2_with fail
  refine (Sts.o H ⟨#[97]⟩ ⟨#[]⟩).mono ?_
  rintro x w32 ⟨rfl, H⟩
  replace H : Sts w w32 [(b1, w18k11), (b2, w18k11)] := H
  go_wp2_with fail
  refine (Sts.put H 0 rfl w18k11_w18fit (by decide) w18f18).mono ?_
  rintro x w33 ⟨rfl, H⟩
  replace H : Sts w w33 [(b1, w18k12), (b2, w18k11)] := H
  go_wp2_with fail
  refine (Sts.sync H 0 rfl w18f19).mono ?_
  rintro x w34 ⟨rfl, H⟩
  replace H : Sts w w34 [(b1, w18k13), (b2, w18k11)] := H
  go_wp2_with fail
  refine (Sts.del H 0 rfl w18k13_w18fit (by decide) (by decide) w18f20).mono ?_
  rintro x w35 ⟨rfl, H⟩
  replace H : Sts w w35 [(b1, w18k14), (b2, w18k11)] := H
  go_wp2_with fail
  refine (Sts.crashL H 0 rfl w18k14_w18fit (by decide) w18k14_w18lv [0] 3 (by decide) w18f21).mono ?_
  rintro x w36 ⟨rfl, H⟩
  replace H : Sts w w36 [(b1, w18k15), (b2, w18k11)] := H
  go_wp2_with fail
  refine (Sts.gets H 0 rfl (by decide) w18f22).mono ?_
  rintro x w37 ⟨rfl, H⟩
  replace H : Sts w w37 [(b1, w18k15), (b2, w18k11)] := H
  go_wp2_with fail
  refine (Sts.copy H 1 rfl (by decide)).mono ?_
  rintro x w38 ⟨b3, rfl, H⟩
  replace H : Sts w w38 [(b1, w18k15), (b2, w18k11), (b3, w18k11)] := H
  go_wp2_with fail
  refine (Sts.sound H 0 rfl (y := true) rfl).mono ?_
  rintro x w39 ⟨rfl, H⟩
  replace H : Sts w w39 [(b1, w18k15), (b2, w18k11), (b3, w18k11)] := H
  go_wp2_with fail
  refine (Sts.o H ⟨#[99]⟩ ⟨#[]⟩).mono ?_
  rintro x w40 ⟨rfl, H⟩
  replace H : Sts w w40 [(b1, w18k15), (b2, w18k11), (b3, w18k11)] := H
  go_wp2_with fail
  refine (Sts.put H 0 rfl w18k15_w18fit (by decide) w18f23).mono ?_
  rintro x w41 ⟨rfl, H⟩
  replace H : Sts w w41 [(b1, w18k16), (b2, w18k11), (b3, w18k11)] := H
  go_wp2_with fail
  refine (Sts.strike H 2 rfl w18k11_w18fit (by decide) (by decide) (t := 0) w18f24).mono ?_
  rintro x w42 ⟨rfl, H⟩
  replace H : Sts w w42 [(b1, w18k16), (b2, w18k11), (b3, w18k17)] := H
  go_wp2_with fail
  refine (Sts.same H 1 2 rfl rfl w18f25).mono ?_
  rintro x w43 ⟨rfl, H⟩
  replace H : Sts w w43 [(b1, w18k16), (b2, w18k11), (b3, w18k17)] := H
  go_wp2_with fail
  go_ret
  exact ⟨rfl, H.base⟩
end Go.Proofs.Ytpeeelnkelnlkaa
