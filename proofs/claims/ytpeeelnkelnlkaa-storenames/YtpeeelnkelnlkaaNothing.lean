/- nothing_true: the examples. Printed by gen_law.py. -/
import Derived.Test.YtpeeelnkelnlkaaBun
namespace Go.Proofs.Ytpeeelnkelnlkaa
open Go.RowKit Go.Maps
theorem st0_w19fit : Fit 100 st0 := fit_of (by decide +kernel)
theorem st0_w19lv : st0.writes ≠ [] → st0.live = true := by decide +kernel
theorem w19f1 : sameS st0 st0 = true := by decide +kernel
set_option maxHeartbeats 4000000 in
set_option maxRecDepth 20000 in
theorem nothing_true (w : World) : Calls Try.prog 19 #[] w fun e w' => e = .returned (.bool true) ∧ Below w.heap.size w w' := by
  have H := Sts.start w
  go_enter Try.func19, Try.ntmps19
  go_wp2_with fail
  refine (get_nil _ _).mono ?_
  rintro x w1 ⟨rfl, hw⟩
  replace hw := hw.symm
  subst hw
  unfold er
  go_wp2_with fail
  refine (list_nil _).mono ?_
  rintro x w1 ⟨rfl, hw⟩
  replace hw := hw.symm
  subst hw
  unfold er
  go_wp2_with fail
  refine (Sts.o H ⟨#[]⟩ ⟨#[]⟩).mono ?_
  rintro x w1 ⟨rfl, H⟩
  replace H : Sts w w1 [] := H
  go_wp2_with fail
  refine (put_nil ⟨#[]⟩ ⟨#[]⟩ _).mono ?_
  rintro x w2 ⟨rfl, hb⟩
  replace H := H.below hb
  clear hb
  replace H : Sts w w2 [] := H
  unfold er
  go_wp2_with fail
  refine (del_nil _ _).mono ?_
  rintro x w3 ⟨rfl, hb⟩
  replace H := H.below hb
  clear hb
  replace H : Sts w w3 [] := H
  unfold er
  go_wp2_with fail
  refine (sync_nil _).mono ?_
  rintro x w4 ⟨rfl, hw⟩
  replace hw := hw.symm
  subst hw
  unfold er
  go_wp2_with fail
  refine (crash_nil _ _).mono ?_
  rintro x w4 ⟨rfl, hb⟩
  replace H := H.below hb
  clear hb
  replace H : Sts w w4 [] := H
  unfold er
  go_wp2_with fail
  refine (strike_nil (0) (0) (0) (0) (0) _).mono ?_
  rintro x w5 ⟨rfl, hb⟩
  replace H := H.below hb
  clear hb
  replace H : Sts w w5 [] := H
  unfold er
  go_wp2_with fail
  refine (up_nil _).mono ?_
  rintro x w6 ⟨rfl, hw⟩
  replace hw := hw.symm
  subst hw
  go_wp2_with fail
  refine (sound_nil _).mono ?_
  rintro x w6 ⟨rfl, hw⟩
  replace hw := hw.symm
  subst hw
  go_wp2_with fail
  refine (objects_nil _).mono ?_
  rintro x w6 ⟨rfl, hw⟩
  replace hw := hw.symm
  subst hw
  go_wp2_with fail
  refine (copy_nil _).mono ?_
  rintro x w6 ⟨rfl, hw⟩
  replace hw := hw.symm
  subst hw
  go_wp2_with fail
  refine (same_nil _).mono ?_
  rintro x w6 ⟨rfl, hw⟩
  replace hw := hw.symm
  subst hw
  go_wp2_with fail
  refine (Sts.new H).mono ?_
  rintro x w6 ⟨b1, rfl, H⟩
  replace H : Sts w w6 [(b1, st0)] := H
  go_wp2_with fail
  refine (same_nil1 _ _).mono ?_
  rintro x w7 ⟨rfl, hw⟩
  replace hw := hw.symm
  subst hw
  go_wp2_with fail
  refine (Sts.new H).mono ?_
  rintro x w7 ⟨b2, rfl, H⟩
  replace H : Sts w w7 [(b1, st0), (b2, st0)] := H
  go_wp2_with fail
  refine (Sts.new H).mono ?_
  rintro x w8 ⟨b3, rfl, H⟩
  replace H : Sts w w8 [(b1, st0), (b2, st0), (b3, st0)] := H
  go_wp2_with fail
  refine (Sts.same H 1 2 rfl rfl w19f1).mono ?_
  rintro x w9 ⟨rfl, H⟩
  replace H : Sts w w9 [(b1, st0), (b2, st0), (b3, st0)] := H
  go_wp2_with fail
  go_ret
  exact ⟨rfl, H.base⟩
end Go.Proofs.Ytpeeelnkelnlkaa
