/- Stripe's laws: works, walked. -/
import Derived.Test.YtffhobkoagnhhaaGreatDoorL3
import Derived.Test.YtffhobkoagnhhaaGreatDoorCards
import Derived.Test.YtffhobkoagnhhaaGreatDoorTie
import Derived.Test.YtffhobkoagnhhaaGreatDoorHSName
import Derived.WalkKit
import Derived.ProofKit
import Derived.OpenShut
import Derived.Deep.DeepHandedRow
import Derived.Lib.LaidTab
import Derived.Lib.SmallJoins
import Derived.Carry
import Derived.Stop.LaidErr
namespace Go.Proofs.YtffhobkoagnhhaaGreatDoor
open Go.RowKit Go.Maps
open W
set_option linter.unusedVariables false
/-- a code in a block of its own is put anew -/
theorem code_put (w : World) (q : Nat) (x' y' : Value) : Only (fun i => i = q) w ((w.setCell ⟨q, 0, none⟩ x').setCell ⟨q, 1, none⟩ y') := Only.set (p := ⟨q, 1, none⟩) (Only.set (p := ⟨q, 0, none⟩) (Only.refl (fun i => i = q) w) (.inl rfl) _) (.inl rfl) _
section
variable {w0 w w' : World} {b : Nat} {V V' : Wd} {T : Nat → Prop}
theorem WT.only2 {T' : Nat → Prop} (h : WT w0 w b V T) (ho : Only T' w w') (hs : ∀ i, T' i → T i) (hT : ∀ i, T' i → w0.heap.size ≤ i) : WT w0 w' b V T := by
  obtain ⟨S, g, h1, h2, h3, h4⟩ := h
  exact ⟨S, g, h1.only ho (fun i hi hT => (h4 i (hs i hT)).1 hi), h2, h3.trans (ho.below h3.size hT), fun i hi => ⟨(h4 i hi).1, Nat.lt_of_lt_of_le (h4 i hi).2 ho.size⟩⟩
theorem bs_blob : C.ofBs blob = ⟨#[98, 108, 111, 98]⟩ := by decide +kernel
/-- the examples' calls -/
theorem callB (h : WT w0 w b V T) (hl : H.Lay w0) (hok : Ok 100 V.l.length V) {r : Int} (he : (wrG V 2 3 blob).2 = V') (hz : callsZ V 2 3 blob = r) (Q : Ending → World → Prop) (hq : ∀ w', WT w0 w' b V' T → Kpt T w w' → Q (.returned (.int .i64 r)) w') : Calls Tryz.prog 25 #[.pointer (some ⟨b, 0, none⟩), .agg #[.int .i64 2, .int .i64 3], .string ⟨#[98, 108, 111, 98]⟩] w Q := by
  have := callsL_any h hl hok (by decide) 2 3 blob blob_lt Q (fun w' a1 a2 _ => by rw [he] at a1; rw [hz]; exact hq w' a1 a2)
  rw [bs_blob] at this
  exact this
theorem strikeB (h : WT w0 w b V T) (hF : ∀ x ∈ V.l, Fit 100 x.st) {k t n a c : Int} (hs : (0 ≤ k ∧ k < 256) ∧ n < 9223372036854775808 ∧ a < 9223372036854775808) {z : Int} (he : strikeW V k t n a c = (z, V')) (Q : Ending → World → Prop) (hq : ∀ w', WT w0 w' b V' T → Kpt T w w' → Q (.returned (.int .i64 z)) w') : Calls Tryz.prog 29 #[.pointer (some ⟨b, 0, none⟩), .agg #[.int .u8 k, .int .i64 t, .int .i64 n, .int .i64 a, .int .i64 c]] w Q := by
  have := h.strike hF (by decide) k t n a c hs.1.1 hs.1.2 hs.2.1 hs.2.2
  rw [he] at this
  refine this.mono ?_
  rintro _ w' ⟨rfl, a1, a2⟩
  exact hq w' a1 a2
theorem objsB (h : WT w0 w b V T) (hF : ∀ x ∈ V.l, Fit 100 x.st) {i : Int} {m : Nat} (he : (objsW V i).length = m) (Q : Ending → World → Prop) (hq : ∀ w' A c, Below w.heap.size w w' → Q (.returned (.slice A m c)) w') : Calls Tryz.prog 23 #[.pointer (some ⟨b, 0, none⟩), .int .i64 i] w Q := by
  refine (h.objs (fun x hx => Nat.le_trans (hF x hx).seen (by decide)) i).mono ?_
  rintro _ w' ⟨v, rfl, a1, a2⟩
  obtain ⟨A, c, rfl⟩ := row_slice a1
  rw [he]
  exact hq w' A c a2
theorem sumB (w : World) (hl : H.Lay w) : Calls Tryz.prog 9 #[.string ⟨#[98, 108, 111, 98]⟩] w fun e w' => e = .returned (.string (dig blob)) ∧ Below w.heap.size w w' := by
  have := H.sum_any w hl.ht (C.ofBs blob) (by rw [show (C.ofBs blob).size = blob.length from H.ofBs_size blob]; decide)
  rw [show H.ofBs (H.Sha.digest (H.bs (C.ofBs blob))) = dig blob from by unfold dig; rw [show H.bs (C.ofBs blob) = blob from H.bs_ofBs blob blob_lt], bs_blob] at this
  exact this
end
section
variable {ev : Operand → Value} {o : Oper} {w : World} {x y : Operand}
theorem ens9 (args : Array Value) : (callFunc 9 args).run Tryz.prog w = .ok (.enter 9 args) w := by kernel_rfl
end
def rdA (b : Nat) (dg o : ByteArray) (z : Int) (j : Nat) (v : Value) (_ : World) : Prop := match j with
  | 51 => v = .pointer (some ⟨b, 0, none⟩) | 52 => v = .agg #[.int .i64 2, .int .i64 3] | 53 => v = .string dg
  | 54 => v = .tuple #[.string o, .int .i64 z] | 50 => v = .tuple #[.string o, .int .i64 z] | 55 => v = .string o | 56 => v = .int .i64 z | 4 => v = .string o
  | _ => True
def rdB (b : Nat) (dg : ByteArray) (z : Int) (j : Nat) (v : Value) (_ : World) : Prop := match j with
  | 76 => v = .pointer (some ⟨b, 0, none⟩) | 77 => v = .agg #[.int .i64 2, .int .i64 3] | 78 => v = .string dg
  | 79 => ∃ o : ByteArray, v = .tuple #[.string o, .int .i64 z] | 75 => ∃ o : ByteArray, v = .tuple #[.string o, .int .i64 z] | 81 => v = .int .i64 z
  | _ => True
theorem ens11 {w : World} (args : Array Value) : (callFunc 11 args).run Tryz.prog w = .ok (.enter 11 args) w := by kernel_rfl
set_option maxHeartbeats 8000000 in
set_option maxRecDepth 20000 in
theorem works_true (w : World) (hl : H.Lay w) (Q : Ending → World → Prop) (hq : ∀ w', Below w.heap.size w w' → Q (.returned (.bool true)) w') : Calls Tryz.prog 7 #[] w Q := by
  have HQ := hid hq
  have HL := hid hl
  clear hq hl
  go_enter Tryz.func7, Tryz.ntmps7
  go_wp2_with fail
  refine three_any _ _ ?_
  intro b1 V1 w1 h1 hn1 hb1
  obtain ⟨a1, a2, a3, rfl⟩ := hn1.three
  have HB1 := hid hb1
  have HX := hid (Has.new w1 w1.heap.size #[.int .i64 2, .int .i64 3] 25 rfl)
  have HW := hid ((h1.new ((Below.refl _ _).alloc (Nat.le_refl _) (.cells #[.int .i64 2, .int .i64 3] 25))).sub (T' := fun i => i = w1.heap.size) fun i hi => .inr ⟨by omega, by rw [hi]; exact HX.out.lt⟩)
  clear h1 hn1 hb1
  go_wp2_with fail
  refine callB HW.out HL.out (ok3 fit_st0 fit_st0 fit_st0 (by decide)) (by rw [e1]) (z1 ..) _ ?_
  intro w2 h2 k2
  have HX2 := hid (k2.has rfl HX.out)
  have HW2 := hid h2
  have HLT : Hid (w1.heap.size < w2.heap.size) := hid HX2.out.lt
  obtain ⟨c0, c1, f0, f1⟩ := two_cells HX2.out
  clear h2 k2 HX HW
  go_wp2_with fail
  refine callB HW2.out HL.out (ok3 fit_hd0 fit_hd1 fit_hd2 (by decide)) (by rw [e2]) (z2 ..) _ ?_
  clear c0 c1 f0 f1
  intro w3 h3 k3
  have HX3 := hid (k3.has rfl HX2.out)
  have HW3 := hid h3
  clear h3 k3 HX2 HW2
  go_wp2_with fail
  refine objsB HW3.out (fit3 fit_hd0 fit_hd1 fit_hd2) (m := 1) rfl _ ?_
  intro w4 A4 c4 hb4
  have HW4 := hid (HW3.out.below hb4)
  have HX4 := hid (HX3.out.below hb4 HX3.out.lt)
  clear hb4 HX3 HW3
  go_wp2_with fail
  refine objsB HW4.out (fit3 fit_hd0 fit_hd1 fit_hd2) (m := 1) rfl _ ?_
  intro w5 A5 c5 hb5
  have HW5 := hid (HW4.out.below hb5)
  have HX5 := hid (HX4.out.below hb5 HX4.out.lt)
  clear hb5 HX4 HW4
  go_wp2_with fail
  refine three_any _ _ ?_
  intro b6 V6 w6 h6 hn6 hb6
  obtain ⟨d1, d2, d3, rfl⟩ := hn6.three
  have HLQ : Hid (w.heap.size ≤ w1.heap.size) := hid HB1.out.size
  have HX6 := hid (HX5.out.below hb6 HX5.out.lt)
  have HO6 := hid (HW5.out.old.below hb6)
  have HW6 := hid (h6.rebase HW5.out.base)
  have HLT6 : Hid (w1.heap.size < w5.heap.size) := hid HX5.out.lt
  have HOn := hid (code_put w6 w1.heap.size (.int .i64 2) (.int .i64 3))
  have HO7 := hid (HO6.out.only HOn.out (fun i hi => by rw [hi]; exact HLQ.out))
  have HW7 := hid (HW6.out.only2 HOn.out (fun i hi => by rw [hi]; exact HLT6.out) (fun i hi => by rw [hi]; exact HLQ.out))
  have HX7 := hid (two_put HX6.out (.int .i64 2) (.int .i64 3))
  obtain ⟨c0, c1, f0, f1⟩ := two_cells HX6.out
  have f2 : ∀ u, (w6.setCell ⟨w1.heap.size, 0, none⟩ u).frozen? ⟨w1.heap.size, 1, none⟩ = false := fun u => (HX6.out.set 0 u).frozen _
  clear h6 hn6 hb6 HX5 HW5 HX6 HW6 HO6 HOn
  go_wp2_with fail
  clear c0 c1 f0 f1 f2
  refine strikeB HW7.out (fit3 fit_st0 fit_st0 fit_st0) (by decide) (e3 ..) _ ?_
  intro w8 h8 k8
  have HX8 := hid (k8.has HLT6.out HX7.out)
  have HO8 := hid (HO7.out.kept k8 h8.base)
  have HW8 := hid h8
  obtain ⟨c0, c1, f0, f1⟩ := two_cells HX8.out
  clear h8 k8 HX7 HW7 HO7
  go_wp2_with fail
  refine callB HW8.out HL.out (ok3 fit_dn0 fit_st0 fit_st0 (by decide)) (by rw [e4]) (z4 ..) _ ?_
  clear c0 c1 f0 f1
  intro w9 h9 k9
  have HX9 := hid (k9.has HLT6.out HX8.out)
  have HO9 := hid (HO8.out.kept k9 h9.base)
  have HW9 := hid h9
  clear h9 k9 HX8 HW8 HO8
  go_wp2_with fail
  obtain ⟨c0, c1, f0, f1⟩ := two_cells HX9.out
  have HLT9 : Hid (w1.heap.size < w9.heap.size) := hid HX9.out.lt
  have HSM : Hid (∀ W', BelW w9 W' → Calls Tryz.prog 9 #[.string ⟨#[98, 108, 111, 98]⟩] W' fun e w' => e = .returned (.string (dig blob)) ∧ Below W'.heap.size W' w') := hid fun W' hW => sumB W' ((HW9.out.below hW).lay HL.out)
  obtain ⟨X2, hX2⟩ : ∃ X2 : World → Prop, X2 = fun W => ∃ V', WT w W b6 V' (fun i => i < w5.heap.size) ∧ Kpt (fun i => i < w5.heap.size) w9 W := ⟨_, rfl⟩
  have HHAS : Hid (∀ W, (BelW w9 W ∨ X2 W) → Has W w1.heap.size #[.int .i64 2, .int .i64 3] 25) := hid fun W h => by
    rcases h with h | h
    · exact HX9.out.below h HX9.out.lt
    · rw [hX2] at h
      obtain ⟨_, _, h⟩ := h
      exact h.has HLT6.out HX9.out
  have HRD : Hid (∀ W, BelW w9 W → Calls Tryz.prog 11 #[.pointer (some ⟨b6, 0, none⟩), .agg #[.int .i64 2, .int .i64 3], .string (dig blob)] W fun e w' => e = .returned (.tuple #[.string (C.ofBs blob), .int .i64 0]) ∧ X2 w') := hid fun W hW => read_any (HW9.out.below hW) HL.out 2 3 (dig blob) (by show (7 : Nat) ≤ _; decide) (by show (0 : Nat) < _; decide) _ fun w' o z V' hr hw hk => by
    obtain ⟨rfl, rfl⟩ := rd1 hr
    rw [hX2]
    exact ⟨rfl, V', hw, (Kpt.below HW9.out hW).trans hk⟩
  generalize hdg : dig blob = dg at HSM HRD
  rw [bs_blob] at HRD
  refine Tl.wp_mixL_lit (by kernel_rfl) 8 [51, 52, 53, 54, 50, 55, 56, 4] 84 rfl (by kernel_rfl) (Tl.Two 2 3 (BelW w9) (BelW w9) X2) (rdA b6 dg ⟨#[98, 108, 111, 98]⟩ 0) ((Below.refl _ _).drew)
    ⟨fun l a' W' hsz hl hcl hed hC hF => ?_, fun l a' W' hsz hl hcl hed hC hF => ?_, fun l a' W' hsz hl hcl hed hC hF => ?_, fun l a' W' hsz hl hcl hed hC hF => ?_, fun l a' W' hsz hl hcl hed hC hF => ?_, fun l a' W' hsz hl hcl hed hC hF => ?_, fun l a' W' hsz hl hcl hed hC hF => ?_, fun l a' W' hsz hl hcl hed hC hF => ?_, trivial⟩ ?_
  · exact Tl.sl_v 51 _ rfl (Tl.wanted_none rfl) (hC.other (by decide) (by decide)) rfl (rn_move rfl ((hF 3 (by decide +kernel)).2 (by decide)))
  · have hh := HHAS.out _ (hC.any (Y := fun W => BelW w9 W ∨ X2 W) .inl .inl .inr)
    exact Tl.sl_v 52 _ rfl (Tl.wanted_none rfl) (hC.other (by decide) (by decide)) rfl (rn_load25 rfl ((hF 2 (by decide +kernel)).2 (by decide)) (hh.cell 0) (hh.cell 1))
  · refine Tl.sl_call 9 #[_] (Tl.wanted_none rfl) (rn_call1 rfl rfl rfl (ens9 _)) ((HSM.out W' (hC.first hl)).mono ?_)
    rintro e w'' ⟨rfl, hb⟩
    exact ⟨_, rfl, Tl.Two.did (by decide) hcl (by kernel_rfl) hl (by rw [hsz]; decide) (Below.trans (hC.first hl) (hb.mono (Below.size (hC.first hl)))), fun _ _ _ h => h, fun d hd => by cases hd; rfl⟩
  · refine Tl.sl_call 11 #[_, _, _] (Tl.wanted_none rfl) (rn_call3 rfl rfl ((hF 51 (by decide +kernel)).1 (by decide)) ((hF 52 (by decide +kernel)).1 (by decide)) ((hF 53 (by decide +kernel)).1 (by decide)) (ens11 _)) ((HRD.out W' (hC.second (hed 2 (by kernel_rfl)) hl)).mono ?_)
    rintro e w'' ⟨rfl, ha⟩
    exact ⟨_, rfl, Tl.Two.both (by decide) (hed 2 (by kernel_rfl)) (by rw [hsz]; decide) ha, fun _ _ _ h => h, fun d hd => by cases hd; rfl⟩
  · exact Tl.sl_v 50 _ rfl (Tl.wanted_none rfl) (hC.other (by decide) (by decide)) rfl (rn_move rfl ((hF 54 (by decide +kernel)).1 (by decide)))
  · exact Tl.sl_v 55 _ rfl (Tl.wanted_none rfl) (hC.other (by decide) (by decide)) rfl (rn_ext0 rfl ((hF 50 (by decide +kernel)).1 (by decide)))
  · exact Tl.sl_v 56 _ rfl (Tl.wanted_none rfl) (hC.other (by decide) (by decide)) rfl (rn_ext1 rfl ((hF 50 (by decide +kernel)).1 (by decide)))
  · exact Tl.sl_v 4 _ rfl (Tl.wanted_none rfl) (hC.other (by decide) (by decide)) rfl (rn_assign rfl ((hF 55 (by decide +kernel)).1 (by decide)))
  intro k v w11 hk hC hv
  have hx := hC.last (hk 2 (by decide)) (hk 3 (by decide))
  rw [hX2] at hx
  obtain ⟨V11, h11, k11⟩ := hx
  have v56 : v 56 = .int .i64 0 := hv 56 (by decide)
  have v4 : v 4 = .string ⟨#[98, 108, 111, 98]⟩ := hv 4 (by decide)
  have HX11 := hid (k11.has HLT6.out HX9.out)
  have HO11 := hid (HO9.out.kept k11 h11.base)
  clear hk hC hv HSM HRD HHAS hX2 h11 k11 HX9 HW9 HO9 c0 c1 f0 f1 hdg
  simp only [Tl.fill, List.drop_succ_cons, List.drop_zero, wpList]
  rw [if_pos (Tl.wanted_none rfl)]
  simp only [Act.put, List.setIfInBounds_toArray, List.set_cons_succ, List.set_cons_zero, v56, v4]
  clear v56 v4
  refine .inl (wp_assign (x := .tmp 56) (d := 5) (v := .int .i64 0) ?_ ?_ ?_ ?_)
  · rfl
  · rfl
  · rfl
  simp only [Act.put, List.setIfInBounds_toArray, List.set_cons_succ, List.set_cons_zero]
  go_wp2_with fail
  refine strikeB HO11.out.back (fit3 fit_hd0 fit_hd1 fit_hd2) (by decide) (e5 ..) _ ?_
  intro w12 h12 k12
  have HX12 := hid (k12.has rfl HX11.out)
  have HW12 := hid h12
  clear h12 k12 HX11 HO11
  go_wp2_with fail
  refine strikeB HW12.out (fit3 fit_wp0 fit_hd1 fit_hd2) (by decide) (e6 ..) _ ?_
  intro w13 h13 k13
  have HX13 := hid (k13.has rfl HX12.out)
  have HW13 := hid h13
  clear h13 k13 HX12 HW12
  go_wp2_with fail
  have HSM : Hid (∀ W', BelW w13 W' → Calls Tryz.prog 9 #[.string ⟨#[98, 108, 111, 98]⟩] W' fun e w' => e = .returned (.string (dig blob)) ∧ Below W'.heap.size W' w') := hid fun W' hW => sumB W' ((HW13.out.below hW).lay HL.out)
  obtain ⟨X2, hX2⟩ : ∃ X2 : World → Prop, X2 = fun W => ∃ V', WT w W b1 V' (fun i => i = w1.heap.size) ∧ Kpt (fun i => i = w1.heap.size) w13 W := ⟨_, rfl⟩
  have HHAS : Hid (∀ W, (BelW w13 W ∨ X2 W) → Has W w1.heap.size #[.int .i64 2, .int .i64 3] 25) := hid fun W h => by
    rcases h with h | h
    · exact HX13.out.below h HX13.out.lt
    · rw [hX2] at h
      obtain ⟨_, _, h⟩ := h
      exact h.has rfl HX13.out
  have HRD : Hid (∀ W, BelW w13 W → Calls Tryz.prog 11 #[.pointer (some ⟨b1, 0, none⟩), .agg #[.int .i64 2, .int .i64 3], .string (dig blob)] W fun e w' => (∃ o : ByteArray, e = .returned (.tuple #[.string o, .int .i64 54])) ∧ X2 w') := hid fun W hW => read_any (HW13.out.below hW) HL.out 2 3 (dig blob) (by show (15 : Nat) ≤ _; decide) (by show (0 : Nat) < _; decide) _ fun w' o z V' hr hw hk => by
    obtain rfl := rd2 hr
    rw [hX2]
    exact ⟨⟨o, rfl⟩, V', hw, (Kpt.below HW13.out hW).trans hk⟩
  generalize dig blob = dg at HSM HRD
  refine Tl.wp_mixL_lit (by kernel_rfl) 7 [76, 77, 78, 79, 75, 80, 81] 84 rfl (by kernel_rfl) (Tl.Two 2 3 (BelW w13) (BelW w13) X2) (rdB b1 dg 54) ((Below.refl _ _).drew)
    ⟨fun l a' W' hsz hl hcl hed hC hF => ?_, fun l a' W' hsz hl hcl hed hC hF => ?_, fun l a' W' hsz hl hcl hed hC hF => ?_, fun l a' W' hsz hl hcl hed hC hF => ?_, fun l a' W' hsz hl hcl hed hC hF => ?_, fun l a' W' hsz hl hcl hed hC hF => ?_, fun l a' W' hsz hl hcl hed hC hF => ?_, trivial⟩ ?_
  · exact Tl.sl_v 76 _ rfl (Tl.wanted_none rfl) (hC.other (by decide) (by decide)) rfl (rn_move rfl ((hF 1 (by decide +kernel)).2 (by decide)))
  · have hh := HHAS.out _ (hC.any (Y := fun W => BelW w13 W ∨ X2 W) .inl .inl .inr)
    exact Tl.sl_v 77 _ rfl (Tl.wanted_none rfl) (hC.other (by decide) (by decide)) rfl (rn_load25 rfl ((hF 2 (by decide +kernel)).2 (by decide)) (hh.cell 0) (hh.cell 1))
  · refine Tl.sl_call 9 #[_] (Tl.wanted_none rfl) (rn_call1 rfl rfl rfl (ens9 _)) ((HSM.out W' (hC.first hl)).mono ?_)
    rintro e w'' ⟨rfl, hb⟩
    exact ⟨_, rfl, Tl.Two.did (by decide) hcl (by kernel_rfl) hl (by rw [hsz]; decide) (Below.trans (hC.first hl) (hb.mono (Below.size (hC.first hl)))), fun _ _ _ h => h, fun d hd => by cases hd; rfl⟩
  · refine Tl.sl_call 11 #[_, _, _] (Tl.wanted_none rfl) (rn_call3 rfl rfl ((hF 76 (by decide +kernel)).1 (by decide)) ((hF 77 (by decide +kernel)).1 (by decide)) ((hF 78 (by decide +kernel)).1 (by decide)) (ens11 _)) ((HRD.out W' (hC.second (hed 2 (by kernel_rfl)) hl)).mono ?_)
    rintro e w'' ⟨⟨o, rfl⟩, ha⟩
    exact ⟨_, rfl, Tl.Two.both (by decide) (hed 2 (by kernel_rfl)) (by rw [hsz]; decide) ha, fun _ _ _ h => h, fun d hd => by cases hd; exact ⟨o, rfl⟩⟩
  · obtain ⟨o, ho⟩ : ∃ o : ByteArray, _ = Value.tuple #[.string o, .int .i64 54] := (hF 79 (by decide +kernel)).1 (by decide)
    exact Tl.sl_v 75 _ rfl (Tl.wanted_none rfl) (hC.other (by decide) (by decide)) ⟨o, rfl⟩ (rn_move rfl ho)
  · obtain ⟨o, ho⟩ : ∃ o : ByteArray, _ = Value.tuple #[.string o, .int .i64 54] := (hF 75 (by decide +kernel)).1 (by decide)
    exact Tl.sl_v 80 _ rfl (Tl.wanted_none rfl) (hC.other (by decide) (by decide)) trivial (rn_ext0 rfl ho)
  · obtain ⟨o, ho⟩ : ∃ o : ByteArray, _ = Value.tuple #[.string o, .int .i64 54] := (hF 75 (by decide +kernel)).1 (by decide)
    exact Tl.sl_v 81 _ rfl (Tl.wanted_none rfl) (hC.other (by decide) (by decide)) rfl (rn_ext1 rfl ho)
  intro k v w14 hk hC hv
  have hx := hC.last (hk 2 (by decide)) (hk 3 (by decide))
  rw [hX2] at hx
  obtain ⟨V14, h14, k14⟩ := hx
  have v81 : v 81 = .int .i64 54 := hv 81 (by decide)
  have HBE := hid h14.base
  clear hk hC hv HSM HRD HHAS hX2 h14 k14 HX13 HW13
  simp only [Tl.fill, List.drop_succ_cons, List.drop_zero, wpList]
  rw [if_pos (Tl.wanted_none rfl)]
  simp only [Act.put, List.setIfInBounds_toArray, List.set_cons_succ, List.set_cons_zero, v81]
  clear v81
  refine .inl (wp_assign (x := .tmp 81) (d := 5) (v := .int .i64 54) ?_ ?_ ?_ ?_)
  · rfl
  · rfl
  · rfl
  simp only [Act.put, List.setIfInBounds_toArray, List.set_cons_succ, List.set_cons_zero]
  go_wp2_with fail
  exact HQ.out _ HBE.out
end Go.Proofs.YtffhobkoagnhhaaGreatDoor
/- What the rows' lists give: the tables hold what they are laid as; a world for the witnesses. -/
namespace Go.Proofs.YtffhobkoagnhhaaGreatDoor
open Go.ChangeShapes Go.WideShapes Go.ChangeAt Go.RowKit
theorem own : ownKnob Tryz.prog.godebug = none := by kernel_rfl
theorem laidOut : laidOutB Tryz.prog = true := by kernel_rfl
theorem gSq : Tryz.prog.globalNamed "strongbox/sha.squareRoots" = some 0 := by kernel_rfl
theorem gSqType : (Tryz.prog.globals[0]?).map (·.type) = some 125 := by kernel_rfl
theorem gCu : Tryz.prog.globalNamed "strongbox/sha.cubeRoots" = some 1 := by kernel_rfl
theorem gCuType : (Tryz.prog.globals[1]?).map (·.type) = some 237 := by kernel_rfl
theorem gPowType : (Tryz.prog.globals[3]?).map (·.type) = some 282 := by kernel_rfl
theorem cells124 : Tryz.prog.cellsOf 124 = 1 := by kernel_rfl
theorem cells125 : Tryz.prog.cellsOf 125 = 8 := by kernel_rfl
theorem cells237 : Tryz.prog.cellsOf 237 = 64 := by kernel_rfl
theorem cells196 : Tryz.prog.cellsOf 196 = 1 := by kernel_rfl
theorem cells282 : Tryz.prog.cellsOf 282 = 20 := by kernel_rfl
theorem hasC_of_var {W : World} {name : String} {cs : Array Value} {g : Nat} (hg : Tryz.prog.globalNamed name = some g) (h : W.var? Tryz.prog name = some cs) : H.HasC W g cs := by
  unfold World.var? at h
  rw [hg] at h
  simp only [Option.bind_some] at h
  cases hq : W.heap[g]? with
  | none => rw [hq] at h; simp at h
  | some o =>
    rw [hq] at h
    cases o with
    | cells cs t fr =>
      simp only [Option.some.injEq] at h
      subst h
      exact ⟨t, fr, hq⟩
    | _ => simp at h
/-- THE TABLES, off a row's list. -/
theorem lay_of {W : World} (h : laidMetH Tryz.prog [("math/bits.deBruijn32tab", Rows.laid_math_bits_deBruijn32tab), ("math/bits.deBruijn64tab", Rows.laid_math_bits_deBruijn64tab), ("internal/strconv.uint64pow10", Rows.laid_internal_strconv_uint64pow10), ("strongbox/sha.squareRoots", Rows.laid_strongbox_sha_squareRoots), ("strongbox/sha.cubeRoots", Rows.laid_strongbox_sha_cubeRoots)] W) : H.Lay W := by
  have h0 : laidMet Tryz.prog [("math/bits.deBruijn32tab", Rows.laid_math_bits_deBruijn32tab), ("math/bits.deBruijn64tab", Rows.laid_math_bits_deBruijn64tab), ("internal/strconv.uint64pow10", Lib.tabData .u64 Lib.pow10Tab), ("strongbox/sha.squareRoots", Lib.tabData .u32 [1779033703, 3144134277, 1013904242, 2773480762, 1359893119, 2600822924, 528734635, 1541459225]), ("strongbox/sha.cubeRoots", Lib.tabData .u32 (H.Sha.cube.map fun x : Nat => (x : Int)))] W := h
  have h2 := h0.tail.tail
  have t1 := Lib.tabIs_of_head H.gPow gPowType Tryz.underlying282 Tryz.underlying196 cells196 cells282 h2
  have h5 := h2.tail
  have t2 := Lib.tabIs_of_head gSq gSqType Tryz.underlying125 Tryz.underlying124 cells124 cells125 h5
  have t3 := Lib.tabIs_of_head gCu gCuType Tryz.underlying237 Tryz.underlying124 cells124 cells237 h5.tail
  refine ⟨⟨hasC_of_var gSq t2, ?_⟩, hasC_of_var H.gPow t1⟩
  have h6 := hasC_of_var gCu t3
  have e : ((H.Sha.cube.map fun x : Nat => (x : Int)).map fun z => Value.int .u32 z).toArray = H.U32s H.Sha.cube := by
    unfold H.U32s; rw [List.map_map]; rfl
  rw [e] at h6; exact h6
/-- a block with these cells in it -/
def layCells (cs : Array Value) : Obj → Obj
  | .cells _ t fr => .cells cs t fr
  | o => o
/-- a table's cells -/
def datCells : DataW Unit → Array Value
  | .agg l => (l.map fun | .lit (.int k n) => Value.int k n | _ => undef).toArray
  | _ => #[]
/-- A WORLD FOR THE WITNESSES: the settled one, the tables holding what their initialisers lay. -/
noncomputable def laidWorld (os : Os) : World :=
  let w0 := World.holding Tryz.prog os ⟨#[], #[], []⟩
  { w0 with heap := ((((w0.heap.modify 0 (layCells (datCells Rows.laid_strongbox_sha_squareRoots))).modify 1 (layCells (datCells Rows.laid_strongbox_sha_cubeRoots))).modify 3 (layCells (datCells Rows.laid_internal_strconv_uint64pow10))).modify 4 (layCells (datCells Rows.laid_math_bits_deBruijn32tab))).modify 5 (layCells (datCells Rows.laid_math_bits_deBruijn64tab)) }
end Go.Proofs.YtffhobkoagnhhaaGreatDoor
