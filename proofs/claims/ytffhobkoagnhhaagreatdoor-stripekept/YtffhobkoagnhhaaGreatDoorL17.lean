/- StripeKept: the walk. Printed by gen_l16.py. -/
import Derived.Test.YtffhobkoagnhhaaGreatDoorL16
namespace Go.Proofs.YtffhobkoagnhhaaGreatDoor
open Go.RowKit Go.Maps
open W
set_option linter.unusedVariables false
variable {w0 w w' : World} {b : Nat} {V V' : Wd} {T : Nat → Prop} {K N : Int} {bl : List Nat}
set_option maxHeartbeats 16000000 in
set_option maxRecDepth 20000 in
theorem kept_walk (hl : H.Lay w) (s : ByteArray) {vl vc : Value} {fl : List Flt} {sv : List Sv} (hfl : RdF w vl fl) (hsv : RdS w vc sv) (hsl : sv.length ≤ 9223372036854775807) (first : Bool) : Calls Tryz.prog 5 #[.agg #[.int .i64 K, .int .i64 N], .string s, vl, vc, .bool first] w fun e w' => e = .returned (.bool true) ∧ Below w.heap.size w w' := by
  have HL := hid hl
  have HFL := hid hfl
  have HSV := hid hsv
  have HSL := hid hsl
  obtain ⟨al, cl, rfl⟩ := hfl.form
  obtain ⟨ac, cc, rfl⟩ := hsv.form
  obtain ⟨hb1, hb2, hb3⟩ := bl_of s
  obtain ⟨bl, hbl⟩ : ∃ bl, bl = H.bs s := ⟨_, rfl⟩
  rw [← hbl] at hb1 hb2 hb3
  have HB1 := hid hb1
  have HB2 := hid hb2
  have HB3 := hid hb3
  clear hl hfl hsv hsl hbl hb1 hb2 hb3
  generalize hL1 : fl.length = L1 at *
  generalize hL2 : sv.length = L2 at *
  have HL1 := hid hL1
  have HL2 := hid hL2
  clear hL1 hL2
  obtain ⟨q, hqq⟩ : ∃ q, q = w.heap.size := ⟨_, rfl⟩
  obtain ⟨wa, hwa⟩ : ∃ wa, wa = w.alloc (.cells #[.int .i64 K, .int .i64 N] 25) := ⟨_, rfl⟩
  have HB := hid (boxed w (.cells #[.int .i64 K, .int .i64 N] 25))
  have HX := hid (Has.new w w.heap.size #[.int .i64 K, .int .i64 N] 25 rfl)
  rw [← hwa] at HB HX
  rw [← hqq] at HX
  have HQ0 : Hid (q = w.heap.size) := hid hqq
  go_enter Tryz.func5, Tryz.ntmps5
  go_wp2_with fail
  rw [← hwa, ← hqq]
  clear hwa hqq
  refine works_true _ (HL.out.below HB.out) _ ?_
  intro w1 hw1
  have HBw := hid (HB.out.trans (hw1.mono HB.out.size))
  have HX1 := hid (HX.out.below hw1 HX.out.lt)
  clear hw1 HB HX
  have big : ∀ w2, Below w.heap.size w w2 → Calls Tryz.prog 7 #[] w2 fun e w' => e = .returned (.bool true) ∧ Below w.heap.size w w' := fun w2 h2 => works_true _ (HL.out.below h2) _ fun w3 h3 => ⟨rfl, h2.trans (h3.mono h2.size)⟩
  have HBIG := hid big
  clear big
  by_cases n1 : 2000 < s.size
  · have p1 : (2000 : Int) < (s.size : Int) := by omega
    clear n1
    go_wp2_with fail
    refine (HBIG.out w1 HBw.out).mono ?_
    rintro _ w2 ⟨rfl, hb⟩
    go_wp2_with fail
    go_ret
    exact ⟨rfl, hb⟩
  have p1 : ¬ (2000 : Int) < (s.size : Int) := by omega
  by_cases n2 : 60 < L1
  · have p2 : (60 : Int) < (L1 : Int) := by omega
    clear n2
    go_wp2_with fail
    refine (HBIG.out w1 HBw.out).mono ?_
    rintro _ w2 ⟨rfl, hb⟩
    go_wp2_with fail
    go_ret
    exact ⟨rfl, hb⟩
  have p2 : ¬ (60 : Int) < (L1 : Int) := by omega
  by_cases n3 : 50 < L2
  · have p3 : (50 : Int) < (L2 : Int) := by omega
    clear n3
    go_wp2_with fail
    refine (HBIG.out w1 HBw.out).mono ?_
    rintro _ w2 ⟨rfl, hb⟩
    go_wp2_with fail
    go_ret
    exact ⟨rfl, hb⟩
  have p3 : ¬ (50 : Int) < (L2 : Int) := by omega
  have HBL : Hid (bl.length ≤ 32768) := hid (by rw [HB3.out]; omega)
  have HSZ : Hid (s.size ≤ 2000) := hid (by omega)
  have HL60 : Hid (L1 ≤ 60) := hid (by omega)
  clear n1 n2 n3 HBIG
  obtain ⟨c0, c1, f0, f1⟩ := two_cells HX1.out
  go_wp2_with fail
  clear p1 p2 p3
  refine wnew_any w1 N _ (fun hn => ?_) (fun hn b g S lk w2 hI hlk hx hS hb2 => ?_)
  · clear c0 c1 f0 f1
    go_wp2_with fail
    go_ret
    exact ⟨rfl, HBw.out⟩
  obtain ⟨n, hnN⟩ : ∃ n : Nat, N = (n : Int) := ⟨N.toNat, by omega⟩
  have hn12 : n ≤ 12 := by omega
  have hn1 : 1 ≤ n := by omega
  have HN := hid hnN
  clear hnN
  have HN12 := hid hn12
  have HN1 := hid hn1
  have HX2 := hid (HX1.out.below hb2 HX1.out.lt)
  have HW2 := hid (show WT w w2 b (newW lk) (fun i => i = q) from ⟨S, g, hI, fun i hi => Nat.le_trans HBw.out.size (hS i hi), HBw.out.trans (hb2.mono HBw.out.size), fun i hi => by
    rw [hi]
    refine ⟨fun hs => ?_, HX2.out.lt⟩
    have := hS _ hs
    have := HX1.out.lt
    omega⟩)
  have HI2 := hid (WI.fresh (n := n) (by rw [hlk]; have := HN.out; omega) hx)
  clear hI hlk hx hS hb2 c0 c1 f0 f1 HX1 HBw
  obtain ⟨c0, c1, f0, f1⟩ := two_cells HX2.out
  go_wp2_with fail
  refine writeX HW2.out HL.out (HI2.out.ok fun m s _ h => by rw [h]; exact fit_st) (by decide) HB1.out HB2.out _ ?_
  intro w3 h3 k3 _
  cases hm : C.Mx.mayC K N with
  | false =>
    rw [wrG_bad hm] at h3 ⊢
    have HX3 := hid (k3.has rfl HX2.out)
    have HE := hid h3.base
    clear h3 k3 c0 c1 f0 f1
    obtain ⟨c0, c1, f0, f1⟩ := two_cells HX3.out
    have hKN : K < 1 ∨ N < K := by
      unfold C.Mx.mayC at hm
      have := of_decide_eq_false hm
      omega
    by_cases k1 : K < 1
    · clear hKN hn hn1 hn12 hm
      go_wp2_with fail
      go_ret
      exact ⟨rfl, HE.out⟩
    · have k2 : N < K := by omega
      clear hKN hn hn1 hn12 hm
      go_wp2_with fail
      go_ret
      exact ⟨rfl, HE.out⟩
  | true =>
    have HM := hid hm
    obtain ⟨V3, hw3, hI3, hc3⟩ := HI2.out.write rfl hn12 hm HN.out HBL.out
    rw [hw3] at h3 ⊢
    have HX3 := hid (k3.has rfl HX2.out)
    have HW3 := hid h3
    have HI3 := hid hI3
    obtain ⟨V4, hw4, hI4, hc4⟩ := hI3.again hc3 hn12 hm HN.out HBL.out
    have HI4 := hid hI4
    have hcz : callsZ V3 K N bl = 2 * N := by
      unfold callsZ
      rw [hw4]
      simp only [if_pos]
      rw [hc4, hc3, HN.out]
      omega
    have HSM : Hid (∀ W', BelW w3 W' → Calls Tryz.prog 9 #[.string s] W' fun e w' => e = .returned (.string (dig bl)) ∧ Below W'.heap.size W' w') := hid fun W' hW => sumS W' ((HW3.out.below hW).lay HL.out) HSZ.out HB2.out HB1.out
    obtain ⟨X2, hX2⟩ : ∃ X2 : World → Prop, X2 = fun W => WT w W b V4 (fun i => i = q) ∧ Kpt (fun i => i = q) w3 W := ⟨_, rfl⟩
    have HHAS : Hid (∀ W, (BelW w3 W ∨ X2 W) → Has W q #[.int .i64 K, .int .i64 N] 25) := hid fun W h => by
      rcases h with h | h
      · exact HX3.out.below h HX3.out.lt
      · rw [hX2] at h
        exact h.2.has rfl HX3.out
    have HCL : Hid (∀ W, BelW w3 W → Calls Tryz.prog 25 #[.pointer (some ⟨b, 0, none⟩), .agg #[.int .i64 K, .int .i64 N], .string s] W fun e w' => e = .returned (.int .i64 (2 * N)) ∧ X2 w') := hid fun W hW => by
      have := callsL_any (HW3.out.below hW) HL.out (HI3.out.ok fun m s hmn h => by rw [h]; exact (Left.held hm HBL.out (by have := HN.out; omega)).fit) (by decide) K N bl HB1.out (fun e w' => e = .returned (.int .i64 (2 * N)) ∧ X2 w') (fun w' a1 a2 _ => by
        rw [hw4] at a1
        rw [hcz, hX2]
        exact ⟨rfl, a1, (Kpt.below HW3.out hW).trans a2⟩)
      rw [HB2.out] at this
      exact this
    have HMUL : Hid (IntKind.i64.wrap (2 * N) = 2 * N) := hid (by
      have := HN.out
      have := HN12.out
      rw [IntKind.wrap_i64]
      omega)
    generalize hdg : dig bl = dg at *
    have HDG := hid hdg
    clear hdg h3 k3 c0 c1 f0 f1 hw3 hI3 hc3 hw4 hI4 hc4 hcz hm HX2 HW2 HI2 HW3 hn hn1 hn12
    go_wp2_with fail
    refine Tl.wp_mixL_lit (by kernel_rfl) 14 [67, 68, 69, 70, 71, 72, 73, 74, 75, 76, 77, 78, 79, 80] 180 rfl (by kernel_rfl) (Tl.Two 2 8 (BelW w3) (BelW w3) X2) (r9F b q K N dg s) ((Below.refl _ _).drew)
      ⟨fun l a' W' hsz hl hcl hed hC hF => ?_, fun l a' W' hsz hl hcl hed hC hF => ?_, fun l a' W' hsz hl hcl hed hC hF => ?_, fun l a' W' hsz hl hcl hed hC hF => ?_, fun l a' W' hsz hl hcl hed hC hF => ?_, fun l a' W' hsz hl hcl hed hC hF => ?_, fun l a' W' hsz hl hcl hed hC hF => ?_, fun l a' W' hsz hl hcl hed hC hF => ?_, fun l a' W' hsz hl hcl hed hC hF => ?_, fun l a' W' hsz hl hcl hed hC hF => ?_, fun l a' W' hsz hl hcl hed hC hF => ?_, fun l a' W' hsz hl hcl hed hC hF => ?_, fun l a' W' hsz hl hcl hed hC hF => ?_, fun l a' W' hsz hl hcl hed hC hF => ?_, trivial⟩ ?_
    · exact Tl.sl_v 67 _ rfl (Tl.wanted_none rfl) (hC.other (by decide) (by decide)) rfl (rn_move rfl ((hF 13 (by decide +kernel)).2 (by decide)))
    · exact Tl.sl_v 68 _ rfl (Tl.wanted_none rfl) (hC.other (by decide) (by decide)) rfl (rn_move rfl ((hF 1 (by decide +kernel)).2 (by decide)))
    · refine Tl.sl_call 9 #[_] (Tl.wanted_none rfl) (rn_call1 rfl rfl ((hF 68 (by decide +kernel)).1 (by decide)) (ens9 _)) ((HSM.out W' (hC.first hl)).mono ?_)
      rintro e w'' ⟨rfl, hb⟩
      exact ⟨_, rfl, did2 (by decide) (by
        cases h : l.getD 8 false with
        | false => rfl
        | true =>
          have := hcl 3 2 (hcl 4 3 (hcl 8 4 h (by kernel_rfl)) (by kernel_rfl)) (by kernel_rfl)
          rw [hl] at this
          cases this) (by rw [hsz]; decide) (Below.trans (hC.first hl) (hb.mono (Below.size (hC.first hl)))), fun _ _ _ h => h, fun d hd => by cases hd; rfl⟩
    · exact Tl.sl_v 70 _ rfl (Tl.wanted_none rfl) (hC.other (by decide) (by decide)) rfl (rn_neq9 rfl ((hF 67 (by decide +kernel)).1 (by decide)) ((hF 69 (by decide +kernel)).1 (by decide)))
    · exact Tl.sl_v 71 _ rfl (Tl.wanted_none rfl) (hC.other (by decide) (by decide)) rfl (rn_move rfl ((hF 70 (by decide +kernel)).1 (by decide)))
    · exact Tl.sl_v 72 _ rfl (Tl.wanted_is rfl rfl ((hF 71 (by decide +kernel)).1 (by decide))) (hC.other (by decide) (by decide)) rfl (rn_move rfl ((hF 11 (by decide +kernel)).2 (by decide)))
    · have hh := HHAS.out _ (hC.any (Y := fun W => BelW w3 W ∨ X2 W) .inl .inl .inr)
      exact Tl.sl_v 73 _ rfl (Tl.wanted_is rfl rfl ((hF 71 (by decide +kernel)).1 (by decide))) (hC.other (by decide) (by decide)) rfl (rn_load25 rfl ((hF 5 (by decide +kernel)).2 (by decide)) (hh.cell 0) (hh.cell 1))
    · exact Tl.sl_v 74 _ rfl (Tl.wanted_is rfl rfl ((hF 71 (by decide +kernel)).1 (by decide))) (hC.other (by decide) (by decide)) rfl (rn_move rfl ((hF 1 (by decide +kernel)).2 (by decide)))
    · refine Tl.sl_call 25 #[_, _, _] (Tl.wanted_is rfl rfl ((hF 71 (by decide +kernel)).1 (by decide))) (rn_call3 rfl rfl ((hF 72 (by decide +kernel)).1 (by decide)) ((hF 73 (by decide +kernel)).1 (by decide)) ((hF 74 (by decide +kernel)).1 (by decide)) (ens25 _)) ((HCL.out W' (hC.second (hcl 3 2 (hcl 4 3 (hed 4 (by kernel_rfl)) (by kernel_rfl)) (by kernel_rfl)) hl)).mono ?_)
      rintro e w'' ⟨rfl, ha⟩
      exact ⟨_, rfl, Tl.Two.both (by decide) (hcl 3 2 (hcl 4 3 (hed 4 (by kernel_rfl)) (by kernel_rfl)) (by kernel_rfl)) (by rw [hsz]; decide) ha, fun _ _ _ h => h, fun d hd => by cases hd; rfl⟩
    · exact Tl.sl_v 76 _ rfl (Tl.wanted_is rfl rfl ((hF 71 (by decide +kernel)).1 (by decide))) (hC.other (by decide) (by decide)) rfl (rn_f25_1 rfl ((hF 5 (by decide +kernel)).2 (by decide)))
    · have hh := HHAS.out _ (hC.any (Y := fun W => BelW w3 W ∨ X2 W) .inl .inl .inr)
      exact Tl.sl_v 77 _ rfl (Tl.wanted_is rfl rfl ((hF 71 (by decide +kernel)).1 (by decide))) (hC.other (by decide) (by decide)) rfl (rn_load3 rfl ((hF 76 (by decide +kernel)).1 (by decide)) (hh.cell 1))
    · exact Tl.sl_v 78 _ rfl (Tl.wanted_is rfl rfl ((hF 71 (by decide +kernel)).1 (by decide))) (hC.other (by decide) (by decide)) rfl (rn_mul3 rfl rfl ((hF 77 (by decide +kernel)).1 (by decide)) HMUL.out)
    · exact Tl.sl_v 79 _ rfl (Tl.wanted_is rfl rfl ((hF 71 (by decide +kernel)).1 (by decide))) (hC.other (by decide) (by decide)) rfl (rn_neq3s rfl ((hF 75 (by decide +kernel)).1 (by decide)) ((hF 78 (by decide +kernel)).1 (by decide)))
    · exact Tl.sl_v 80 _ rfl (Tl.wanted_none rfl) (hC.other (by decide) (by decide)) rfl (rn_pickF rfl ((hF 71 (by decide +kernel)).1 (by decide)) ((hF 79 (by decide +kernel)).1 (by decide)))
    intro kk v w4 hk hC hv
    have hx := hC.last (hk 2 (by decide)) (hk 8 (by decide))
    rw [hX2] at hx
    have v80 : v 80 = .bool false := hv 80 (by decide)
    simp only [Tl.fill, List.drop_succ_cons, List.drop_zero, wpList]
    simp only [Act.put, List.setIfInBounds_toArray, List.set_cons_succ, List.set_cons_zero, v80]
    have HX4 := hid (hx.2.has rfl HX3.out)
    have HW4 := hid hx.1
    clear hk hC hv hx hX2 HSM HHAS HCL HMUL HX3 v80
    have hmk : ∀ W : World, (Instr.makeSlice 62 (.int .i64 N) (.int .i64 N)).run Tryz.prog W = .ok (.slice (some ⟨W.heap.size, 0, none⟩) n n) (W.alloc (.cells (Array.replicate n (.string ⟨#[]⟩)) 9)) := fun W => by
      rw [HN.out]
      exact makes_strs n (by have := HN12.out; omega) W
    obtain ⟨c0, c1, f0, f1⟩ := two_cells HX4.out
    obtain ⟨gw, hgw⟩ : ∃ gw, gw = w4.heap.size := ⟨_, rfl⟩
    obtain ⟨w5, hw5⟩ : ∃ w5, w5 = w4.alloc (.cells (Array.replicate n (.string ⟨#[]⟩)) 9) := ⟨_, rfl⟩
    have HB5 := hid (boxed w4 (.cells (Array.replicate n (.string ⟨#[]⟩)) 9))
    have HG5 := hid (Has.new w4 w4.heap.size (Array.replicate n (.string ⟨#[]⟩)) 9 rfl)
    rw [← hw5] at HB5 HG5
    rw [← hgw, wasL_zero (shD K N bl)] at HG5
    have HX5 := hid (HX4.out.below HB5.out HX4.out.lt)
    have HQG : Hid (q < gw) := hid (by rw [hgw]; exact HX4.out.lt)
    have HWG : Hid (w.heap.size ≤ gw) := hid (by have := HQG.out; have := HQ0.out; omega)
    have HW5 := hid ((HW4.out.new HB5.out).sub (T' := fun i => i = q ∨ i = gw) fun i hi => by
      rcases hi with hi | hi
      · exact .inl hi
      · exact .inr ⟨by omega, by rw [hi]; exact HG5.out.lt⟩)
    clear HX4 HW4 HB5
    go_wp2_with fail
    rw [← hw5, ← hgw]
    clear hmk hw5 hgw c0 c1 f0 f1
    go_loopg [15, 16] n (fun gk s15 s16 wx => ∃ k : Nat, k + gk = n ∧ s15 = .int .i64 (k : Int) ∧ Hid (WT w wx b V4 (fun i => i = q ∨ i = gw)) ∧ Hid (Has wx q #[.int .i64 K, .int .i64 N] 25) ∧ Hid (Has wx gw (wasL (shD K N bl) n k) 9))
    case atStart => exact ⟨0, by omega, rfl, HW5, HX5, HG5⟩
    case round =>
      clear HW5 HX5 HG5
      obtain ⟨k, hk, rfl, HW, HX, HG⟩ := hrel
      obtain ⟨c0, c1, f0, f1⟩ := two_cells HX.out
      cases gk with
      | succ g1 =>
        have q1 : (k : Int) < N := by have := HN.out; omega
        have hkn : k < n := by omega
        have wk : IntKind.i64.wrap ((k : Int) + 1) = ((k + 1 : Nat) : Int) := wrapN (b := 1) (by have := HN12.out; omega)
        obtain ⟨x, hx⟩ : ∃ x, V4.l[k]? = some x := ⟨_, List.getElem?_eq_getElem (by rw [HI4.out.len]; exact hkn)⟩
        have hob : objsW V4 (k : Int) = [(nmS dg k, shD K N bl k)] := by
          rw [objs_at hx, HI4.out.st k x hx, ← HDG.out]
          rfl
        have HOB := HW.out.objs (fun x hx => by
          have := HI4.out.all (R := fun s => s.seen.length ≤ 1000000) (fun m s _ hs => by rw [hs]; show ([_] : List Ob).length ≤ _; simp) x hx
          exact this) (k : Int)
        rw [hob] at HOB
        unfold ptr at HOB
        clear hx hob
        go_wp2_with fail
        refine HOB.mono ?_
        clear HOB c0 c1 f0 f1
        rintro _ w6 ⟨v6, rfl, r6, hb6⟩
        obtain ⟨g6, e6, rfl, hg6, hc6⟩ := row_objs (w' := w6) r6 (by simp)
        have d1 := (hc6 0 _ rfl).2
        have HW6 := hid (HW.out.below hb6)
        have HX6 := hid (HX.out.below hb6 HX.out.lt)
        have HG6 := hid (HG.out.below hb6 HG.out.lt)
        have k4 : w6.frozen? ⟨gw, k, none⟩ = false := HG6.out.frozen k
        have k3 : w6.cell? ⟨gw, k, none⟩ = some (.string (if k < k then shD K N bl k else ⟨#[]⟩)) := (HG6.out.cell k).trans (wasL_get _ _ _ _ hkn)
        have HO7 := hid (Only.set (p := ⟨gw, k, none⟩) (Only.refl (fun i => i = gw) w6) (.inl rfl) (.string (shD K N bl k)))
        have HW7 := hid (HW6.out.only2 HO7.out (fun i hi => .inr hi) (fun i hi => by rw [hi]; exact HWG.out))
        have HX7 := hid (HO7.out.has HX6.out (fun h => by have := HQG.out; omega))
        have HG7 := hid (HG6.out.set k (.string (shD K N bl k)))
        rw [wasL_set _ _ _ hkn] at HG7
        simp only [Nat.zero_mul, Nat.zero_add] at d1
        clear r6 hb6 hc6 HW6 HX6 HG6 HO7 HW HX HG
        simp only [List.length_singleton]
        go_wp2_with fail
        go_roundg g1
        case measure => omega
        case rel => exact ⟨k + 1, by omega, by first | rfl | simp, HW7, HX7, HG7⟩
      | zero =>
        have q1 : ¬ ((k : Int) < N) := by have := HN.out; omega
        obtain rfl : k = n := by omega
        have HLW := hid (LeftW.of HI4.out HM.out HBL.out HN.out)
        clear HI4
        have HCRA : Hid (∀ (wx : World) (V : Wd), WT w wx b V (fun i => i = q ∨ i = gw) → LeftW K N bl k V → Calls Tryz.prog 26 #[.pointer (some ⟨b, 0, none⟩), .slice ac L2 cc] wx fun e w' => e = .returned (.int .i64 0) ∧ WT w w' b (crashW V sv) (fun i => i = q ∨ i = gw) ∧ Kpt (fun i => i = q ∨ i = gw) wx w') := hid fun wx V hW hLW => hW.crash (by rw [hLW.len]; have := HN12.out; omega) hLW.fit2 (by decide) _ sv HSV.out (by have := HSL.out; have := HL2.out; omega)
        have HMID : Hid (∀ (wx : World), True) := hid fun _ => trivial
        clear HMID
        obtain ⟨P2, hP2⟩ : ∃ P2 : World → Prop, P2 = fun wx => ∃ V, WT w wx b V (fun i => i = q ∨ i = gw) ∧ Has wx q #[.int .i64 K, .int .i64 N] 25 ∧ Has wx gw (wasL (shD K N bl) k k) 9 ∧ LeftW K N bl k V := ⟨_, rfl⟩
        have HPC : Hid (∀ wx, P2 wx → Calls Tryz.prog 26 #[.pointer (some ⟨b, 0, none⟩), .slice ac L2 cc] wx fun e w' => e = .returned (.int .i64 0) ∧ P2 w') := hid fun wx h => by
          rw [hP2] at h ⊢
          obtain ⟨V, h1, h2, h3, h4⟩ := h
          refine (HCRA.out wx V h1 h4).mono ?_
          rintro _ w' ⟨rfl, a1, a2⟩
          exact ⟨rfl, _, a1, a2.has (.inl rfl) h2, a2.has (.inr rfl) h3, h4.crash sv⟩
        have HP0 : Hid (P2 wr) := hid (by rw [hP2]; exact ⟨V4, HW.out, HX.out, HG.out, HLW.out⟩)
        have HP2 := hid hP2
        clear hP2 HCRA HW HX HG HLW
        obtain ⟨wo, hwo⟩ : ∃ wo, wo = wr := ⟨_, rfl⟩
        subst hwo
        have cont : ∀ (w6 : World), P2 w6 → True := fun _ _ => trivial
        clear cont
        cases first with
        | true =>
          go_wp2_with fail
          refine (HPC.out _ HP0.out).mono ?_
          rintro _ w6 ⟨rfl, h6⟩
          have HP6 := hid h6
          clear h6 HP0 c0 c1 f0 f1
          go_wp2_with fail
          go_loopg [17] L1 (fun gk s17 wx => ∃ j : Nat, j + gk = L1 ∧ s17 = .int .i64 (j : Int) ∧ Hid (P2 wx))
          case atStart => exact ⟨0, by omega, rfl, HP6⟩
          case round =>
            clear HP6
            obtain ⟨j, hj, rfl, HP⟩ := hrel
            cases gk with
            | succ g1 =>
              have q2 : (j : Int) < (L1 : Int) := by omega
              have wj : IntKind.i64.wrap ((j : Int) + 1) = ((j + 1 : Nat) : Int) := wrapN (b := 1) (by have := HL60.out; omega)
              have hp := HP.out
              rw [HP2.out] at hp
              obtain ⟨V, h1, h2, h3, h4⟩ := hp
              obtain ⟨x, hx⟩ : ∃ x, fl[j]? = some x := ⟨_, List.getElem?_eq_getElem (by rw [HL1.out]; omega)⟩
              obtain ⟨gl, ol, el, e1, hok, hc⟩ := HFL.out.at h1.base hx
              rw [HL1.out] at e1
              cases e1
              obtain ⟨fk, ft, fn, fa, fc⟩ := x
              have b0 := hc 0 _ rfl
              have b1 := hc 1 _ rfl
              have b2 := hc 2 _ rfl
              have b3 := hc 3 _ rfl
              have b4 := hc 4 _ rfl
              simp only [Nat.add_zero] at b0 b1 b2 b3 b4
              have HOK := hid hok
              have HV := hid (show WT w wr b V (fun i => i = q ∨ i = gw) ∧ Has wr q #[.int .i64 K, .int .i64 N] 25 ∧ Has wr gw (wasL (shD K N bl) k k) 9 ∧ LeftW K N bl k V from ⟨h1, h2, h3, h4⟩)
              clear h1 h2 h3 h4 hx hc hok
              go_wp2_with fail
              refine strike27_any HV.out.1 HL.out (by rw [HV.out.2.2.2.len]; have := HN12.out; have := HN1.out; omega) HV.out.2.2.2.fit fk ft fn fa fc HOK.out _ ?_
              intro w7 V7 hv7 h7 k7
              have HP7 : Hid (P2 w7) := hid (by rw [HP2.out]; exact ⟨V7, h7, k7.has (.inl rfl) HV.out.2.1, k7.has (.inr rfl) HV.out.2.2.1, HV.out.2.2.2.strike HOK.out.2.1 hv7⟩)
              clear hv7 h7 k7 b0 b1 b2 b3 b4 HP HV
              go_wp2_with fail
              go_roundg g1
              case measure => omega
              case rel => exact ⟨j + 1, by omega, by first | rfl | simp, HP7⟩
            | zero =>
              have q2 : ¬ ((j : Int) < (L1 : Int)) := by omega
              obtain ⟨wp, hwp⟩ : ∃ wp, wp = wr := ⟨_, rfl⟩
              subst hwp
              have HP8 := HP
              clear HP
              go_wp2_with fail
              have hp := HP8.out
              rw [HP2.out] at hp
              obtain ⟨V8, h1, h2, h3, h4⟩ := hp
              have HW8 := hid h1
              have HX8 := hid h2
              have HG8 := hid h3
              have HI8 := hid h4
              clear h1 h2 h3 h4 HP8 HPC HP2
              obtain ⟨c0, c1, f0, f1⟩ := two_cells HX8.out
              clear c0 c1 f0 f1
              go_loopg [18, 19, 20] k (fun gk s18 s19 s20 wx => ∃ j : Nat, j + gk = k ∧ s19 = .int .i64 (j : Int) ∧ s18 = .int .i64 (leftN K N bl V8.l j : Int) ∧ Hid (WT w wx b V8 (fun i => i = q ∨ i = gw)) ∧ Hid (Has wx q #[.int .i64 K, .int .i64 N] 25) ∧ Hid (Has wx gw (wasL (shD K N bl) k k) 9))
              case atStart => exact ⟨0, by omega, rfl, rfl, HW8, HX8, HG8⟩
              case round =>
                clear HW8 HX8 HG8
                obtain ⟨j, hj, rfl, rfl, HW, HX, HG⟩ := hrel
                obtain ⟨c0, c1, f0, f1⟩ := two_cells HX.out
                have hle := leftN_le (K := K) (N := N) (bl := bl) V8.l j
                cases gk with
                | zero =>
                  have q3 : ¬ ((j : Int) < N) := by have := HN.out; omega
                  obtain rfl : j = k := by omega
                  go_wp2_with fail
                  refine read_any HW.out HL.out K N dg (Nat.le_trans HI8.out.calls (by decide)) (by rw [HI8.out.left]; decide) _ ?_
                  intro w9 o z V9 hr h9 k9
                  rw [← HDG.out] at hr
                  have hres := left_read HI8.out.lit HM.out (by rw [HI8.out.len]; exact HN.out) HBL.out HB1.out HI8.out.st hr
                  rw [HB2.out, HI8.out.len] at hres
                  have HX9 := hid (k9.has (.inl rfl) HX.out)
                  have HE := hid h9.base
                  clear hr h9 k9 c0 c1 f0 f1
                  obtain ⟨c0, c1, f0, f1⟩ := two_cells HX9.out
                  rcases hres with ⟨t1, rfl, rfl⟩ | ⟨t1, rfl⟩
                  · go_wp2_with fail
                    go_ret
                    exact ⟨rfl, HE.out⟩
                  · have t2 : ¬ (K ≤ (leftN K N bl V8.l j : Int)) := by omega
                    clear t1
                    go_wp2_with fail
                    go_ret
                    exact ⟨rfl, HE.out⟩
                | succ g1 =>
                  have q3 : (j : Int) < N := by have := HN.out; omega
                  have hjk : j < k := by omega
                  have wj : IntKind.i64.wrap ((j : Int) + 1) = ((j + 1 : Nat) : Int) := wrapN (b := 1) (by have := HN12.out; omega)
                  obtain ⟨x, hx⟩ : ∃ x, V8.l[j]? = some x := ⟨_, List.getElem?_eq_getElem (by rw [HI8.out.len]; exact hjk)⟩
                  have HOB := HW.out.objs (fun x hx => Nat.le_trans (HI8.out.fit x hx).seen (by decide)) (j : Int)
                  rw [objs_at hx] at HOB
                  have hup := up_at hx
                  have hsx := leftN_succ (K := K) (N := N) (bl := bl) hx
                  unfold isLeft at hsx
                  obtain ⟨sn, hsn⟩ : ∃ sn, sn = x.st.seen := ⟨_, rfl⟩
                  obtain ⟨dn, hdn⟩ : ∃ dn, dn = x.st.down := ⟨_, rfl⟩
                  rw [← hsn] at HOB hsx
                  rw [← hdn] at hup hsx
                  unfold ptr at HOB
                  clear hx hsn hdn
                  obtain ⟨wq, hwq⟩ : ∃ wq, wq = wr := ⟨_, rfl⟩
                  subst hwq
                  go_wp2_with fail
                  refine HOB.mono ?_
                  clear HOB c0 c1 f0 f1
                  rintro _ w8 ⟨v8, rfl, r8, hb8⟩
                  have HW9 := hid (HW.out.below hb8)
                  have HX9 := hid (HX.out.below hb8 HX.out.lt)
                  have HG9 := hid (HG.out.below hb8 HG.out.lt)
                  have HR8 := hid r8
                  have HUP : Hid (∀ W, BelW w8 W → Calls Tryz.prog 28 #[.pointer (some ⟨b, 0, none⟩), .int .i64 (j : Int)] W fun e w' => e = .returned (.bool (!dn)) ∧ w' = W) := hid fun W hW => by
                    have := (HW9.out.below hW).up (j : Int)
                    rw [hup] at this
                    exact this
                  obtain ⟨A8, e8, rfl⟩ := row_slice r8
                  clear r8 hb8 hup HW HX HG
                  cases dn with
                  | true =>
                    rw [show (!true && (decide (sn.length = 1) && decide ((sn.getD 0 (⟨#[]⟩, ⟨#[]⟩)).2 = shD K N bl j))) = false from rfl] at hsx
                    have HSX := hid hsx
                    clear hsx
                    go_wp2_with fail
                    refine Tl.wp_mix_lit (by kernel_rfl) 19 [139, 140, 141, 142, 143, 144, 145, 146, 147, 148, 149, 150, 151, 152, 153, 154, 155, 156, 157] 180 rfl (by kernel_rfl) (BelW w8) (upF b j false) ((Below.refl _ _).drew)
                      ⟨fun a' W' hC hF => ?_, fun a' W' hC hF => ?_, fun a' W' hC hF => ?_, fun a' W' hC hF => ?_, fun a' W' hC hF => ?_, fun a' W' hC hF => ?_, fun a' W' hC hF => ?_, fun a' W' hC hF => ?_, fun a' W' hC hF => ?_, fun a' W' hC hF => ?_, fun a' W' hC hF => ?_, fun a' W' hC hF => ?_, fun a' W' hC hF => ?_, fun a' W' hC hF => ?_, fun a' W' hC hF => ?_, fun a' W' hC hF => ?_, fun a' W' hC hF => ?_, fun a' W' hC hF => ?_, fun a' W' hC hF => ?_, trivial⟩ ?_
                    · exact Tl.sm_v 139 _ rfl (Tl.wanted_none rfl) hC rfl (rn_move rfl ((hF 11 (by decide +kernel)).2 (by decide)))
                    · exact Tl.sm_v 140 _ rfl (Tl.wanted_none rfl) hC rfl (rn_move rfl ((hF 19 (by decide +kernel)).2 (by decide)))
                    · refine Tl.sm_call 28 #[_, _] (Tl.wanted_none rfl) (rn_call2 rfl rfl ((hF 139 (by decide +kernel)).1 (by decide)) ((hF 140 (by decide +kernel)).1 (by decide)) (ens28 _)) ((HUP.out W' hC).mono ?_)
                      rintro e w'' ⟨rfl, rfl⟩
                      exact ⟨_, rfl, hC, fun d v _ h => h, fun d hd => by cases hd; rfl⟩
                    · exact Tl.sm_v 142 _ rfl (Tl.wanted_none rfl) hC rfl (rn_move rfl ((hF 141 (by decide +kernel)).1 (by decide)))
                    · exact Tl.sm_skip (Tl.wanted_not rfl rfl ((hF 142 (by decide +kernel)).1 (by decide))) (fun d hd => by cases hd; trivial)
                    · exact Tl.sm_skip (Tl.wanted_not rfl rfl ((hF 142 (by decide +kernel)).1 (by decide))) (fun d hd => by cases hd; trivial)
                    · exact Tl.sm_skip (Tl.wanted_not rfl rfl ((hF 142 (by decide +kernel)).1 (by decide))) (fun d hd => by cases hd; trivial)
                    · exact Tl.sm_v 146 _ rfl (Tl.wanted_none rfl) hC rfl (rn_pickF rfl ((hF 142 (by decide +kernel)).1 (by decide)) rfl)
                    · exact Tl.sm_v 147 _ rfl (Tl.wanted_none rfl) hC rfl (rn_move rfl ((hF 146 (by decide +kernel)).1 (by decide)))
                    · exact Tl.sm_skip (Tl.wanted_not rfl rfl ((hF 147 (by decide +kernel)).1 (by decide))) (fun d hd => by cases hd; trivial)
                    · exact Tl.sm_skip (Tl.wanted_not rfl rfl ((hF 147 (by decide +kernel)).1 (by decide))) (fun d hd => by cases hd; trivial)
                    · exact Tl.sm_skip (Tl.wanted_not rfl rfl ((hF 147 (by decide +kernel)).1 (by decide))) (fun d hd => by cases hd; trivial)
                    · exact Tl.sm_skip (Tl.wanted_not rfl rfl ((hF 147 (by decide +kernel)).1 (by decide))) (fun d hd => by cases hd; trivial)
                    · exact Tl.sm_skip (Tl.wanted_not rfl rfl ((hF 147 (by decide +kernel)).1 (by decide))) (fun d hd => by cases hd; trivial)
                    · exact Tl.sm_skip (Tl.wanted_not rfl rfl ((hF 147 (by decide +kernel)).1 (by decide))) (fun d hd => by cases hd; trivial)
                    · exact Tl.sm_skip (Tl.wanted_not rfl rfl ((hF 147 (by decide +kernel)).1 (by decide))) (fun d hd => by cases hd; trivial)
                    · exact Tl.sm_skip (Tl.wanted_not rfl rfl ((hF 147 (by decide +kernel)).1 (by decide))) (fun d hd => by cases hd; trivial)
                    · exact Tl.sm_skip (Tl.wanted_not rfl rfl ((hF 147 (by decide +kernel)).1 (by decide))) (fun d hd => by cases hd; trivial)
                    · exact Tl.sm_v 157 _ rfl (Tl.wanted_none rfl) hC rfl (rn_pickF rfl ((hF 147 (by decide +kernel)).1 (by decide)) rfl)
                    intro v w9 hw hv
                    have v157 : v 157 = .bool false := hv 157 (by decide)
                    have HB9 := hid (show Below w8.heap.size w8 w9 from hw)
                    clear hv hw
                    simp only [Tl.fill, List.drop_succ_cons, List.drop_zero, wpList]
                    simp only [Act.put, List.setIfInBounds_toArray, List.set_cons_succ, List.set_cons_zero, v157]
                    clear v157
                    go_wp2_with fail
                    go_roundg g1
                    case measure => omega
                    case rel => exact ⟨j + 1, by omega, by first | rfl | simp, by rw [HSX.out]; rfl, hid (HW9.out.below HB9.out), hid (HX9.out.below HB9.out HX9.out.lt), hid (HG9.out.below HB9.out HG9.out.lt)⟩
                  | false =>
                    by_cases h1 : sn.length = 1
                    · obtain ⟨p, rfl⟩ : ∃ p, sn = [p] := List.length_eq_one_iff.1 h1
                      obtain ⟨g8, e8', e8e, hg8, hc8⟩ := row_objs (w' := w8) HR8.out (by simp)
                      cases e8e
                      have d1 := (hc8 0 _ rfl).2
                      simp only [Nat.zero_mul, Nat.zero_add] at d1
                      obtain ⟨d8, hd8⟩ : ∃ d8, d8 = p.2 := ⟨_, rfl⟩
                      rw [← hd8] at d1
                      have hcw : w8.cell? ⟨gw, j, none⟩ = some (.string (shD K N bl j)) := by
                        have := (HG9.out.cell j).trans (wasL_get _ _ _ _ hjk)
                        rw [if_pos hjk] at this
                        exact this
                      have HLG : Hid (g8 < w8.heap.size ∧ w8.cell? ⟨g8, 1, none⟩ = some (.string d8) ∧ gw < w8.heap.size ∧ w8.cell? ⟨gw, j, none⟩ = some (.string (shD K N bl j))) := hid ⟨hg8, d1, HG9.out.lt, hcw⟩
                      have HKN : Hid (j < k) := hid hjk
                      rw [show ((!false && (decide ([p].length = 1) && decide (([p].getD 0 (⟨#[]⟩, ⟨#[]⟩)).2 = shD K N bl j)))) = decide (d8 = shD K N bl j) from by rw [hd8]; rfl] at hsx
                      obtain ⟨f8, hf8⟩ : ∃ f8, f8 = shD K N bl j := ⟨_, rfl⟩
                      rw [← hf8] at hsx HLG
                      have HSX := hid hsx
                      clear hsx d1 hcw hc8 hg8 hd8 hf8 h1
                      simp only [List.length_singleton]
                      go_wp2_with fail
                      refine Tl.wp_mix_lit (by kernel_rfl) 19 [139, 140, 141, 142, 143, 144, 145, 146, 147, 148, 149, 150, 151, 152, 153, 154, 155, 156, 157] 180 rfl (by kernel_rfl) (BelW w8) (upF3 b j (.slice (some ⟨g8, 0, none⟩) 1 e8) (.slice (some ⟨gw, 0, none⟩) k k) g8 gw d8 f8) ((Below.refl _ _).drew)
                        ⟨fun a' W' hC hF => ?_, fun a' W' hC hF => ?_, fun a' W' hC hF => ?_, fun a' W' hC hF => ?_, fun a' W' hC hF => ?_, fun a' W' hC hF => ?_, fun a' W' hC hF => ?_, fun a' W' hC hF => ?_, fun a' W' hC hF => ?_, fun a' W' hC hF => ?_, fun a' W' hC hF => ?_, fun a' W' hC hF => ?_, fun a' W' hC hF => ?_, fun a' W' hC hF => ?_, fun a' W' hC hF => ?_, fun a' W' hC hF => ?_, fun a' W' hC hF => ?_, fun a' W' hC hF => ?_, fun a' W' hC hF => ?_, trivial⟩ ?_
                      · exact Tl.sm_v 139 _ rfl (Tl.wanted_none rfl) hC rfl (rn_move rfl ((hF 11 (by decide +kernel)).2 (by decide)))
                      · exact Tl.sm_v 140 _ rfl (Tl.wanted_none rfl) hC rfl (rn_move rfl ((hF 19 (by decide +kernel)).2 (by decide)))
                      · refine Tl.sm_call 28 #[_, _] (Tl.wanted_none rfl) (rn_call2 rfl rfl ((hF 139 (by decide +kernel)).1 (by decide)) ((hF 140 (by decide +kernel)).1 (by decide)) (ens28 _)) ((HUP.out W' hC).mono ?_)
                        rintro e w'' ⟨rfl, rfl⟩
                        exact ⟨_, rfl, hC, fun d v _ h => h, fun d hd => by cases hd; rfl⟩
                      · exact Tl.sm_v 142 _ rfl (Tl.wanted_none rfl) hC rfl (rn_move rfl ((hF 141 (by decide +kernel)).1 (by decide)))
                      · exact Tl.sm_v 143 _ rfl (Tl.wanted_is rfl rfl ((hF 142 (by decide +kernel)).1 (by decide))) hC rfl (rn_move rfl ((hF 20 (by decide +kernel)).2 (by decide)))
                      · exact Tl.sm_v 144 _ rfl (Tl.wanted_is rfl rfl ((hF 142 (by decide +kernel)).1 (by decide))) hC rfl (rn_len55 rfl ((hF 143 (by decide +kernel)).1 (by decide)))
                      · exact Tl.sm_v 145 _ rfl (Tl.wanted_is rfl rfl ((hF 142 (by decide +kernel)).1 (by decide))) hC rfl (rn_eql3 rfl ((hF 144 (by decide +kernel)).1 (by decide)) rfl rfl)
                      · exact Tl.sm_v 146 _ rfl (Tl.wanted_none rfl) hC rfl (rn_pickT rfl ((hF 142 (by decide +kernel)).1 (by decide)) ((hF 145 (by decide +kernel)).1 (by decide)))
                      · exact Tl.sm_v 147 _ rfl (Tl.wanted_none rfl) hC rfl (rn_move rfl ((hF 146 (by decide +kernel)).1 (by decide)))
                      · exact Tl.sm_v 148 _ rfl (Tl.wanted_is rfl rfl ((hF 147 (by decide +kernel)).1 (by decide))) hC rfl (rn_move rfl ((hF 20 (by decide +kernel)).2 (by decide)))
                      · exact Tl.sm_v 149 _ rfl (Tl.wanted_is rfl rfl ((hF 147 (by decide +kernel)).1 (by decide))) hC rfl (rn_ix55 (i := 0) rfl ((hF 148 (by decide +kernel)).1 (by decide)) rfl (by decide))
                      · exact Tl.sm_v 150 _ rfl (Tl.wanted_is rfl rfl ((hF 147 (by decide +kernel)).1 (by decide))) hC rfl (rn_f28_1 rfl ((hF 149 (by decide +kernel)).1 (by decide)))
                      · exact Tl.sm_v 151 _ rfl (Tl.wanted_is rfl rfl ((hF 147 (by decide +kernel)).1 (by decide))) hC rfl (rn_load9 rfl ((hF 150 (by decide +kernel)).1 (by decide)) (BelW.cell hC (p := ⟨g8, 1, none⟩) HLG.out.1 HLG.out.2.1))
                      · exact Tl.sm_v 152 _ rfl (Tl.wanted_is rfl rfl ((hF 147 (by decide +kernel)).1 (by decide))) hC rfl (rn_move rfl ((hF 14 (by decide +kernel)).2 (by decide)))
                      · exact Tl.sm_v 153 _ rfl (Tl.wanted_is rfl rfl ((hF 147 (by decide +kernel)).1 (by decide))) hC rfl (rn_move rfl ((hF 19 (by decide +kernel)).2 (by decide)))
                      · exact Tl.sm_v 154 _ rfl (Tl.wanted_is rfl rfl ((hF 147 (by decide +kernel)).1 (by decide))) hC rfl (rn_ix62 rfl ((hF 152 (by decide +kernel)).1 (by decide)) ((hF 153 (by decide +kernel)).1 (by decide)) HKN.out)
                      · exact Tl.sm_v 155 _ rfl (Tl.wanted_is rfl rfl ((hF 147 (by decide +kernel)).1 (by decide))) hC rfl (rn_load9 rfl ((hF 154 (by decide +kernel)).1 (by decide)) (BelW.cell hC (p := ⟨gw, j, none⟩) HLG.out.2.2.1 HLG.out.2.2.2))
                      · exact Tl.sm_v 156 _ rfl (Tl.wanted_is rfl rfl ((hF 147 (by decide +kernel)).1 (by decide))) hC rfl (rn_eql9 rfl ((hF 151 (by decide +kernel)).1 (by decide)) ((hF 155 (by decide +kernel)).1 (by decide)) rfl)
                      · exact Tl.sm_v 157 _ rfl (Tl.wanted_none rfl) hC rfl (rn_pickT rfl ((hF 147 (by decide +kernel)).1 (by decide)) ((hF 156 (by decide +kernel)).1 (by decide)))
                      intro v w9 hw hv
                      have v157 : v 157 = .bool (decide (d8 = f8)) := hv 157 (by decide)
                      have HB9 := hid (show Below w8.heap.size w8 w9 from hw)
                      clear hv hw
                      simp only [Tl.fill, List.drop_succ_cons, List.drop_zero, wpList]
                      simp only [Act.put, List.setIfInBounds_toArray, List.set_cons_succ, List.set_cons_zero, v157]
                      clear v157
                      by_cases hdf : d8 = f8
                      · rw [decide_eq_true hdf] at HSX ⊢
                        have wG : IntKind.i64.wrap ((leftN K N bl V8.l j : Int) + 1) = ((leftN K N bl V8.l j + 1 : Nat) : Int) := wrapN (b := 1) (by have := HN12.out; omega)
                        clear hdf
                        go_wp2_with fail
                        go_roundg g1
                        case measure => omega
                        case rel => exact ⟨j + 1, by omega, by first | rfl | simp, by rw [HSX.out]; first | rfl | simp, hid (HW9.out.below HB9.out), hid (HX9.out.below HB9.out HX9.out.lt), hid (HG9.out.below HB9.out HG9.out.lt)⟩
                      · rw [decide_eq_false hdf] at HSX ⊢
                        clear hdf
                        go_wp2_with fail
                        go_roundg g1
                        case measure => omega
                        case rel => exact ⟨j + 1, by omega, by first | rfl | simp, by rw [HSX.out]; rfl, hid (HW9.out.below HB9.out), hid (HX9.out.below HB9.out HX9.out.lt), hid (HG9.out.below HB9.out HG9.out.lt)⟩
                    · rw [show (!false && (decide (sn.length = 1) && decide ((sn.getD 0 (⟨#[]⟩, ⟨#[]⟩)).2 = shD K N bl j))) = false from by rw [decide_eq_false h1]; rfl] at hsx
                      have HSX := hid hsx
                      obtain ⟨m8, hm8⟩ : ∃ m8, m8 = sn.length := ⟨_, rfl⟩
                      rw [← hm8] at h1 ⊢
                      have HM8 : Hid (decide ((m8 : Int) = 1) = false) := hid (decide_eq_false (by omega))
                      clear hsx hm8 h1
                      go_wp2_with fail
                      refine Tl.wp_mix_lit (by kernel_rfl) 19 [139, 140, 141, 142, 143, 144, 145, 146, 147, 148, 149, 150, 151, 152, 153, 154, 155, 156, 157] 180 rfl (by kernel_rfl) (BelW w8) (upF2 b j (.slice A8 m8 e8) m8) ((Below.refl _ _).drew)
                        ⟨fun a' W' hC hF => ?_, fun a' W' hC hF => ?_, fun a' W' hC hF => ?_, fun a' W' hC hF => ?_, fun a' W' hC hF => ?_, fun a' W' hC hF => ?_, fun a' W' hC hF => ?_, fun a' W' hC hF => ?_, fun a' W' hC hF => ?_, fun a' W' hC hF => ?_, fun a' W' hC hF => ?_, fun a' W' hC hF => ?_, fun a' W' hC hF => ?_, fun a' W' hC hF => ?_, fun a' W' hC hF => ?_, fun a' W' hC hF => ?_, fun a' W' hC hF => ?_, fun a' W' hC hF => ?_, fun a' W' hC hF => ?_, trivial⟩ ?_
                      · exact Tl.sm_v 139 _ rfl (Tl.wanted_none rfl) hC rfl (rn_move rfl ((hF 11 (by decide +kernel)).2 (by decide)))
                      · exact Tl.sm_v 140 _ rfl (Tl.wanted_none rfl) hC rfl (rn_move rfl ((hF 19 (by decide +kernel)).2 (by decide)))
                      · refine Tl.sm_call 28 #[_, _] (Tl.wanted_none rfl) (rn_call2 rfl rfl ((hF 139 (by decide +kernel)).1 (by decide)) ((hF 140 (by decide +kernel)).1 (by decide)) (ens28 _)) ((HUP.out W' hC).mono ?_)
                        rintro e w'' ⟨rfl, rfl⟩
                        exact ⟨_, rfl, hC, fun d v _ h => h, fun d hd => by cases hd; rfl⟩
                      · exact Tl.sm_v 142 _ rfl (Tl.wanted_none rfl) hC rfl (rn_move rfl ((hF 141 (by decide +kernel)).1 (by decide)))
                      · exact Tl.sm_v 143 _ rfl (Tl.wanted_is rfl rfl ((hF 142 (by decide +kernel)).1 (by decide))) hC rfl (rn_move rfl ((hF 20 (by decide +kernel)).2 (by decide)))
                      · exact Tl.sm_v 144 _ rfl (Tl.wanted_is rfl rfl ((hF 142 (by decide +kernel)).1 (by decide))) hC rfl (rn_len55 rfl ((hF 143 (by decide +kernel)).1 (by decide)))
                      · exact Tl.sm_v 145 _ rfl (Tl.wanted_is rfl rfl ((hF 142 (by decide +kernel)).1 (by decide))) hC rfl (rn_eql3 rfl ((hF 144 (by decide +kernel)).1 (by decide)) rfl HM8.out)
                      · exact Tl.sm_v 146 _ rfl (Tl.wanted_none rfl) hC rfl (rn_pickT rfl ((hF 142 (by decide +kernel)).1 (by decide)) ((hF 145 (by decide +kernel)).1 (by decide)))
                      · exact Tl.sm_v 147 _ rfl (Tl.wanted_none rfl) hC rfl (rn_move rfl ((hF 146 (by decide +kernel)).1 (by decide)))
                      · exact Tl.sm_skip (Tl.wanted_not rfl rfl ((hF 147 (by decide +kernel)).1 (by decide))) (fun d hd => by cases hd; trivial)
                      · exact Tl.sm_skip (Tl.wanted_not rfl rfl ((hF 147 (by decide +kernel)).1 (by decide))) (fun d hd => by cases hd; trivial)
                      · exact Tl.sm_skip (Tl.wanted_not rfl rfl ((hF 147 (by decide +kernel)).1 (by decide))) (fun d hd => by cases hd; trivial)
                      · exact Tl.sm_skip (Tl.wanted_not rfl rfl ((hF 147 (by decide +kernel)).1 (by decide))) (fun d hd => by cases hd; trivial)
                      · exact Tl.sm_skip (Tl.wanted_not rfl rfl ((hF 147 (by decide +kernel)).1 (by decide))) (fun d hd => by cases hd; trivial)
                      · exact Tl.sm_skip (Tl.wanted_not rfl rfl ((hF 147 (by decide +kernel)).1 (by decide))) (fun d hd => by cases hd; trivial)
                      · exact Tl.sm_skip (Tl.wanted_not rfl rfl ((hF 147 (by decide +kernel)).1 (by decide))) (fun d hd => by cases hd; trivial)
                      · exact Tl.sm_skip (Tl.wanted_not rfl rfl ((hF 147 (by decide +kernel)).1 (by decide))) (fun d hd => by cases hd; trivial)
                      · exact Tl.sm_skip (Tl.wanted_not rfl rfl ((hF 147 (by decide +kernel)).1 (by decide))) (fun d hd => by cases hd; trivial)
                      · exact Tl.sm_v 157 _ rfl (Tl.wanted_none rfl) hC rfl (rn_pickF rfl ((hF 147 (by decide +kernel)).1 (by decide)) rfl)
                      intro v w9 hw hv
                      have v157 : v 157 = .bool false := hv 157 (by decide)
                      have HB9 := hid (show Below w8.heap.size w8 w9 from hw)
                      clear hv hw
                      simp only [Tl.fill, List.drop_succ_cons, List.drop_zero, wpList]
                      simp only [Act.put, List.setIfInBounds_toArray, List.set_cons_succ, List.set_cons_zero, v157]
                      clear v157
                      go_wp2_with fail
                      go_roundg g1
                      case measure => omega
                      case rel => exact ⟨j + 1, by omega, by first | rfl | simp, by rw [HSX.out]; rfl, hid (HW9.out.below HB9.out), hid (HX9.out.below HB9.out HX9.out.lt), hid (HG9.out.below HB9.out HG9.out.lt)⟩
        | false =>
          have HP6 := HP0
          go_wp2_with fail
          clear HP0 c0 c1 f0 f1
          go_loopg [17] L1 (fun gk s17 wx => ∃ j : Nat, j + gk = L1 ∧ s17 = .int .i64 (j : Int) ∧ Hid (P2 wx))
          case atStart => exact ⟨0, by omega, rfl, HP6⟩
          case round =>
            clear HP6
            obtain ⟨j, hj, rfl, HP⟩ := hrel
            cases gk with
            | succ g1 =>
              have q2 : (j : Int) < (L1 : Int) := by omega
              have wj : IntKind.i64.wrap ((j : Int) + 1) = ((j + 1 : Nat) : Int) := wrapN (b := 1) (by have := HL60.out; omega)
              have hp := HP.out
              rw [HP2.out] at hp
              obtain ⟨V, h1, h2, h3, h4⟩ := hp
              obtain ⟨x, hx⟩ : ∃ x, fl[j]? = some x := ⟨_, List.getElem?_eq_getElem (by rw [HL1.out]; omega)⟩
              obtain ⟨gl, ol, el, e1, hok, hc⟩ := HFL.out.at h1.base hx
              rw [HL1.out] at e1
              cases e1
              obtain ⟨fk, ft, fn, fa, fc⟩ := x
              have b0 := hc 0 _ rfl
              have b1 := hc 1 _ rfl
              have b2 := hc 2 _ rfl
              have b3 := hc 3 _ rfl
              have b4 := hc 4 _ rfl
              simp only [Nat.add_zero] at b0 b1 b2 b3 b4
              have HOK := hid hok
              have HV := hid (show WT w wr b V (fun i => i = q ∨ i = gw) ∧ Has wr q #[.int .i64 K, .int .i64 N] 25 ∧ Has wr gw (wasL (shD K N bl) k k) 9 ∧ LeftW K N bl k V from ⟨h1, h2, h3, h4⟩)
              clear h1 h2 h3 h4 hx hc hok
              go_wp2_with fail
              refine strike27_any HV.out.1 HL.out (by rw [HV.out.2.2.2.len]; have := HN12.out; have := HN1.out; omega) HV.out.2.2.2.fit fk ft fn fa fc HOK.out _ ?_
              intro w7 V7 hv7 h7 k7
              have HP7 : Hid (P2 w7) := hid (by rw [HP2.out]; exact ⟨V7, h7, k7.has (.inl rfl) HV.out.2.1, k7.has (.inr rfl) HV.out.2.2.1, HV.out.2.2.2.strike HOK.out.2.1 hv7⟩)
              clear hv7 h7 k7 b0 b1 b2 b3 b4 HP HV
              go_wp2_with fail
              go_roundg g1
              case measure => omega
              case rel => exact ⟨j + 1, by omega, by first | rfl | simp, HP7⟩
            | zero =>
              have q2 : ¬ ((j : Int) < (L1 : Int)) := by omega
              obtain ⟨wp, hwp⟩ : ∃ wp, wp = wr := ⟨_, rfl⟩
              subst hwp
              go_wp2_with fail
              refine (HPC.out _ HP.out).mono ?_
              rintro _ w10 ⟨rfl, h10⟩
              have HP8 := hid h10
              clear h10 HP
              go_wp2_with fail
              have hp := HP8.out
              rw [HP2.out] at hp
              obtain ⟨V8, h1, h2, h3, h4⟩ := hp
              have HW8 := hid h1
              have HX8 := hid h2
              have HG8 := hid h3
              have HI8 := hid h4
              clear h1 h2 h3 h4 HP8 HPC HP2
              obtain ⟨c0, c1, f0, f1⟩ := two_cells HX8.out
              clear c0 c1 f0 f1
              go_loopg [18, 19, 20] k (fun gk s18 s19 s20 wx => ∃ j : Nat, j + gk = k ∧ s19 = .int .i64 (j : Int) ∧ s18 = .int .i64 (leftN K N bl V8.l j : Int) ∧ Hid (WT w wx b V8 (fun i => i = q ∨ i = gw)) ∧ Hid (Has wx q #[.int .i64 K, .int .i64 N] 25) ∧ Hid (Has wx gw (wasL (shD K N bl) k k) 9))
              case atStart => exact ⟨0, by omega, rfl, rfl, HW8, HX8, HG8⟩
              case round =>
                clear HW8 HX8 HG8
                obtain ⟨j, hj, rfl, rfl, HW, HX, HG⟩ := hrel
                obtain ⟨c0, c1, f0, f1⟩ := two_cells HX.out
                have hle := leftN_le (K := K) (N := N) (bl := bl) V8.l j
                cases gk with
                | zero =>
                  have q3 : ¬ ((j : Int) < N) := by have := HN.out; omega
                  obtain rfl : j = k := by omega
                  go_wp2_with fail
                  refine read_any HW.out HL.out K N dg (Nat.le_trans HI8.out.calls (by decide)) (by rw [HI8.out.left]; decide) _ ?_
                  intro w9 o z V9 hr h9 k9
                  rw [← HDG.out] at hr
                  have hres := left_read HI8.out.lit HM.out (by rw [HI8.out.len]; exact HN.out) HBL.out HB1.out HI8.out.st hr
                  rw [HB2.out, HI8.out.len] at hres
                  have HX9 := hid (k9.has (.inl rfl) HX.out)
                  have HE := hid h9.base
                  clear hr h9 k9 c0 c1 f0 f1
                  obtain ⟨c0, c1, f0, f1⟩ := two_cells HX9.out
                  rcases hres with ⟨t1, rfl, rfl⟩ | ⟨t1, rfl⟩
                  · go_wp2_with fail
                    go_ret
                    exact ⟨rfl, HE.out⟩
                  · have t2 : ¬ (K ≤ (leftN K N bl V8.l j : Int)) := by omega
                    clear t1
                    go_wp2_with fail
                    go_ret
                    exact ⟨rfl, HE.out⟩
                | succ g1 =>
                  have q3 : (j : Int) < N := by have := HN.out; omega
                  have hjk : j < k := by omega
                  have wj : IntKind.i64.wrap ((j : Int) + 1) = ((j + 1 : Nat) : Int) := wrapN (b := 1) (by have := HN12.out; omega)
                  obtain ⟨x, hx⟩ : ∃ x, V8.l[j]? = some x := ⟨_, List.getElem?_eq_getElem (by rw [HI8.out.len]; exact hjk)⟩
                  have HOB := HW.out.objs (fun x hx => Nat.le_trans (HI8.out.fit x hx).seen (by decide)) (j : Int)
                  rw [objs_at hx] at HOB
                  have hup := up_at hx
                  have hsx := leftN_succ (K := K) (N := N) (bl := bl) hx
                  unfold isLeft at hsx
                  obtain ⟨sn, hsn⟩ : ∃ sn, sn = x.st.seen := ⟨_, rfl⟩
                  obtain ⟨dn, hdn⟩ : ∃ dn, dn = x.st.down := ⟨_, rfl⟩
                  rw [← hsn] at HOB hsx
                  rw [← hdn] at hup hsx
                  unfold ptr at HOB
                  clear hx hsn hdn
                  obtain ⟨wq, hwq⟩ : ∃ wq, wq = wr := ⟨_, rfl⟩
                  subst hwq
                  go_wp2_with fail
                  refine HOB.mono ?_
                  clear HOB c0 c1 f0 f1
                  rintro _ w8 ⟨v8, rfl, r8, hb8⟩
                  have HW9 := hid (HW.out.below hb8)
                  have HX9 := hid (HX.out.below hb8 HX.out.lt)
                  have HG9 := hid (HG.out.below hb8 HG.out.lt)
                  have HR8 := hid r8
                  have HUP : Hid (∀ W, BelW w8 W → Calls Tryz.prog 28 #[.pointer (some ⟨b, 0, none⟩), .int .i64 (j : Int)] W fun e w' => e = .returned (.bool (!dn)) ∧ w' = W) := hid fun W hW => by
                    have := (HW9.out.below hW).up (j : Int)
                    rw [hup] at this
                    exact this
                  obtain ⟨A8, e8, rfl⟩ := row_slice r8
                  clear r8 hb8 hup HW HX HG
                  cases dn with
                  | true =>
                    rw [show (!true && (decide (sn.length = 1) && decide ((sn.getD 0 (⟨#[]⟩, ⟨#[]⟩)).2 = shD K N bl j))) = false from rfl] at hsx
                    have HSX := hid hsx
                    clear hsx
                    go_wp2_with fail
                    refine Tl.wp_mix_lit (by kernel_rfl) 19 [139, 140, 141, 142, 143, 144, 145, 146, 147, 148, 149, 150, 151, 152, 153, 154, 155, 156, 157] 180 rfl (by kernel_rfl) (BelW w8) (upF b j false) ((Below.refl _ _).drew)
                      ⟨fun a' W' hC hF => ?_, fun a' W' hC hF => ?_, fun a' W' hC hF => ?_, fun a' W' hC hF => ?_, fun a' W' hC hF => ?_, fun a' W' hC hF => ?_, fun a' W' hC hF => ?_, fun a' W' hC hF => ?_, fun a' W' hC hF => ?_, fun a' W' hC hF => ?_, fun a' W' hC hF => ?_, fun a' W' hC hF => ?_, fun a' W' hC hF => ?_, fun a' W' hC hF => ?_, fun a' W' hC hF => ?_, fun a' W' hC hF => ?_, fun a' W' hC hF => ?_, fun a' W' hC hF => ?_, fun a' W' hC hF => ?_, trivial⟩ ?_
                    · exact Tl.sm_v 139 _ rfl (Tl.wanted_none rfl) hC rfl (rn_move rfl ((hF 11 (by decide +kernel)).2 (by decide)))
                    · exact Tl.sm_v 140 _ rfl (Tl.wanted_none rfl) hC rfl (rn_move rfl ((hF 19 (by decide +kernel)).2 (by decide)))
                    · refine Tl.sm_call 28 #[_, _] (Tl.wanted_none rfl) (rn_call2 rfl rfl ((hF 139 (by decide +kernel)).1 (by decide)) ((hF 140 (by decide +kernel)).1 (by decide)) (ens28 _)) ((HUP.out W' hC).mono ?_)
                      rintro e w'' ⟨rfl, rfl⟩
                      exact ⟨_, rfl, hC, fun d v _ h => h, fun d hd => by cases hd; rfl⟩
                    · exact Tl.sm_v 142 _ rfl (Tl.wanted_none rfl) hC rfl (rn_move rfl ((hF 141 (by decide +kernel)).1 (by decide)))
                    · exact Tl.sm_skip (Tl.wanted_not rfl rfl ((hF 142 (by decide +kernel)).1 (by decide))) (fun d hd => by cases hd; trivial)
                    · exact Tl.sm_skip (Tl.wanted_not rfl rfl ((hF 142 (by decide +kernel)).1 (by decide))) (fun d hd => by cases hd; trivial)
                    · exact Tl.sm_skip (Tl.wanted_not rfl rfl ((hF 142 (by decide +kernel)).1 (by decide))) (fun d hd => by cases hd; trivial)
                    · exact Tl.sm_v 146 _ rfl (Tl.wanted_none rfl) hC rfl (rn_pickF rfl ((hF 142 (by decide +kernel)).1 (by decide)) rfl)
                    · exact Tl.sm_v 147 _ rfl (Tl.wanted_none rfl) hC rfl (rn_move rfl ((hF 146 (by decide +kernel)).1 (by decide)))
                    · exact Tl.sm_skip (Tl.wanted_not rfl rfl ((hF 147 (by decide +kernel)).1 (by decide))) (fun d hd => by cases hd; trivial)
                    · exact Tl.sm_skip (Tl.wanted_not rfl rfl ((hF 147 (by decide +kernel)).1 (by decide))) (fun d hd => by cases hd; trivial)
                    · exact Tl.sm_skip (Tl.wanted_not rfl rfl ((hF 147 (by decide +kernel)).1 (by decide))) (fun d hd => by cases hd; trivial)
                    · exact Tl.sm_skip (Tl.wanted_not rfl rfl ((hF 147 (by decide +kernel)).1 (by decide))) (fun d hd => by cases hd; trivial)
                    · exact Tl.sm_skip (Tl.wanted_not rfl rfl ((hF 147 (by decide +kernel)).1 (by decide))) (fun d hd => by cases hd; trivial)
                    · exact Tl.sm_skip (Tl.wanted_not rfl rfl ((hF 147 (by decide +kernel)).1 (by decide))) (fun d hd => by cases hd; trivial)
                    · exact Tl.sm_skip (Tl.wanted_not rfl rfl ((hF 147 (by decide +kernel)).1 (by decide))) (fun d hd => by cases hd; trivial)
                    · exact Tl.sm_skip (Tl.wanted_not rfl rfl ((hF 147 (by decide +kernel)).1 (by decide))) (fun d hd => by cases hd; trivial)
                    · exact Tl.sm_skip (Tl.wanted_not rfl rfl ((hF 147 (by decide +kernel)).1 (by decide))) (fun d hd => by cases hd; trivial)
                    · exact Tl.sm_v 157 _ rfl (Tl.wanted_none rfl) hC rfl (rn_pickF rfl ((hF 147 (by decide +kernel)).1 (by decide)) rfl)
                    intro v w9 hw hv
                    have v157 : v 157 = .bool false := hv 157 (by decide)
                    have HB9 := hid (show Below w8.heap.size w8 w9 from hw)
                    clear hv hw
                    simp only [Tl.fill, List.drop_succ_cons, List.drop_zero, wpList]
                    simp only [Act.put, List.setIfInBounds_toArray, List.set_cons_succ, List.set_cons_zero, v157]
                    clear v157
                    go_wp2_with fail
                    go_roundg g1
                    case measure => omega
                    case rel => exact ⟨j + 1, by omega, by first | rfl | simp, by rw [HSX.out]; rfl, hid (HW9.out.below HB9.out), hid (HX9.out.below HB9.out HX9.out.lt), hid (HG9.out.below HB9.out HG9.out.lt)⟩
                  | false =>
                    by_cases h1 : sn.length = 1
                    · obtain ⟨p, rfl⟩ : ∃ p, sn = [p] := List.length_eq_one_iff.1 h1
                      obtain ⟨g8, e8', e8e, hg8, hc8⟩ := row_objs (w' := w8) HR8.out (by simp)
                      cases e8e
                      have d1 := (hc8 0 _ rfl).2
                      simp only [Nat.zero_mul, Nat.zero_add] at d1
                      obtain ⟨d8, hd8⟩ : ∃ d8, d8 = p.2 := ⟨_, rfl⟩
                      rw [← hd8] at d1
                      have hcw : w8.cell? ⟨gw, j, none⟩ = some (.string (shD K N bl j)) := by
                        have := (HG9.out.cell j).trans (wasL_get _ _ _ _ hjk)
                        rw [if_pos hjk] at this
                        exact this
                      have HLG : Hid (g8 < w8.heap.size ∧ w8.cell? ⟨g8, 1, none⟩ = some (.string d8) ∧ gw < w8.heap.size ∧ w8.cell? ⟨gw, j, none⟩ = some (.string (shD K N bl j))) := hid ⟨hg8, d1, HG9.out.lt, hcw⟩
                      have HKN : Hid (j < k) := hid hjk
                      rw [show ((!false && (decide ([p].length = 1) && decide (([p].getD 0 (⟨#[]⟩, ⟨#[]⟩)).2 = shD K N bl j)))) = decide (d8 = shD K N bl j) from by rw [hd8]; rfl] at hsx
                      obtain ⟨f8, hf8⟩ : ∃ f8, f8 = shD K N bl j := ⟨_, rfl⟩
                      rw [← hf8] at hsx HLG
                      have HSX := hid hsx
                      clear hsx d1 hcw hc8 hg8 hd8 hf8 h1
                      simp only [List.length_singleton]
                      go_wp2_with fail
                      refine Tl.wp_mix_lit (by kernel_rfl) 19 [139, 140, 141, 142, 143, 144, 145, 146, 147, 148, 149, 150, 151, 152, 153, 154, 155, 156, 157] 180 rfl (by kernel_rfl) (BelW w8) (upF3 b j (.slice (some ⟨g8, 0, none⟩) 1 e8) (.slice (some ⟨gw, 0, none⟩) k k) g8 gw d8 f8) ((Below.refl _ _).drew)
                        ⟨fun a' W' hC hF => ?_, fun a' W' hC hF => ?_, fun a' W' hC hF => ?_, fun a' W' hC hF => ?_, fun a' W' hC hF => ?_, fun a' W' hC hF => ?_, fun a' W' hC hF => ?_, fun a' W' hC hF => ?_, fun a' W' hC hF => ?_, fun a' W' hC hF => ?_, fun a' W' hC hF => ?_, fun a' W' hC hF => ?_, fun a' W' hC hF => ?_, fun a' W' hC hF => ?_, fun a' W' hC hF => ?_, fun a' W' hC hF => ?_, fun a' W' hC hF => ?_, fun a' W' hC hF => ?_, fun a' W' hC hF => ?_, trivial⟩ ?_
                      · exact Tl.sm_v 139 _ rfl (Tl.wanted_none rfl) hC rfl (rn_move rfl ((hF 11 (by decide +kernel)).2 (by decide)))
                      · exact Tl.sm_v 140 _ rfl (Tl.wanted_none rfl) hC rfl (rn_move rfl ((hF 19 (by decide +kernel)).2 (by decide)))
                      · refine Tl.sm_call 28 #[_, _] (Tl.wanted_none rfl) (rn_call2 rfl rfl ((hF 139 (by decide +kernel)).1 (by decide)) ((hF 140 (by decide +kernel)).1 (by decide)) (ens28 _)) ((HUP.out W' hC).mono ?_)
                        rintro e w'' ⟨rfl, rfl⟩
                        exact ⟨_, rfl, hC, fun d v _ h => h, fun d hd => by cases hd; rfl⟩
                      · exact Tl.sm_v 142 _ rfl (Tl.wanted_none rfl) hC rfl (rn_move rfl ((hF 141 (by decide +kernel)).1 (by decide)))
                      · exact Tl.sm_v 143 _ rfl (Tl.wanted_is rfl rfl ((hF 142 (by decide +kernel)).1 (by decide))) hC rfl (rn_move rfl ((hF 20 (by decide +kernel)).2 (by decide)))
                      · exact Tl.sm_v 144 _ rfl (Tl.wanted_is rfl rfl ((hF 142 (by decide +kernel)).1 (by decide))) hC rfl (rn_len55 rfl ((hF 143 (by decide +kernel)).1 (by decide)))
                      · exact Tl.sm_v 145 _ rfl (Tl.wanted_is rfl rfl ((hF 142 (by decide +kernel)).1 (by decide))) hC rfl (rn_eql3 rfl ((hF 144 (by decide +kernel)).1 (by decide)) rfl rfl)
                      · exact Tl.sm_v 146 _ rfl (Tl.wanted_none rfl) hC rfl (rn_pickT rfl ((hF 142 (by decide +kernel)).1 (by decide)) ((hF 145 (by decide +kernel)).1 (by decide)))
                      · exact Tl.sm_v 147 _ rfl (Tl.wanted_none rfl) hC rfl (rn_move rfl ((hF 146 (by decide +kernel)).1 (by decide)))
                      · exact Tl.sm_v 148 _ rfl (Tl.wanted_is rfl rfl ((hF 147 (by decide +kernel)).1 (by decide))) hC rfl (rn_move rfl ((hF 20 (by decide +kernel)).2 (by decide)))
                      · exact Tl.sm_v 149 _ rfl (Tl.wanted_is rfl rfl ((hF 147 (by decide +kernel)).1 (by decide))) hC rfl (rn_ix55 (i := 0) rfl ((hF 148 (by decide +kernel)).1 (by decide)) rfl (by decide))
                      · exact Tl.sm_v 150 _ rfl (Tl.wanted_is rfl rfl ((hF 147 (by decide +kernel)).1 (by decide))) hC rfl (rn_f28_1 rfl ((hF 149 (by decide +kernel)).1 (by decide)))
                      · exact Tl.sm_v 151 _ rfl (Tl.wanted_is rfl rfl ((hF 147 (by decide +kernel)).1 (by decide))) hC rfl (rn_load9 rfl ((hF 150 (by decide +kernel)).1 (by decide)) (BelW.cell hC (p := ⟨g8, 1, none⟩) HLG.out.1 HLG.out.2.1))
                      · exact Tl.sm_v 152 _ rfl (Tl.wanted_is rfl rfl ((hF 147 (by decide +kernel)).1 (by decide))) hC rfl (rn_move rfl ((hF 14 (by decide +kernel)).2 (by decide)))
                      · exact Tl.sm_v 153 _ rfl (Tl.wanted_is rfl rfl ((hF 147 (by decide +kernel)).1 (by decide))) hC rfl (rn_move rfl ((hF 19 (by decide +kernel)).2 (by decide)))
                      · exact Tl.sm_v 154 _ rfl (Tl.wanted_is rfl rfl ((hF 147 (by decide +kernel)).1 (by decide))) hC rfl (rn_ix62 rfl ((hF 152 (by decide +kernel)).1 (by decide)) ((hF 153 (by decide +kernel)).1 (by decide)) HKN.out)
                      · exact Tl.sm_v 155 _ rfl (Tl.wanted_is rfl rfl ((hF 147 (by decide +kernel)).1 (by decide))) hC rfl (rn_load9 rfl ((hF 154 (by decide +kernel)).1 (by decide)) (BelW.cell hC (p := ⟨gw, j, none⟩) HLG.out.2.2.1 HLG.out.2.2.2))
                      · exact Tl.sm_v 156 _ rfl (Tl.wanted_is rfl rfl ((hF 147 (by decide +kernel)).1 (by decide))) hC rfl (rn_eql9 rfl ((hF 151 (by decide +kernel)).1 (by decide)) ((hF 155 (by decide +kernel)).1 (by decide)) rfl)
                      · exact Tl.sm_v 157 _ rfl (Tl.wanted_none rfl) hC rfl (rn_pickT rfl ((hF 147 (by decide +kernel)).1 (by decide)) ((hF 156 (by decide +kernel)).1 (by decide)))
                      intro v w9 hw hv
                      have v157 : v 157 = .bool (decide (d8 = f8)) := hv 157 (by decide)
                      have HB9 := hid (show Below w8.heap.size w8 w9 from hw)
                      clear hv hw
                      simp only [Tl.fill, List.drop_succ_cons, List.drop_zero, wpList]
                      simp only [Act.put, List.setIfInBounds_toArray, List.set_cons_succ, List.set_cons_zero, v157]
                      clear v157
                      by_cases hdf : d8 = f8
                      · rw [decide_eq_true hdf] at HSX ⊢
                        have wG : IntKind.i64.wrap ((leftN K N bl V8.l j : Int) + 1) = ((leftN K N bl V8.l j + 1 : Nat) : Int) := wrapN (b := 1) (by have := HN12.out; omega)
                        clear hdf
                        go_wp2_with fail
                        go_roundg g1
                        case measure => omega
                        case rel => exact ⟨j + 1, by omega, by first | rfl | simp, by rw [HSX.out]; first | rfl | simp, hid (HW9.out.below HB9.out), hid (HX9.out.below HB9.out HX9.out.lt), hid (HG9.out.below HB9.out HG9.out.lt)⟩
                      · rw [decide_eq_false hdf] at HSX ⊢
                        clear hdf
                        go_wp2_with fail
                        go_roundg g1
                        case measure => omega
                        case rel => exact ⟨j + 1, by omega, by first | rfl | simp, by rw [HSX.out]; rfl, hid (HW9.out.below HB9.out), hid (HX9.out.below HB9.out HX9.out.lt), hid (HG9.out.below HB9.out HG9.out.lt)⟩
                    · rw [show (!false && (decide (sn.length = 1) && decide ((sn.getD 0 (⟨#[]⟩, ⟨#[]⟩)).2 = shD K N bl j))) = false from by rw [decide_eq_false h1]; rfl] at hsx
                      have HSX := hid hsx
                      obtain ⟨m8, hm8⟩ : ∃ m8, m8 = sn.length := ⟨_, rfl⟩
                      rw [← hm8] at h1 ⊢
                      have HM8 : Hid (decide ((m8 : Int) = 1) = false) := hid (decide_eq_false (by omega))
                      clear hsx hm8 h1
                      go_wp2_with fail
                      refine Tl.wp_mix_lit (by kernel_rfl) 19 [139, 140, 141, 142, 143, 144, 145, 146, 147, 148, 149, 150, 151, 152, 153, 154, 155, 156, 157] 180 rfl (by kernel_rfl) (BelW w8) (upF2 b j (.slice A8 m8 e8) m8) ((Below.refl _ _).drew)
                        ⟨fun a' W' hC hF => ?_, fun a' W' hC hF => ?_, fun a' W' hC hF => ?_, fun a' W' hC hF => ?_, fun a' W' hC hF => ?_, fun a' W' hC hF => ?_, fun a' W' hC hF => ?_, fun a' W' hC hF => ?_, fun a' W' hC hF => ?_, fun a' W' hC hF => ?_, fun a' W' hC hF => ?_, fun a' W' hC hF => ?_, fun a' W' hC hF => ?_, fun a' W' hC hF => ?_, fun a' W' hC hF => ?_, fun a' W' hC hF => ?_, fun a' W' hC hF => ?_, fun a' W' hC hF => ?_, fun a' W' hC hF => ?_, trivial⟩ ?_
                      · exact Tl.sm_v 139 _ rfl (Tl.wanted_none rfl) hC rfl (rn_move rfl ((hF 11 (by decide +kernel)).2 (by decide)))
                      · exact Tl.sm_v 140 _ rfl (Tl.wanted_none rfl) hC rfl (rn_move rfl ((hF 19 (by decide +kernel)).2 (by decide)))
                      · refine Tl.sm_call 28 #[_, _] (Tl.wanted_none rfl) (rn_call2 rfl rfl ((hF 139 (by decide +kernel)).1 (by decide)) ((hF 140 (by decide +kernel)).1 (by decide)) (ens28 _)) ((HUP.out W' hC).mono ?_)
                        rintro e w'' ⟨rfl, rfl⟩
                        exact ⟨_, rfl, hC, fun d v _ h => h, fun d hd => by cases hd; rfl⟩
                      · exact Tl.sm_v 142 _ rfl (Tl.wanted_none rfl) hC rfl (rn_move rfl ((hF 141 (by decide +kernel)).1 (by decide)))
                      · exact Tl.sm_v 143 _ rfl (Tl.wanted_is rfl rfl ((hF 142 (by decide +kernel)).1 (by decide))) hC rfl (rn_move rfl ((hF 20 (by decide +kernel)).2 (by decide)))
                      · exact Tl.sm_v 144 _ rfl (Tl.wanted_is rfl rfl ((hF 142 (by decide +kernel)).1 (by decide))) hC rfl (rn_len55 rfl ((hF 143 (by decide +kernel)).1 (by decide)))
                      · exact Tl.sm_v 145 _ rfl (Tl.wanted_is rfl rfl ((hF 142 (by decide +kernel)).1 (by decide))) hC rfl (rn_eql3 rfl ((hF 144 (by decide +kernel)).1 (by decide)) rfl HM8.out)
                      · exact Tl.sm_v 146 _ rfl (Tl.wanted_none rfl) hC rfl (rn_pickT rfl ((hF 142 (by decide +kernel)).1 (by decide)) ((hF 145 (by decide +kernel)).1 (by decide)))
                      · exact Tl.sm_v 147 _ rfl (Tl.wanted_none rfl) hC rfl (rn_move rfl ((hF 146 (by decide +kernel)).1 (by decide)))
                      · exact Tl.sm_skip (Tl.wanted_not rfl rfl ((hF 147 (by decide +kernel)).1 (by decide))) (fun d hd => by cases hd; trivial)
                      · exact Tl.sm_skip (Tl.wanted_not rfl rfl ((hF 147 (by decide +kernel)).1 (by decide))) (fun d hd => by cases hd; trivial)
                      · exact Tl.sm_skip (Tl.wanted_not rfl rfl ((hF 147 (by decide +kernel)).1 (by decide))) (fun d hd => by cases hd; trivial)
                      · exact Tl.sm_skip (Tl.wanted_not rfl rfl ((hF 147 (by decide +kernel)).1 (by decide))) (fun d hd => by cases hd; trivial)
                      · exact Tl.sm_skip (Tl.wanted_not rfl rfl ((hF 147 (by decide +kernel)).1 (by decide))) (fun d hd => by cases hd; trivial)
                      · exact Tl.sm_skip (Tl.wanted_not rfl rfl ((hF 147 (by decide +kernel)).1 (by decide))) (fun d hd => by cases hd; trivial)
                      · exact Tl.sm_skip (Tl.wanted_not rfl rfl ((hF 147 (by decide +kernel)).1 (by decide))) (fun d hd => by cases hd; trivial)
                      · exact Tl.sm_skip (Tl.wanted_not rfl rfl ((hF 147 (by decide +kernel)).1 (by decide))) (fun d hd => by cases hd; trivial)
                      · exact Tl.sm_skip (Tl.wanted_not rfl rfl ((hF 147 (by decide +kernel)).1 (by decide))) (fun d hd => by cases hd; trivial)
                      · exact Tl.sm_v 157 _ rfl (Tl.wanted_none rfl) hC rfl (rn_pickF rfl ((hF 147 (by decide +kernel)).1 (by decide)) rfl)
                      intro v w9 hw hv
                      have v157 : v 157 = .bool false := hv 157 (by decide)
                      have HB9 := hid (show Below w8.heap.size w8 w9 from hw)
                      clear hv hw
                      simp only [Tl.fill, List.drop_succ_cons, List.drop_zero, wpList]
                      simp only [Act.put, List.setIfInBounds_toArray, List.set_cons_succ, List.set_cons_zero, v157]
                      clear v157
                      go_wp2_with fail
                      go_roundg g1
                      case measure => omega
                      case rel => exact ⟨j + 1, by omega, by first | rfl | simp, by rw [HSX.out]; rfl, hid (HW9.out.below HB9.out), hid (HX9.out.below HB9.out HX9.out.lt), hid (HG9.out.below HB9.out HG9.out.lt)⟩
end Go.Proofs.YtffhobkoagnhhaaGreatDoor
