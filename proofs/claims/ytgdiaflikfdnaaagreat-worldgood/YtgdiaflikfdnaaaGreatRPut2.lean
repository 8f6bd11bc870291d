/- The document's Put. -/
import Derived.Test.YtgdiaflikfdnaaaGreatRDel
namespace Go.Proofs.YtgdiaflikfdnaaaGreat
open Go.RowKit Go.Maps
set_option maxHeartbeats 1000000 in
set_option maxRecDepth 20000 in
theorem rput_bad (b : Nat) (n d : ByteArray) (h : badName n d = true) (w : World) : Calls Tryz.prog 63 #[ptr b, obv n d] w fun e w' => e = .returned (er 1) ∧ Below w.heap.size w w' := by
  have HF := hid (boxed w (.cells #[.string n, .string d] 35))
  unfold badName at h
  unfold ptr obv er
  by_cases h0 : n.size = 0
  · have q0 : ((n.size : Int) == 0) = true := beq_iff_eq.2 (by omega)
    clear h
    go_enter Tryz.func63, Tryz.ntmps63
    go_wp2_with fail
    go_ret
    exact ⟨rfl, HF.out⟩
  · have q0 : ((n.size : Int) == 0) = false := beq_eq_false_iff_ne.2 (by omega)
    by_cases h1 : 80 < n.size
    · have q1 : (80 : Int) < (n.size : Int) := by omega
      clear h h0
      go_enter Tryz.func63, Tryz.ntmps63
      go_wp2_with fail
      go_ret
      exact ⟨rfl, HF.out⟩
    · have q1 : ¬ (80 : Int) < (n.size : Int) := by omega
      have h2 : 65536 < d.size := by
        rw [decide_eq_false h0, decide_eq_false h1] at h
        simpa using h
      have q2 : (65536 : Int) < (d.size : Int) := by omega
      clear h h0 h1
      go_enter Tryz.func63, Tryz.ntmps63
      go_wp2_with fail
      go_ret
      exact ⟨rfl, HF.out⟩
def pwF (b : Nat) (wv : Value) (q : Rw) (k : Nat) (xs : List Value) (Z : Nat) (i : Nat) (v : Value) (W : World) : Prop := match i with
  | 83 => v = .pointer (some ⟨b, 0, none⟩) | 84 => v = .pointer (some ⟨b, 0, none⟩) | 85 => v = .pointer (some ⟨b, 0, none⟩) | 92 => v = .pointer (some ⟨b, 0, none⟩)
  | 86 => v = .pointer (some ⟨b, 1, none⟩) | 93 => v = .pointer (some ⟨b, 1, none⟩)
  | 87 => v = wv
  | 88 => v = .agg #[.string q.name, .string q.data]
  | 89 => v = .agg (rcells q).toArray
  | 90 => ∃ g, v = .slice (some ⟨g, 0, none⟩) 1 1 ∧ Z ≤ g ∧ Has W g (rcells q).toArray 117
  | 91 => ∃ g cap, v = .slice (some ⟨g, 0, none⟩) (k + 1) cap ∧ W.ownsRow 0 117 3 (.slice (some ⟨g, 0, none⟩) (k + 1) cap) (k + 1) (xs ++ rcells q) ∧ (wv.ownBlock = some g ∨ Z ≤ g)
  | _ => True
theorem pwF_turn {b : Nat} {wv : Value} {q : Rw} {k : Nat} {xs : List Value} {Z i : Nat} {v : Value} {W W' : World} (h : pwF b wv q k xs Z i v W)
    (h90 : ∀ g, Z ≤ g → Has W g (rcells q).toArray 117 → Has W' g (rcells q).toArray 117)
    (h91 : i = 91 → ∀ g cap, W.ownsRow 0 117 3 (.slice (some ⟨g, 0, none⟩) (k + 1) cap) (k + 1) (xs ++ rcells q) → W'.ownsRow 0 117 3 (.slice (some ⟨g, 0, none⟩) (k + 1) cap) (k + 1) (xs ++ rcells q)) : pwF b wv q k xs Z i v W' := by
  unfold pwF at h ⊢
  split at h
  all_goals first
    | exact h
    | (obtain ⟨g, e1, e2, e3⟩ := h; exact ⟨g, e1, e2, h90 g e2 e3⟩)
    | (obtain ⟨g, cap, e1, e2, e3⟩ := h; exact ⟨g, cap, e1, h91 rfl g cap e2, e3⟩)
theorem pwF_below {b : Nat} {wv : Value} {q : Rw} {k : Nat} {xs : List Value} {Z i : Nat} {v : Value} {W W' : World} (h : pwF b wv q k xs Z i v W) (hb : Below W.heap.size W W') : pwF b wv q k xs Z i v W' :=
  pwF_turn h (fun _ _ hh => hh.below hb hh.lt) fun _ _ _ hr => row_below hr hb
theorem pwF_app {b : Nat} {wv : Value} {q : Rw} {k : Nat} {xs : List Value} {Z i : Nat} {v : Value} {W W' : World} (h : pwF b wv q k xs Z i v W) (hi : i ≠ 91) (hg : W.grownBy W' wv.ownBlock) (hz : ∀ g, wv.ownBlock = some g → g < Z) : pwF b wv q k xs Z i v W' :=
  pwF_turn h (fun g hZ hh => by
    have hl := hh.lt
    unfold Has at hh ⊢
    rw [hg.block g hl fun e => by have := hz g e.symm; omega]; exact hh) fun e => absurd e hi
def poF (b : Nat) (n d : ByteArray) (M : List Ob) (Z : Nat) (i : Nat) (v : Value) (W : World) : Prop := match i with
  | 43 => v = .pointer (some ⟨b, 0, none⟩)
  | 44 => W.ownsRow Z 35 2 v M.length (objCells M)
  | 45 => v = .agg #[.string n, .string d]
  | 46 => W.ownsRow Z 35 2 v (put (n, d) M).length (objCells (put (n, d) M))
  | _ => True
theorem poF_below {b : Nat} {n d : ByteArray} {M : List Ob} {Z i : Nat} {v : Value} {W W' : World} (h : poF b n d M Z i v W) (hb : Below W.heap.size W W') : poF b n d M Z i v W' := by
  unfold poF at h ⊢
  split at h
  all_goals first
    | exact h
    | exact row_below h hb
theorem used_succ {M : List Ob} {k : Nat} {p : Ob} (h : M[k]? = some p) : used (M.take (k + 1)) = used (M.take k) + wt p := by
  unfold used
  rw [List.take_add_one, h]
  simp
theorem used_take_le (M : List Ob) (k : Nat) : used (M.take k) ≤ used M := by
  have : used M = used (M.take k) + used (M.drop k) := by
    unfold used
    rw [← List.sum_append, ← List.map_append, List.take_append_drop]
  omega
set_option maxHeartbeats 8000000 in
set_option maxRecDepth 20000 in
theorem refPutS_any {w : World} {S : Nat → Prop} {b : Nat} {r : Rf} (h : IsRf w S b r) (hN : r.good.length + r.writes.length ≤ 1000000) (hdt : ∀ p ∈ seenR r, p.2.size ≤ 65536) (hn : ∀ k, r.ahead = some k → k < 9223372036854775808) (n d : ByteArray) : Calls Tryz.prog 63 #[ptr b, obv n d] w fun e w' => e = .returned (er (putR r n d).1) ∧ AfterR w w' S b (putR r n d).2 := by
  unfold putR
  cases hbad : badName n d with
  | true => exact (rput_bad b n d hbad w).mono fun e w' ⟨h1, h2⟩ => ⟨h1, AfterR.of_below h h2⟩
  | false =>
    simp only [Bool.false_eq_true, if_false]
    unfold badName at hbad
    simp only [Bool.or_eq_false_iff, decide_eq_false_iff_not] at hbad
    obtain ⟨h0, h1, h2⟩ := hbad
    have q0 : ((n.size : Int) == 0) = false := beq_eq_false_iff_ne.2 (by omega)
    have q1 : ¬ (80 : Int) < (n.size : Int) := by omega
    have q2 : ¬ (65536 : Int) < (d.size : Int) := by omega
    have hbox : Has (w.alloc (.cells #[.string n, .string d] 35)) w.heap.size #[.string n, .string d] 35 := Has.new _ _ _ _ rfl
    have HB := hid (boxed w (.cells #[.string n, .string d] 35))
    have HS7 : Hid (∀ i, S i → i < w.heap.size) := hid (by obtain ⟨_, _, _, _, _, _, _, _, h7⟩ := h; exact h7)
    have HI := hid h
    have HX := hid hbox
    have hml := seenR_len hN
    have hwl : (rcount r).2.writes.length ≤ 1000000 := by rw [(rcount_same r).2]; omega
    have HRC : Hid (∀ W, Below w.heap.size w W → Calls Tryz.prog 89 #[.pointer (some ⟨b, 0, none⟩)] W fun e w' => e = .returned (.bool (rcount r).1) ∧ AfterR W w' S b (rcount r).2) := hid fun W hW => refRefused_any (h.below hW) hn
    unfold triedR
    generalize (rcount r).2 = r1 at *
    generalize (rcount r).1 = cc at *
    have HO : Hid (∀ W, Below w.heap.size w W → Calls Tryz.prog 47 #[.pointer (some ⟨b, 0, none⟩)] W fun e w' => ∃ v, e = .returned v ∧ w'.ownsRow W.heap.size 35 2 v (seenR r).length (objCells (seenR r)) ∧ Below W.heap.size W w') := hid fun W hW => by
      have := refObjects_any (h.below hW) hN
      unfold ptr at this
      exact this
    obtain ⟨gv0, wv0, ⟨c0, c1, c2, c3, c4⟩, _⟩ := (h.below HB.out).cells
    clear h
    unfold ptr obv er
    cases hdn : r.down with
    | true =>
      rw [hdn] at c2
      clear hdn hbox
      go_enter Tryz.func63, Tryz.ntmps63
      go_wp2_with fail
      go_ret
      exact ⟨rfl, AfterR.of_below HI.out HB.out⟩
    | false =>
      rw [hdn] at c2
      simp only [Bool.false_eq_true, if_false]
      clear hdn
      unfold overR
      cases hrm : r.room with
      | none =>
        rw [hrm] at c4
        have c4' : (w.alloc (.cells #[.string n, .string d] 35)).cell? ⟨b, 4, none⟩ = some (.int .i64 (-1)) := c4
        simp only [Bool.false_eq_true, if_false]
        have HBW := HB
        have HBX := HX
        clear hrm c4 HO hdt c0 c1 c3
        go_enter Tryz.func63, Tryz.ntmps63
        have HR := HRC.out _ HBW.out
        go_wp2_with fail
        refine HR.mono ?_
        clear HR HRC
        rintro x w2 ⟨rfl, ha⟩
        have HA := hid (AfterR.front HBW.out ha)
        obtain ⟨S1, hi1, hs1, ho1⟩ := ha
        cases cc with
        | true =>
          clear hi1 hs1 ho1
          go_wp2_with fail
          go_ret
          exact ⟨rfl, HA.out⟩
        | false =>
          clear HA
          have HO1 := hid (show Only S w w2 from (Only.of_below HBW.out).trans ho1 fun _ h => .inl h)
          have HS1 := hid (show ∀ i, S1 i → S i ∨ w.heap.size ≤ i from fun i hi => (hs1 i hi).imp id fun h => Nat.le_trans HBW.out.size h)
          have hbx : Has w2.drew w.heap.size #[.string n, .string d] 35 := (ho1.has HBX.out fun hS => by have := HS7.out _ hS; omega)
          obtain ⟨gv, wv, hst, hgd, hwr, h4, h5, h6, h7⟩ := hi1
          clear hs1 ho1 HBX
          go_wp2_with fail
          refine Tl.wp_mix_lit (by kernel_rfl) 11 [83, 84, 85, 86, 87, 88, 89, 90, 91, 92, 93] 94 rfl (by kernel_rfl) (AppR w2.drew wv r1.writes.length (r1.writes.flatMap rcells)) (pwF b wv ⟨n, d, false⟩ r1.writes.length (r1.writes.flatMap rcells) w2.heap.size) ⟨Only.refl _ _, hwr⟩
            ⟨fun a' W' hC hF => ?_, fun a' W' hC hF => ?_, fun a' W' hC hF => ?_, fun a' W' hC hF => ?_, fun a' W' hC hF => ?_, fun a' W' hC hF => ?_, fun a' W' hC hF => ?_, fun a' W' hC hF => ?_, fun a' W' hC hF => ?_, fun a' W' hC hF => ?_, fun a' W' hC hF => ?_, trivial⟩ ?_
          · exact Tl.sm_v 83 _ rfl (Tl.wanted_none rfl) hC rfl (rn_move rfl ((hF 0 (by decide +kernel)).2 (by decide)))
          · exact Tl.sm_v 84 _ rfl (Tl.wanted_none rfl) hC rfl (rn_move rfl ((hF 0 (by decide +kernel)).2 (by decide)))
          · exact Tl.sm_v 85 _ rfl (Tl.wanted_none rfl) hC rfl (rn_nilCheck rfl ((hF 84 (by decide +kernel)).1 (by decide)))
          · exact Tl.sm_v 86 _ rfl (Tl.wanted_none rfl) hC rfl (rn_f79_1 rfl ((hF 85 (by decide +kernel)).1 (by decide)))
          · exact Tl.sm_v 87 _ rfl (Tl.wanted_none rfl) hC rfl (rn_load77 rfl ((hF 86 (by decide +kernel)).1 (by decide)) ((hC.has hst (row_ne hwr hst (by decide))).cell 1))
          · exact Tl.sm_v 88 _ rfl (Tl.wanted_none rfl) hC rfl (rn_load28 rfl ((hF 3 (by decide +kernel)).2 (by decide)) ((hC.has hbx (row_ne hwr hbx (by decide))).cell 0) ((hC.has hbx (row_ne hwr hbx (by decide))).cell 1))
          · exact Tl.sm_v 89 _ rfl (Tl.wanted_none rfl) hC rfl (rn_build90 rfl ((hF 88 (by decide +kernel)).1 (by decide)))
          · refine Tl.sm_w _ (Tl.wanted_none rfl) (rn_bs77 rfl ((hF 89 (by decide +kernel)).1 (by decide))) (hC.alloc _) (fun d v _ hf => pwF_below hf (boxed _ _)) fun d hd => ?_
            cases hd
            exact ⟨W'.heap.size, rfl, hC.1.size, Has.new _ _ _ _ rfl⟩
          · obtain ⟨ga, e90, hga, hHas⟩ : ∃ g, a'.tmps.getD 90 undef = .slice (some ⟨g, 0, none⟩) 1 1 ∧ w2.heap.size ≤ g ∧ Has W' g (rcells ⟨n, d, false⟩).toArray 117 := (hF 90 (by decide +kernel)).1 (by decide)
            obtain ⟨gb, cap, w'', r1', r2, r3, r4, r5⟩ := run_app2 el90 W' 102 0 wv _ _ hC.2 ⟨ga, 0, none⟩ 1 1 (rcells ⟨n, d, false⟩) (by decide) rfl (has_add hHas) (rcells_one _) (by omega) (Nat.zero_le _)
            refine Tl.sm_w _ (Tl.wanted_none rfl) (rn_app77 rfl ((hF 87 (by decide +kernel)).1 (by decide)) e90 r1') ⟨hC.1.trans (Only.of_grown (S := fun i => wv.ownBlock = some i) r3 (fun k h => h)) (fun _ h => .inl h), r4⟩ (fun i v hi hf => pwF_app hf (fun e => hi (by rw [e])) r3 (fun g hg => (hwr.lt g hg).2)) fun d hd => ?_
            cases hd
            exact ⟨gb, cap, rfl, r2, r5.imp id (Nat.le_trans hC.1.size)⟩
          · exact Tl.sm_v 92 _ rfl (Tl.wanted_none rfl) hC rfl (rn_nilCheck rfl ((hF 83 (by decide +kernel)).1 (by decide)))
          · exact Tl.sm_v 93 _ rfl (Tl.wanted_none rfl) hC rfl (rn_f79_1 rfl ((hF 92 (by decide +kernel)).1 (by decide)))
          intro v w4 hw4 hv
          obtain ⟨g, cap, v91, hr91, hg91⟩ : ∃ g cap, v 91 = .slice (some ⟨g, 0, none⟩) (r1.writes.length + 1) cap ∧ w4.ownsRow 0 117 3 (.slice (some ⟨g, 0, none⟩) (r1.writes.length + 1) cap) (r1.writes.length + 1) (r1.writes.flatMap rcells ++ rcells ⟨n, d, false⟩) ∧ (wv.ownBlock = some g ∨ w2.heap.size ≤ g) := hv 91 (by decide)
          have v93 : v 93 = .pointer (some ⟨b, 1, none⟩) := hv 93 (by decide)
          have hA4 := hid (AfterR.trans HS1.out HO1.out.drew (rf_writes (w := w2.drew) (S := S1) (q := ⟨n, d, false⟩) hst hgd hwr h4 h5 h6 h7 hw4.1 hr91 (fun g' hg' => by simp [Value.ownBlock] at hg'; subst hg'; exact hg91)))
          have hst4 := hw4.has hst (row_ne hwr hst (by decide))
          have y1 := hst4.cell 1
          have y2 := hst4.frozen 1
          clear hv hw4 hst hgd hwr h4 h5 h6 h7 hbx hst4 hr91 hg91
          simp only [Tl.fill, List.drop_succ_cons, List.drop_zero]
          simp only [Act.put, List.setIfInBounds_toArray, List.set_cons_succ, List.set_cons_zero, v91, v93]
          clear v91 v93
          go_wp2_with fail
          go_ret
          exact ⟨rfl, hA4.out⟩
      | some k =>
        rw [hrm] at c4
        have c4' : (w.alloc (.cells #[.string n, .string d] 35)).cell? ⟨b, 4, none⟩ = some (.int .i64 (k : Int)) := c4
        have q3 : (0 : Int) ≤ (k : Int) := by omega
        clear c4
        have e0 : (n.toList == [109, 48]) = decide (n = m0) := by have := str_eq n m0; rw [Lib.toList_data m0] at this; exact this
        have e1 : (n.toList == [109, 49]) = decide (n = m1) := by have := str_eq n m1; rw [Lib.toList_data m1] at this; exact this
        have b0 := hbox.cell 0
        have b1 := hbox.cell 1
        by_cases hm0 : n = m0
        · rw [decide_eq_true hm0] at e0
          have him : isMan n = true := by unfold isMan; rw [decide_eq_true hm0]; rfl
          simp only [him, Bool.not_true, Bool.false_and, Bool.false_eq_true, if_false]
          have HBW := HB
          have HBX := HX
          clear hrm HO hdt c0 c1 c3 hm0 him e1
          go_enter Tryz.func63, Tryz.ntmps63
          have HR := HRC.out _ HBW.out
          go_wp2_with fail
          refine HR.mono ?_
          clear HR HRC
          rintro x w2 ⟨rfl, ha⟩
          have HA := hid (AfterR.front HBW.out ha)
          obtain ⟨S1, hi1, hs1, ho1⟩ := ha
          cases cc with
          | true =>
            clear hi1 hs1 ho1
            go_wp2_with fail
            go_ret
            exact ⟨rfl, HA.out⟩
          | false =>
            clear HA
            have HO1 := hid (show Only S w w2 from (Only.of_below HBW.out).trans ho1 fun _ h => .inl h)
            have HS1 := hid (show ∀ i, S1 i → S i ∨ w.heap.size ≤ i from fun i hi => (hs1 i hi).imp id fun h => Nat.le_trans HBW.out.size h)
            have hbx : Has w2.drew w.heap.size #[.string n, .string d] 35 := (ho1.has HBX.out fun hS => by have := HS7.out _ hS; omega)
            obtain ⟨gv, wv, hst, hgd, hwr, h4, h5, h6, h7⟩ := hi1
            clear hs1 ho1 HBX
            go_wp2_with fail
            refine Tl.wp_mix_lit (by kernel_rfl) 11 [83, 84, 85, 86, 87, 88, 89, 90, 91, 92, 93] 94 rfl (by kernel_rfl) (AppR w2.drew wv r1.writes.length (r1.writes.flatMap rcells)) (pwF b wv ⟨n, d, false⟩ r1.writes.length (r1.writes.flatMap rcells) w2.heap.size) ⟨Only.refl _ _, hwr⟩
              ⟨fun a' W' hC hF => ?_, fun a' W' hC hF => ?_, fun a' W' hC hF => ?_, fun a' W' hC hF => ?_, fun a' W' hC hF => ?_, fun a' W' hC hF => ?_, fun a' W' hC hF => ?_, fun a' W' hC hF => ?_, fun a' W' hC hF => ?_, fun a' W' hC hF => ?_, fun a' W' hC hF => ?_, trivial⟩ ?_
            · exact Tl.sm_v 83 _ rfl (Tl.wanted_none rfl) hC rfl (rn_move rfl ((hF 0 (by decide +kernel)).2 (by decide)))
            · exact Tl.sm_v 84 _ rfl (Tl.wanted_none rfl) hC rfl (rn_move rfl ((hF 0 (by decide +kernel)).2 (by decide)))
            · exact Tl.sm_v 85 _ rfl (Tl.wanted_none rfl) hC rfl (rn_nilCheck rfl ((hF 84 (by decide +kernel)).1 (by decide)))
            · exact Tl.sm_v 86 _ rfl (Tl.wanted_none rfl) hC rfl (rn_f79_1 rfl ((hF 85 (by decide +kernel)).1 (by decide)))
            · exact Tl.sm_v 87 _ rfl (Tl.wanted_none rfl) hC rfl (rn_load77 rfl ((hF 86 (by decide +kernel)).1 (by decide)) ((hC.has hst (row_ne hwr hst (by decide))).cell 1))
            · exact Tl.sm_v 88 _ rfl (Tl.wanted_none rfl) hC rfl (rn_load28 rfl ((hF 3 (by decide +kernel)).2 (by decide)) ((hC.has hbx (row_ne hwr hbx (by decide))).cell 0) ((hC.has hbx (row_ne hwr hbx (by decide))).cell 1))
            · exact Tl.sm_v 89 _ rfl (Tl.wanted_none rfl) hC rfl (rn_build90 rfl ((hF 88 (by decide +kernel)).1 (by decide)))
            · refine Tl.sm_w _ (Tl.wanted_none rfl) (rn_bs77 rfl ((hF 89 (by decide +kernel)).1 (by decide))) (hC.alloc _) (fun d v _ hf => pwF_below hf (boxed _ _)) fun d hd => ?_
              cases hd
              exact ⟨W'.heap.size, rfl, hC.1.size, Has.new _ _ _ _ rfl⟩
            · obtain ⟨ga, e90, hga, hHas⟩ : ∃ g, a'.tmps.getD 90 undef = .slice (some ⟨g, 0, none⟩) 1 1 ∧ w2.heap.size ≤ g ∧ Has W' g (rcells ⟨n, d, false⟩).toArray 117 := (hF 90 (by decide +kernel)).1 (by decide)
              obtain ⟨gb, cap, w'', r1', r2, r3, r4, r5⟩ := run_app2 el90 W' 102 0 wv _ _ hC.2 ⟨ga, 0, none⟩ 1 1 (rcells ⟨n, d, false⟩) (by decide) rfl (has_add hHas) (rcells_one _) (by omega) (Nat.zero_le _)
              refine Tl.sm_w _ (Tl.wanted_none rfl) (rn_app77 rfl ((hF 87 (by decide +kernel)).1 (by decide)) e90 r1') ⟨hC.1.trans (Only.of_grown (S := fun i => wv.ownBlock = some i) r3 (fun k h => h)) (fun _ h => .inl h), r4⟩ (fun i v hi hf => pwF_app hf (fun e => hi (by rw [e])) r3 (fun g hg => (hwr.lt g hg).2)) fun d hd => ?_
              cases hd
              exact ⟨gb, cap, rfl, r2, r5.imp id (Nat.le_trans hC.1.size)⟩
            · exact Tl.sm_v 92 _ rfl (Tl.wanted_none rfl) hC rfl (rn_nilCheck rfl ((hF 83 (by decide +kernel)).1 (by decide)))
            · exact Tl.sm_v 93 _ rfl (Tl.wanted_none rfl) hC rfl (rn_f79_1 rfl ((hF 92 (by decide +kernel)).1 (by decide)))
            intro v w4 hw4 hv
            obtain ⟨g, cap, v91, hr91, hg91⟩ : ∃ g cap, v 91 = .slice (some ⟨g, 0, none⟩) (r1.writes.length + 1) cap ∧ w4.ownsRow 0 117 3 (.slice (some ⟨g, 0, none⟩) (r1.writes.length + 1) cap) (r1.writes.length + 1) (r1.writes.flatMap rcells ++ rcells ⟨n, d, false⟩) ∧ (wv.ownBlock = some g ∨ w2.heap.size ≤ g) := hv 91 (by decide)
            have v93 : v 93 = .pointer (some ⟨b, 1, none⟩) := hv 93 (by decide)
            have hA4 := hid (AfterR.trans HS1.out HO1.out.drew (rf_writes (w := w2.drew) (S := S1) (q := ⟨n, d, false⟩) hst hgd hwr h4 h5 h6 h7 hw4.1 hr91 (fun g' hg' => by simp [Value.ownBlock] at hg'; subst hg'; exact hg91)))
            have hst4 := hw4.has hst (row_ne hwr hst (by decide))
            have y1 := hst4.cell 1
            have y2 := hst4.frozen 1
            clear hv hw4 hst hgd hwr h4 h5 h6 h7 hbx hst4 hr91 hg91
            simp only [Tl.fill, List.drop_succ_cons, List.drop_zero]
            simp only [Act.put, List.setIfInBounds_toArray, List.set_cons_succ, List.set_cons_zero, v91, v93]
            clear v91 v93
            go_wp2_with fail
            go_ret
            exact ⟨rfl, hA4.out⟩
        · rw [decide_eq_false hm0] at e0
          by_cases hm1 : n = m1
          · rw [decide_eq_true hm1] at e1
            have him : isMan n = true := by unfold isMan; rw [decide_eq_true hm1]; simp
            simp only [him, Bool.not_true, Bool.false_and, Bool.false_eq_true, if_false]
            have HBW := HB
            have HBX := HX
            clear hrm HO hdt c0 c1 c3 hm0 hm1 him
            go_enter Tryz.func63, Tryz.ntmps63
            have HR := HRC.out _ HBW.out
            go_wp2_with fail
            refine HR.mono ?_
            clear HR HRC
            rintro x w2 ⟨rfl, ha⟩
            have HA := hid (AfterR.front HBW.out ha)
            obtain ⟨S1, hi1, hs1, ho1⟩ := ha
            cases cc with
            | true =>
              clear hi1 hs1 ho1
              go_wp2_with fail
              go_ret
              exact ⟨rfl, HA.out⟩
            | false =>
              clear HA
              have HO1 := hid (show Only S w w2 from (Only.of_below HBW.out).trans ho1 fun _ h => .inl h)
              have HS1 := hid (show ∀ i, S1 i → S i ∨ w.heap.size ≤ i from fun i hi => (hs1 i hi).imp id fun h => Nat.le_trans HBW.out.size h)
              have hbx : Has w2.drew w.heap.size #[.string n, .string d] 35 := (ho1.has HBX.out fun hS => by have := HS7.out _ hS; omega)
              obtain ⟨gv, wv, hst, hgd, hwr, h4, h5, h6, h7⟩ := hi1
              clear hs1 ho1 HBX
              go_wp2_with fail
              refine Tl.wp_mix_lit (by kernel_rfl) 11 [83, 84, 85, 86, 87, 88, 89, 90, 91, 92, 93] 94 rfl (by kernel_rfl) (AppR w2.drew wv r1.writes.length (r1.writes.flatMap rcells)) (pwF b wv ⟨n, d, false⟩ r1.writes.length (r1.writes.flatMap rcells) w2.heap.size) ⟨Only.refl _ _, hwr⟩
                ⟨fun a' W' hC hF => ?_, fun a' W' hC hF => ?_, fun a' W' hC hF => ?_, fun a' W' hC hF => ?_, fun a' W' hC hF => ?_, fun a' W' hC hF => ?_, fun a' W' hC hF => ?_, fun a' W' hC hF => ?_, fun a' W' hC hF => ?_, fun a' W' hC hF => ?_, fun a' W' hC hF => ?_, trivial⟩ ?_
              · exact Tl.sm_v 83 _ rfl (Tl.wanted_none rfl) hC rfl (rn_move rfl ((hF 0 (by decide +kernel)).2 (by decide)))
              · exact Tl.sm_v 84 _ rfl (Tl.wanted_none rfl) hC rfl (rn_move rfl ((hF 0 (by decide +kernel)).2 (by decide)))
              · exact Tl.sm_v 85 _ rfl (Tl.wanted_none rfl) hC rfl (rn_nilCheck rfl ((hF 84 (by decide +kernel)).1 (by decide)))
              · exact Tl.sm_v 86 _ rfl (Tl.wanted_none rfl) hC rfl (rn_f79_1 rfl ((hF 85 (by decide +kernel)).1 (by decide)))
              · exact Tl.sm_v 87 _ rfl (Tl.wanted_none rfl) hC rfl (rn_load77 rfl ((hF 86 (by decide +kernel)).1 (by decide)) ((hC.has hst (row_ne hwr hst (by decide))).cell 1))
              · exact Tl.sm_v 88 _ rfl (Tl.wanted_none rfl) hC rfl (rn_load28 rfl ((hF 3 (by decide +kernel)).2 (by decide)) ((hC.has hbx (row_ne hwr hbx (by decide))).cell 0) ((hC.has hbx (row_ne hwr hbx (by decide))).cell 1))
              · exact Tl.sm_v 89 _ rfl (Tl.wanted_none rfl) hC rfl (rn_build90 rfl ((hF 88 (by decide +kernel)).1 (by decide)))
              · refine Tl.sm_w _ (Tl.wanted_none rfl) (rn_bs77 rfl ((hF 89 (by decide +kernel)).1 (by decide))) (hC.alloc _) (fun d v _ hf => pwF_below hf (boxed _ _)) fun d hd => ?_
                cases hd
                exact ⟨W'.heap.size, rfl, hC.1.size, Has.new _ _ _ _ rfl⟩
              · obtain ⟨ga, e90, hga, hHas⟩ : ∃ g, a'.tmps.getD 90 undef = .slice (some ⟨g, 0, none⟩) 1 1 ∧ w2.heap.size ≤ g ∧ Has W' g (rcells ⟨n, d, false⟩).toArray 117 := (hF 90 (by decide +kernel)).1 (by decide)
                obtain ⟨gb, cap, w'', r1', r2, r3, r4, r5⟩ := run_app2 el90 W' 102 0 wv _ _ hC.2 ⟨ga, 0, none⟩ 1 1 (rcells ⟨n, d, false⟩) (by decide) rfl (has_add hHas) (rcells_one _) (by omega) (Nat.zero_le _)
                refine Tl.sm_w _ (Tl.wanted_none rfl) (rn_app77 rfl ((hF 87 (by decide +kernel)).1 (by decide)) e90 r1') ⟨hC.1.trans (Only.of_grown (S := fun i => wv.ownBlock = some i) r3 (fun k h => h)) (fun _ h => .inl h), r4⟩ (fun i v hi hf => pwF_app hf (fun e => hi (by rw [e])) r3 (fun g hg => (hwr.lt g hg).2)) fun d hd => ?_
                cases hd
                exact ⟨gb, cap, rfl, r2, r5.imp id (Nat.le_trans hC.1.size)⟩
              · exact Tl.sm_v 92 _ rfl (Tl.wanted_none rfl) hC rfl (rn_nilCheck rfl ((hF 83 (by decide +kernel)).1 (by decide)))
              · exact Tl.sm_v 93 _ rfl (Tl.wanted_none rfl) hC rfl (rn_f79_1 rfl ((hF 92 (by decide +kernel)).1 (by decide)))
              intro v w4 hw4 hv
              obtain ⟨g, cap, v91, hr91, hg91⟩ : ∃ g cap, v 91 = .slice (some ⟨g, 0, none⟩) (r1.writes.length + 1) cap ∧ w4.ownsRow 0 117 3 (.slice (some ⟨g, 0, none⟩) (r1.writes.length + 1) cap) (r1.writes.length + 1) (r1.writes.flatMap rcells ++ rcells ⟨n, d, false⟩) ∧ (wv.ownBlock = some g ∨ w2.heap.size ≤ g) := hv 91 (by decide)
              have v93 : v 93 = .pointer (some ⟨b, 1, none⟩) := hv 93 (by decide)
              have hA4 := hid (AfterR.trans HS1.out HO1.out.drew (rf_writes (w := w2.drew) (S := S1) (q := ⟨n, d, false⟩) hst hgd hwr h4 h5 h6 h7 hw4.1 hr91 (fun g' hg' => by simp [Value.ownBlock] at hg'; subst hg'; exact hg91)))
              have hst4 := hw4.has hst (row_ne hwr hst (by decide))
              have y1 := hst4.cell 1
              have y2 := hst4.frozen 1
              clear hv hw4 hst hgd hwr h4 h5 h6 h7 hbx hst4 hr91 hg91
              simp only [Tl.fill, List.drop_succ_cons, List.drop_zero]
              simp only [Act.put, List.setIfInBounds_toArray, List.set_cons_succ, List.set_cons_zero, v91, v93]
              clear v91 v93
              go_wp2_with fail
              go_ret
              exact ⟨rfl, hA4.out⟩
          · rw [decide_eq_false hm1] at e1
            have him : isMan n = false := by unfold isMan; rw [decide_eq_false hm0, decide_eq_false hm1]; rfl
            simp only [him, Bool.not_false, Bool.true_and, decide_eq_true_eq]
            have HU := hid (show used (put (n, d) (seenR r)) ≤ 65536000065536 from by
              have hh := used_le (M := put (n, d) (seenR r)) (fun p hp => by
                rcases mem_put.1 hp with rfl | h
                · show d.size ≤ _; omega
                · exact hdt p h.1)
              have := length_put_le (n, d) (seenR r)
              omega)
            obtain ⟨pr, hpr⟩ : ∃ pr : Int × Rf, pr = if k < used (put (n, d) (seenR r)) then (52, r) else if cc = true then (53, r1) else (0, { r1 with writes := r1.writes ++ [⟨n, d, false⟩] }) := ⟨_, rfl⟩
            rw [← hpr]
            have HPR := hid hpr
            clear hpr
            have HC4 := hid c4'
            have HBL := hid (show b < w.heap.size from by obtain ⟨_, _, h1, _⟩ := HI.out; exact h1.lt)
            clear hrm hdt c0 c1 c3 hm0 hm1 him
            go_enter Tryz.func63, Tryz.ntmps63
            go_wp2_with fail
            obtain ⟨W1, hW1⟩ : ∃ W1, W1 = w.alloc (.cells #[.string n, .string d] 35) := ⟨_, rfl⟩
            rw [← hW1]
            have hx1 : Has W1 w.heap.size #[.string n, .string d] 35 := by subst hW1; exact HX.out
            have hb1 : Below w.heap.size w W1 := by subst hW1; exact HB.out
            have HO' : Hid (∀ W, BelW W1 W → Calls Tryz.prog 47 #[.pointer (some ⟨b, 0, none⟩)] W fun e w' => ∃ v, e = .returned v ∧ w'.ownsRow W.heap.size 35 2 v (seenR r).length (objCells (seenR r)) ∧ Below W.heap.size W w') := hid fun W hW => HO.out W (hb1.trans ((show Below W1.heap.size W1 W from hW).mono hb1.size))
            have hc4 : W1.cell? ⟨b, 4, none⟩ = some (.int .i64 (k : Int)) := by subst hW1; exact HC4.out
            have HX1 := hid hx1
            have HB1 := hid hb1
            have hbl1 : w.heap.size < W1.heap.size := hx1.lt
            have b0 : W1.cell? ⟨w.heap.size, 0, none⟩ = some (.string n) := hx1.cell 0
            have b1 : W1.cell? ⟨w.heap.size, 1, none⟩ = some (.string d) := hx1.cell 1
            clear hW1 hx1 hb1 HO HC4 HX HB c2 c4' hbox
            refine Tl.wp_mix_lit (by kernel_rfl) 4 [43, 44, 45, 46] 94 rfl (by kernel_rfl) (BelW W1) (poF b n d (seenR r) W1.heap.size) ((Below.refl _ _).drew)
              ⟨fun a' W' hC hF => ?_, fun a' W' hC hF => ?_, fun a' W' hC hF => ?_, fun a' W' hC hF => ?_, trivial⟩ ?_
            · exact Tl.sm_v 43 _ rfl (Tl.wanted_none rfl) hC rfl (rn_move rfl ((hF 0 (by decide +kernel)).2 (by decide)))
            · refine Tl.sm_call 47 #[.pointer (some ⟨b, 0, none⟩)] (Tl.wanted_none rfl) (rn_call1 rfl rfl ((hF 43 (by decide +kernel)).1 (by decide)) (enter51 _)) ((HO'.out W' hC).mono ?_)
              rintro e w'' ⟨v, rfl, hr, b1⟩
              exact ⟨v, rfl, Below.trans hC (b1.mono hC.size), fun d v _ h => poF_below h b1, fun d hd => by cases hd; exact row_base hr hC.size⟩
            · exact Tl.sm_v 45 _ rfl (Tl.wanted_none rfl) hC rfl (rn_load28 rfl ((hF 3 (by decide +kernel)).2 (by decide)) (BelW.cell hC (p := ⟨w.heap.size, 0, none⟩) hbl1 b0) (BelW.cell hC (p := ⟨w.heap.size, 1, none⟩) hbl1 b1))
            · have hr44 : W'.ownsRow W1.heap.size 35 2 (a'.tmps.getD 44 undef) (seenR r).length (objCells (seenR r)) := (hF 44 (by decide +kernel)).1 (by decide)
              refine Tl.sm_call 78 #[a'.tmps.getD 44 undef, .agg #[.string n, .string d]] (Tl.wanted_none rfl) (rn_call2 rfl rfl rfl ((hF 45 (by decide +kernel)).1 (by decide)) (enter71 _)) ((refPut_any hr44 hml n d).mono ?_)
              rintro e w'' ⟨v, rfl, hr, b1⟩
              exact ⟨v, rfl, Below.trans hC (b1.mono hC.size), fun d v _ h => poF_below h b1, fun d hd => by cases hd; exact row_base hr hC.size⟩
            intro v W2 hw2 hv
            have h46 : W2.ownsRow W1.heap.size 35 2 (v 46) (put (n, d) (seenR r)).length (objCells (put (n, d) (seenR r))) := hv 46 (by decide)
            have HBW : Hid (Below w.heap.size w W2) := hid (HB1.out.trans ((show Below W1.heap.size W1 W2 from hw2).mono HB1.out.size))
            have HBX : Hid (Has W2 w.heap.size #[.string n, .string d] 35) := hid (HX1.out.below hw2 hbl1)
            have hbl2 : b < W1.heap.size := Nat.lt_of_lt_of_le HBL.out HB1.out.size
            have k4 : W2.cell? ⟨b, 4, none⟩ = some (.int .i64 (k : Int)) := BelW.cell hw2 (p := ⟨b, 4, none⟩) hbl2 hc4
            have HML := hid (length_put_le (n, d) (seenR r))
            obtain ⟨va, vc, hve⟩ := row_slice h46
            rw [hve] at h46
            clear hv hw2 HO' HX1 HB1 b0 b1 hc4 hbl1 hbl2 HBL
            simp only [Tl.fill, List.drop_succ_cons, List.drop_zero, wpList]
            rw [if_pos (Tl.wanted_none rfl)]
            simp only [Act.put, List.setIfInBounds_toArray, List.set_cons_succ, List.set_cons_zero, hve]
            clear hve
            refine .inl (wp_assign (x := .tmp 46) (d := 6) (v := .slice va (put (n, d) (seenR r)).length vc) ?_ ?_ ?_ ?_)
            · rfl
            · rfl
            · rfl
            simp only [Act.put, List.setIfInBounds_toArray, List.set_cons_succ, List.set_cons_zero]
            generalize put (n, d) (seenR r) = M at *
            have HRow := hid h46
            have hML : M.length ≤ 1000001 := Nat.le_trans HML.out (by omega)
            clear h46 HML
            generalize hL : M.length = L at *
            have HL := hid hL
            clear hL
            go_wp2_with fail
            go_loopg [5, 7] L (fun gk s5 s7 wx => ∃ j : Nat, j + gk = L ∧ s7 = .int .i64 (j : Int) ∧ s5 = .int .i64 ((used (M.take j) : Nat) : Int) ∧ wx = W2)
            case atStart => exact ⟨0, by omega, rfl, rfl, rfl⟩
            case round =>
              obtain ⟨j, hj, rfl, rfl, rfl⟩ := hrel
              cases gk with
              | zero =>
                have q4 : ¬ ((j : Int) < (L : Int)) := by omega
                have HT := hid (show M.take j = M from List.take_of_length_le (by rw [HL.out]; omega))
                rw [HT.out]
                clear HT HRow
                generalize used M = u at *
                by_cases hov : k < u
                · have HPP := hid (show pr = (52, r) from by rw [HPR.out, if_pos hov])
                  have q5 : (k : Int) < (u : Int) := by omega
                  clear hov HU hML hml hwl
                  go_wp2_with fail
                  go_ret
                  rw [HPP.out]
                  exact ⟨rfl, AfterR.of_below HI.out HBW.out⟩
                · have HPP := hid (show pr = if cc = true then (53, r1) else (0, { r1 with writes := r1.writes ++ [⟨n, d, false⟩] }) from by rw [HPR.out, if_neg hov])
                  have q5 : ¬ ((k : Int) < (u : Int)) := by omega
                  clear hov HU hML hml
                  have HR := HRC.out _ HBW.out
                  go_wp2_with fail
                  refine HR.mono ?_
                  clear HR HRC
                  rintro x w2 ⟨rfl, ha⟩
                  have HA := hid (AfterR.front HBW.out ha)
                  obtain ⟨S1, hi1, hs1, ho1⟩ := ha
                  cases cc with
                  | true =>
                    clear hi1 hs1 ho1
                    go_wp2_with fail
                    go_ret
                    rw [HPP.out]; exact ⟨rfl, HA.out⟩
                  | false =>
                    clear HA
                    have HO1 := hid (show Only S w w2 from (Only.of_below HBW.out).trans ho1 fun _ h => .inl h)
                    have HS1 := hid (show ∀ i, S1 i → S i ∨ w.heap.size ≤ i from fun i hi => (hs1 i hi).imp id fun h => Nat.le_trans HBW.out.size h)
                    have hbx : Has w2.drew w.heap.size #[.string n, .string d] 35 := (ho1.has HBX.out fun hS => by have := HS7.out _ hS; omega)
                    obtain ⟨gv, wv, hst, hgd, hwr, h4, h5, h6, h7⟩ := hi1
                    clear hs1 ho1 HBX
                    go_wp2_with fail
                    refine Tl.wp_mix_lit (by kernel_rfl) 11 [83, 84, 85, 86, 87, 88, 89, 90, 91, 92, 93] 94 rfl (by kernel_rfl) (AppR w2.drew wv r1.writes.length (r1.writes.flatMap rcells)) (pwF b wv ⟨n, d, false⟩ r1.writes.length (r1.writes.flatMap rcells) w2.heap.size) ⟨Only.refl _ _, hwr⟩
                      ⟨fun a' W' hC hF => ?_, fun a' W' hC hF => ?_, fun a' W' hC hF => ?_, fun a' W' hC hF => ?_, fun a' W' hC hF => ?_, fun a' W' hC hF => ?_, fun a' W' hC hF => ?_, fun a' W' hC hF => ?_, fun a' W' hC hF => ?_, fun a' W' hC hF => ?_, fun a' W' hC hF => ?_, trivial⟩ ?_
                    · exact Tl.sm_v 83 _ rfl (Tl.wanted_none rfl) hC rfl (rn_move rfl ((hF 0 (by decide +kernel)).2 (by decide)))
                    · exact Tl.sm_v 84 _ rfl (Tl.wanted_none rfl) hC rfl (rn_move rfl ((hF 0 (by decide +kernel)).2 (by decide)))
                    · exact Tl.sm_v 85 _ rfl (Tl.wanted_none rfl) hC rfl (rn_nilCheck rfl ((hF 84 (by decide +kernel)).1 (by decide)))
                    · exact Tl.sm_v 86 _ rfl (Tl.wanted_none rfl) hC rfl (rn_f79_1 rfl ((hF 85 (by decide +kernel)).1 (by decide)))
                    · exact Tl.sm_v 87 _ rfl (Tl.wanted_none rfl) hC rfl (rn_load77 rfl ((hF 86 (by decide +kernel)).1 (by decide)) ((hC.has hst (row_ne hwr hst (by decide))).cell 1))
                    · exact Tl.sm_v 88 _ rfl (Tl.wanted_none rfl) hC rfl (rn_load28 rfl ((hF 3 (by decide +kernel)).2 (by decide)) ((hC.has hbx (row_ne hwr hbx (by decide))).cell 0) ((hC.has hbx (row_ne hwr hbx (by decide))).cell 1))
                    · exact Tl.sm_v 89 _ rfl (Tl.wanted_none rfl) hC rfl (rn_build90 rfl ((hF 88 (by decide +kernel)).1 (by decide)))
                    · refine Tl.sm_w _ (Tl.wanted_none rfl) (rn_bs77 rfl ((hF 89 (by decide +kernel)).1 (by decide))) (hC.alloc _) (fun d v _ hf => pwF_below hf (boxed _ _)) fun d hd => ?_
                      cases hd
                      exact ⟨W'.heap.size, rfl, hC.1.size, Has.new _ _ _ _ rfl⟩
                    · obtain ⟨ga, e90, hga, hHas⟩ : ∃ g, a'.tmps.getD 90 undef = .slice (some ⟨g, 0, none⟩) 1 1 ∧ w2.heap.size ≤ g ∧ Has W' g (rcells ⟨n, d, false⟩).toArray 117 := (hF 90 (by decide +kernel)).1 (by decide)
                      obtain ⟨gb, cap, w'', r1', r2, r3, r4, r5⟩ := run_app2 el90 W' 102 0 wv _ _ hC.2 ⟨ga, 0, none⟩ 1 1 (rcells ⟨n, d, false⟩) (by decide) rfl (has_add hHas) (rcells_one _) (by omega) (Nat.zero_le _)
                      refine Tl.sm_w _ (Tl.wanted_none rfl) (rn_app77 rfl ((hF 87 (by decide +kernel)).1 (by decide)) e90 r1') ⟨hC.1.trans (Only.of_grown (S := fun i => wv.ownBlock = some i) r3 (fun k h => h)) (fun _ h => .inl h), r4⟩ (fun i v hi hf => pwF_app hf (fun e => hi (by rw [e])) r3 (fun g hg => (hwr.lt g hg).2)) fun d hd => ?_
                      cases hd
                      exact ⟨gb, cap, rfl, r2, r5.imp id (Nat.le_trans hC.1.size)⟩
                    · exact Tl.sm_v 92 _ rfl (Tl.wanted_none rfl) hC rfl (rn_nilCheck rfl ((hF 83 (by decide +kernel)).1 (by decide)))
                    · exact Tl.sm_v 93 _ rfl (Tl.wanted_none rfl) hC rfl (rn_f79_1 rfl ((hF 92 (by decide +kernel)).1 (by decide)))
                    intro v w4 hw4 hv
                    obtain ⟨g, cap, v91, hr91, hg91⟩ : ∃ g cap, v 91 = .slice (some ⟨g, 0, none⟩) (r1.writes.length + 1) cap ∧ w4.ownsRow 0 117 3 (.slice (some ⟨g, 0, none⟩) (r1.writes.length + 1) cap) (r1.writes.length + 1) (r1.writes.flatMap rcells ++ rcells ⟨n, d, false⟩) ∧ (wv.ownBlock = some g ∨ w2.heap.size ≤ g) := hv 91 (by decide)
                    have v93 : v 93 = .pointer (some ⟨b, 1, none⟩) := hv 93 (by decide)
                    have hA4 := hid (AfterR.trans HS1.out HO1.out.drew (rf_writes (w := w2.drew) (S := S1) (q := ⟨n, d, false⟩) hst hgd hwr h4 h5 h6 h7 hw4.1 hr91 (fun g' hg' => by simp [Value.ownBlock] at hg'; subst hg'; exact hg91)))
                    have hst4 := hw4.has hst (row_ne hwr hst (by decide))
                    have y1 := hst4.cell 1
                    have y2 := hst4.frozen 1
                    clear hv hw4 hst hgd hwr h4 h5 h6 h7 hbx hst4 hr91 hg91
                    simp only [Tl.fill, List.drop_succ_cons, List.drop_zero]
                    simp only [Act.put, List.setIfInBounds_toArray, List.set_cons_succ, List.set_cons_zero, v91, v93]
                    clear v91 v93
                    go_wp2_with fail
                    go_ret
                    rw [HPP.out]; exact ⟨rfl, hA4.out⟩
              | succ g1 =>
                have q4 : (j : Int) < (L : Int) := by omega
                obtain ⟨p, hp⟩ : ∃ p, M[j]? = some p := ⟨_, List.getElem?_eq_getElem (by rw [HL.out]; omega)⟩
                obtain ⟨ga, ca, ea, d0, d1⟩ := ob_cells (by rw [HL.out]; exact HRow.out) hp
                rw [HL.out] at ea
                cases ea
                have HS := hid (used_succ hp)
                have hle := used_take_le M (j + 1)
                have f0 : (p.1.toList == [109, 48]) = decide (p.1 = m0) := by have := str_eq p.1 m0; rw [Lib.toList_data m0] at this; exact this
                have f1 : (p.1.toList == [109, 49]) = decide (p.1 = m1) := by have := str_eq p.1 m1; rw [Lib.toList_data m1] at this; exact this
                have hu := HU.out
                rw [HS.out] at hle
                clear hp k4 e0 e1 q0 q1 q2 q3
                by_cases hm0 : p.1 = m0
                · rw [decide_eq_true hm0] at f0
                  have hw0 : wt p = 0 := by unfold wt isMan; rw [decide_eq_true hm0]; rfl
                  have HS' := hid (show used (M.take (j + 1)) = used (M.take j) from by rw [HS.out, hw0]; rfl)
                  clear hm0 hw0 hle hu f1
                  generalize used (M.take j) = u at *
                  go_wp2_with fail
                  go_roundg g1
                  case measure => omega
                  case rel => exact ⟨j + 1, by omega, by first | rfl | simp, by rw [HS'.out], rfl⟩
                · rw [decide_eq_false hm0] at f0
                  by_cases hm1 : p.1 = m1
                  · rw [decide_eq_true hm1] at f1
                    have hw0 : wt p = 0 := by unfold wt isMan; rw [decide_eq_true hm1]; simp
                    have HS' := hid (show used (M.take (j + 1)) = used (M.take j) from by rw [HS.out, hw0]; rfl)
                    clear hm0 hm1 hw0 hle hu
                    generalize used (M.take j) = u at *
                    go_wp2_with fail
                    go_roundg g1
                    case measure => omega
                    case rel => exact ⟨j + 1, by omega, by first | rfl | simp, by rw [HS'.out], rfl⟩
                  · rw [decide_eq_false hm1] at f1
                    have hw0 : wt p = p.2.size := by unfold wt isMan; rw [decide_eq_false hm0, decide_eq_false hm1]; rfl
                    rw [hw0] at hle
                    have HS' := hid (show used (M.take (j + 1)) = used (M.take j) + p.2.size from by rw [HS.out, hw0])
                    clear hm0 hm1 hw0
                    generalize used (M.take j) = u at *
                    have hwr : IntKind.i64.wrap ((u : Int) + (p.2.size : Int)) = ((u + p.2.size : Nat) : Int) := wrapN (by omega)
                    clear hle hu
                    go_wp2_with fail
                    go_roundg g1
                    case measure => omega
                    case rel => exact ⟨j + 1, by omega, by first | rfl | simp, by rw [HS'.out]; simp, rfl⟩
end Go.Proofs.YtgdiaflikfdnaaaGreat
