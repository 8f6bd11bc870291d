/- The document's Turn. -/
import Derived.Test.YtfbjpgcgdhhfnaaRCalls
namespace Go.Proofs.Ytfbjpgcgdhhfnaa
open Go.RowKit
/-- noughts behind a row: its value written out -/
theorem wpList_appZF {ops : Array Oper} {rest : List Oper} {o : Oper} {a : Act} {w : World} {Q : Exit → Act → World → Prop} (hgd : o.guard = none) (s x : Operand)
    (ho : o.op = .call { callee := .builtin .append, args := #[s, x], argTypes := #[31, 3] }) (base : Nat) (v : Value) (l0 : List Nat) (k n : Nat) (hs : a.eval s = v) (hown : Owns 5 base v (U8s l0).toList w) (hx : a.eval x = .int .i64 (k : Int)) (hk : 0 < k)
    (hn : l0.length + k = n) (h63 : n ≤ 1000000) (hbase : base ≤ w.heap.size)
    (h : ∀ g cap w', Owns 5 base (.slice (some ⟨g, 0, none⟩) n cap) (U8s (l0 ++ List.replicate k 0)).toList w' → base ≤ g → Below base w w' → wpList Try.prog ops Q rest (a.put o.dst (.slice (some ⟨g, 0, none⟩) n cap)) w') : wpList Try.prog ops Q (o :: rest) a w := by
  obtain ⟨v', w', h1, h2, h5⟩ := app_zeros w o.type base v l0 k hown (by omega) hk hbase
  have hlen : (l0 ++ List.replicate k 0).length = n := by simp; omega
  obtain ⟨g, cap, rfl, c1, c2, _⟩ := h2.cut (by rw [hlen]; omega)
  rw [hlen] at h1 h2
  have hg := (h2.base_le g rfl).1
  exact wpList_appRun hgd s x 31 3 ho (by rw [hs, hx]; exact h1) (h g cap w' h2 hg h5)
/-- one number of a row that was made so is written -/
theorem Owns.put {base g n cap : Nat} {l : List Nat} {w : World} (h : Owns 5 base (.slice (some ⟨g, 0, none⟩) n cap) (U8s l).toList w) (j x : Nat) (hj : j < l.length) : (∃ y, w.cell? ⟨g, j, none⟩ = some y) ∧ w.frozen? ⟨g, j, none⟩ = false ∧ Owns 5 base (.slice (some ⟨g, 0, none⟩) n cap) (U8s (l.set j x)).toList (w.setCell ⟨g, j, none⟩ (.int .u8 (x : Int))) := by
  obtain ⟨h1, h2⟩ := h
  rw [U8s_toList_length] at h1 h2
  rcases h2 with ⟨h0, _⟩ | ⟨g', cap', cur, hv, hg, hh, k1, k2, k3, k4⟩
  · cases h0
  · simp only [Value.slice.injEq, Option.some.injEq, Addr.mk.injEq] at hv
    obtain ⟨⟨rfl, _⟩, rfl, rfl⟩ := hv
    have hH : Has w g cur 5 := hh
    have hjc : j < cur.size := by omega
    refine ⟨⟨cur[j], by rw [hH.cell]; simp [hjc]⟩, hH.frozen j, by simp, .inr ⟨g, cap, cur.setIfInBounds j (.int .u8 (x : Int)), by rw [U8s_toList_length, List.length_set], hg, hH.set j _, by rw [U8s_toList_length, List.length_set]; exact k1, k2, by simpa using k3, ?_⟩⟩
    rw [U8s_toList_length, List.length_set, Array.toList_setIfInBounds, Nat.mul_one, List.take_set]
    rw [Nat.mul_one] at k4
    rw [k4, ← Array.toList_setIfInBounds, U8s_set]
theorem row_wide (n i : Nat) (l : List Nat) (hl : l.length = n) (hi : i < n) : ∀ j, j < n + n → ((l ++ List.replicate n 0).set (n + i) 1).getD j 0 = if j < n then l.getD j 0 else if j = n + i then 1 else 0 := fun j hj => by
  rw [List.getD_eq_getElem?_getD, List.getElem?_set]
  by_cases h1 : n + i = j
  · subst h1
    rw [if_pos rfl, if_pos (by simp; omega), if_neg (by omega), if_pos rfl]; rfl
  · rw [if_neg h1, ← List.getD_eq_getElem?_getD]
    by_cases h2 : j < n
    · rw [if_pos h2, getD_left _ _ _ _ (by omega)]
    · rw [if_neg h2, if_neg (by omega), getD_right _ _ _ _ (by omega), List.getD_eq_getElem?_getD]
      rw [List.getElem?_replicate, if_pos (by omega)]; rfl
theorem row_wide_lt (n i : Nat) (l : List Nat) (hl : ∀ x ∈ l, x < 256) : ∀ x ∈ (l ++ List.replicate n 0).set (n + i) 1, x < 256 := fun x hx => by
  rcases List.mem_or_eq_of_mem_set hx with hx | rfl
  · rcases List.mem_append.1 hx with hx | hx
    · exact hl x hx
    · rw [List.eq_of_mem_replicate hx]; decide
  · decide
/-- what is stepped down beside the one -/
theorem steps_wide (n : Nat) (m : El.M) (hb : El.Byt m) (hr : El.rank n n m = n) (f : El.M) (hf : ∀ i, i < n → ∀ j, j < n + n → f i j = El.wide n m i j) : ∀ i, i < n → ∀ j, j < n + n → (El.steps n f (n + n)).1 i j = (El.steps n (El.wide n m) n).1 i j := fun i hi j hj => by
  have a := (El.steps_agree (R := n) (n := n + n) (J := fun j => j < n + n) (s := id) (fun j hj => ⟨hj, rfl⟩) (El.byt_wide n hb) (fun i hi j hj => hf i hi j hj) (n + n) (Nat.le_refl _)).2
  have e := El.steps_stop n (El.wide n m) n (by rw [El.rank_wide n m hb]; exact hr) n
  have h1 := a i hi j hj
  rw [e] at h1
  exact h1
set_option maxRecDepth 20000 in
set_option maxHeartbeats 2000000 in
theorem refTurn_any (v : Value) (m : List (List Nat)) (w : World) (h : Mat w v m) :
    Calls Try.prog 29 #[v] w fun e w' => ∃ r, e = .returned (.tuple #[r, .int .i64 (errT m)]) ∧ Mat w' r (ansT m) ∧ Below w.heap.size w w' := by
  have hM := h
  cases hm : mayM m with
  | false =>
    have e1 : Hid (errT m = 4 ∧ ansT m = []) := by unfold Hid errT ansT okT sqM; rw [hm]; exact ⟨rfl, rfl⟩
    go_enter Try.func29, Try.ntmps29
    go_wp2_with fail
    refine (refMay_any v m w h).mono ?_
    rintro e w1 ⟨rfl, b1⟩
    rw [hm]
    go_wp2_with fail
    go_ret2
    exact ⟨_, by rw [e1.out.1]; rfl, by rw [e1.out.2]; exact Mat.nil _, b1⟩
  | true =>
    obtain ⟨f1, f2, f3, f4, f5⟩ := mayM_facts hm
    obtain ⟨g, o, cap, rfl, hg, ⟨a0, c0, k0⟩, hrows⟩ := h.first hm
    have HRows := hid hrows
    have hby := h.byt
    have HX : Hid (∀ i x, x ∈ m.getD i [] → x < 256) := h.rows
    have HF : Hid (∀ i j, at2 m i j = (m.getD i []).getD j 0) := fun _ _ => rfl
    by_cases hsq : m.length = (m.getD 0 []).length
    · have hs : sqM m = true := by unfold sqM; rw [hm, decide_eq_true hsq]; rfl
      have hak : ansK m = rankM m := by unfold ansK rankM stepsM El.rank; rw [hm, if_pos rfl, ← hsq]
      have F5 : Hid (∀ j, j < m.length → (m.getD j []).length = m.length) := fun j hj => (f5 j hj).trans hsq.symm
      rw [← hsq] at k0
      have hle : rankM m ≤ m.length := rank_le _ _ hby
      have HRM : Hid (rankM m = El.rank m.length m.length (at2 m)) := rfl
      clear hrows f5 f3 f4 hsq
      have hrr : Hid (∀ W, Below w.heap.size w W → _) := fun W hb => refRank_any _ m W (hM.below hb)
      have hmr : Hid (∀ W, Below w.heap.size w W → _) := fun W hb => refMay_any _ m W (hM.below hb)
      have e1 : Hid (errT m = (if rankM m = m.length then 0 else 5) ∧ ansT m = if rankM m = m.length then rowsOf m.length (fun _ => m.length) (El.inve m.length (at2 m)) else []) := by
        unfold Hid errT ansT okT; rw [hs, if_pos rfl]
        refine ⟨rfl, ?_⟩
        by_cases hq : rankM m = m.length
        · rw [if_pos hq, decide_eq_true hq]; rfl
        · rw [if_neg hq, decide_eq_false hq]; rfl
      generalize hn : m.length = n at *
      have b0 : (0 : Int) < (n : Int) := by omega
      have en : ((n : Int) != (n : Int)) = false := by simp
      go_enter Try.func29, Try.ntmps29
      go_wp2_with fail
      refine (hmr.out w (Below.refl _ _)).mono ?_
      rintro e w1 ⟨rfl, b1⟩
      rw [hm]
      have k0' := cell_below b1 hg k0
      go_wp2_with fail
      refine (hrr.out w1 b1).mono ?_
      rintro e w2 ⟨rfl, b2⟩
      rw [hak]
      have B2 := belowCall b1 b2
      clear b1 b2 k0' hrr hmr
      by_cases hrk : rankM m = n
      · have er : ¬ rankM m < n := by omega
        have HE := e1.out
        rw [if_pos hrk, if_pos hrk] at HE
        have HE' := hid HE
        have HRK : Hid (El.rank n n (at2 m) = n) := by unfold Hid; rw [← HRM.out]; exact hrk
        clear e1 HE hrk
        generalize rankM m = rk at *
        go_wp2_with fail
        generalize hbs : w.heap.size = base at *
        go_loopw [6, 7] (fun vo vi wr => ∃ k : Nat, k ≤ n ∧ vi = .int .i64 (k : Int) ∧ Hid (OW base vo k (fun _ => n + n) (El.wide n (at2 m)) wr) ∧ Below base w wr) (fun _ vi _ => n - (intOf vi).toNat)
        case atStart => exact ⟨0, by omega, rfl, OW.nil _ _ _ _, B2⟩
        case round =>
          obtain ⟨k, hk, rfl, hO, hb⟩ := hrel
          clear B2
          by_cases hlt : k < n
          · obtain ⟨r, c, hr⟩ := HRows.out k hlt
            have c1 := cell_below hb hg c
            have hr1 : Hid (∀ ob, Row8 (wr.alloc ob) r (m.getD k [])) := fun ob => (hr.below (by rw [hbs]; exact hb)).below ((Below.refl _ _).alloc (Nat.le_refl _) _)
            have hxk := hid (HX.out k)
            have hnl := F5.out k hlt
            have hFk := hid (HF.out k)
            have c1' : ∀ ob, (wr.alloc ob).cell? ⟨g, o + k, none⟩ = some r := fun ob => cell_below ((Below.refl _ _).alloc (Nat.le_refl _) _) (Nat.lt_of_lt_of_le hg (by rw [← hbs]; exact hb.size)) c1
            have d0 : (k : Int) < (n : Int) := by omega
            have hsz : base ≤ wr.heap.size := by rw [← hbs]; exact hb.size
            clear c hr c1
            generalize m.getD k [] = lk at *
            have d1 : (n : Int) + (k : Int) < (n : Int) + (n : Int) := by omega
            have hlt2 : k < n := hlt
            have HWR := hid (row_wide n k lk hnl hlt)
            have HWL := hid (row_wide_lt n k lk hxk.out)
            have hlw : ((lk ++ List.replicate n 0).set (n + k) 1).length = n + n := by simp; omega
            have HLW := hid hlw
            have HWd : Hid (∀ j, j < n + n → El.wide n (at2 m) k j = ((lk ++ List.replicate n 0).set (n + k) 1).getD j 0) := fun j hj => by
              rw [HWR.out j hj]; unfold El.wide; rw [hFk.out]
            clear hlw HWR
            go_wp2_with (first
              | (refine wpList_appF rfl (.tmp 38) (.tmp 42) rfl wr.heap.size _ _ lk n rfl (by exact Owns.fresh wr (Nat.le_refl _)) rfl (by exact hr1.out _) hnl (by omega) (by simp) ?_; intro ax cx w2 ho2 hb2; have hB2 : Below wr.heap.size wr w2 := ((Below.refl _ _).alloc (Nat.le_refl _) _).trans hb2)
              | (refine wpList_appZF rfl (.tmp 43) (.tmp 45) rfl wr.heap.size _ lk n (n + n) rfl (by exact ho2) rfl (by omega) (by omega) (by omega) (by exact hB2.size) ?_; intro g3 cap3 w3 ho3 hg3 hb3; have hB3 := hB2.trans hb3; obtain ⟨⟨y3, f1⟩, f2, f3⟩ := ho3.put (n + k) 1 (by simp; omega); have F3 := hid f3; have hB4 := hB3.setCell (p := ⟨g3, n + k, none⟩) hg3 (.int .u8 ((1 : Nat) : Int)); rw [show (((1 : Nat)) : Int) = 1 from rfl] at F3 hB4; have hB5 := hB4.alloc hB4.size (.cells #[.slice (some ⟨g3, 0, none⟩) (n + n) cap3] 31); clear f3)
              | (refine wpList_push (w0 := wr) rfl (.tmp 53) (.tmp 55) rfl base _ k (fun _ => n + n) (El.wide n (at2 m)) rfl hO.out hB5 hsz _ ((lk ++ List.replicate n 0).set (n + k) 1) (by exact F3.out.alloc _) HWL.out (by rw [HLW.out]; omega) HLW.out.symm (fun j hj => HWd.out j (by rw [← HLW.out]; exact hj)) (by omega) _ 1 rfl (by exact Has.new _ _ _ _ (by simp [World.setCell])) ?_; intro v2 w6 hO6 hb6))
            exact ⟨⟨k + 1, by omega, rfl, hO6, (hb.trans (hB5.mono hsz)).trans hb6⟩, by simp [intOf]; omega⟩
          · obtain rfl : k = n := by omega
            have hnm := hid (hO.out.newM (by omega)).mat
            obtain ⟨T0, capT, hvo, _, _⟩ := hO.out.mw (by omega)
            obtain ⟨mw, hmw⟩ : ∃ mw, Hid (mw = rowsOf k (fun _ => k + k) (El.wide k (at2 m))) := ⟨_, rfl⟩
            rw [← hmw.out] at hnm
            have hml : mw.length = k := by rw [hmw.out]; exact rowsOf_length _ _ _
            have hmr : ∀ i, i < k → (mw.getD i []).length = k + k := fun i hi => by rw [hmw.out, rowsOf_row _ _ _ _ hi]; simp
            have hma : ∀ i, i < k → ∀ j, j < k + k → at2 mw i j = El.wide k (at2 m) i j := fun i hi j hj => by
              show (mw.getD i []).getD j 0 = _
              rw [hmw.out, rowsOf_row _ _ _ _ hi, range_getD _ _ _ hj]
            have hST := steps_wide k (at2 m) hby HRK.out (at2 mw) hma
            have hdn := hid (refDown_any _ mw k (k + k) wr hnm.out hml (by omega) (by omega) (by omega) (by omega) hmr)
            clear hO hnm hml hmr hma
            subst hvo
            go_wp2_with fail
            refine hdn.out.mono ?_
            rintro e w4 ⟨T, cap4, rfl, hc4, hM4, b4⟩
            obtain ⟨S, hS⟩ : ∃ S, Hid (S = (El.steps k (El.wide k (at2 m)) k).1) := ⟨_, rfl⟩
            have HM4 : Hid (MW wr.heap.size w4.heap.size T k (fun _ => k + k) S w4) := hM4.congr (fun _ _ => rfl) (fun i hi j hj => by rw [hS.out]; exact (hST i hi j hj).symm)
            have HIn : Hid (∀ i j, El.inve k (at2 m) i j = S i (k + j)) := fun i j => by rw [hS.out]; rfl
            have HBt : Hid (El.Byt S) := by unfold Hid; rw [hS.out]; exact El.byt_steps (El.byt_wide k hby) k
            have B4 : Below base w w4 := hb.trans (b4.mono (by rw [← hbs]; exact hb.size))
            clear hM4 hST hdn b4
            go_wp2_with fail
            generalize hbs4 : w4.heap.size = base4 at *
            go_loopw [9, 10] (fun vo vi W => ∃ q : Nat, q ≤ k ∧ vi = .int .i64 (q : Int) ∧ Hid (OW base4 vo q (fun _ => k) (El.inve k (at2 m)) W) ∧ Below base4 w4 W) (fun _ vi _ => k - (intOf vi).toNat)
            case atStart => exact ⟨0, by omega, rfl, OW.nil _ _ _ _, by rw [← hbs4]; exact Below.refl _ _⟩
            case round =>
              obtain ⟨q, hq, rfl, hO4, hb4⟩ := hrel
              by_cases hql : q < k
              · have hMW := HM4.out.below (by rw [hbs4]; exact hb4)
                obtain ⟨g3, cp3, r1, r2, r3, r4, r5, r6, _⟩ := hMW.row q hql (by omega)
                obtain ⟨rc1, rc2⟩ := hMW.cap q hql r1
                obtain ⟨lq, hlq⟩ : ∃ lq, Hid (lq = (List.range k).map fun x => S q (k + x)) := ⟨_, rfl⟩
                have hrow : Hid (∀ ob, Row8 (wr.alloc ob) (.slice (some ⟨g3, k, none⟩) k (cp3 - k)) lq) := fun ob => by
                  rw [hlq.out]
                  refine Row8.below (w := wr) ⟨some ⟨g3, k, none⟩, cp3 - k, by simp, by simp; omega, fun x hx => ?_, fun _ => ⟨g3, k, rfl, rowW_lt r5 (by omega), fun x hx => ?_⟩⟩ ((Below.refl _ _).alloc (Nat.le_refl _) _)
                  · simp only [List.mem_map, List.mem_range] at hx
                    obtain ⟨y, hy, rfl⟩ := hx
                    exact HBt.out _ _
                  · simp only [List.length_map, List.length_range] at hx
                    rw [range_getD _ _ _ hx]; exact (r5 (k + x) (by omega)).1
                have hnlq : lq.length = k := by rw [hlq.out]; simp
                have hxq : Hid (∀ x ∈ lq, x < 256) := fun x hx => by
                  rw [hlq.out] at hx
                  simp only [List.mem_map, List.mem_range] at hx
                  obtain ⟨y, hy, rfl⟩ := hx
                  exact HBt.out _ _
                have hFq : Hid (∀ j, j < lq.length → El.inve k (at2 m) q j = lq.getD j 0) := fun j hj => by
                  rw [HIn.out, hlq.out, range_getD _ _ _ (by omega)]
                have r1' : ∀ ob, (wr.alloc ob).cell? ⟨T, q, none⟩ = some (.slice (some ⟨g3, 0, none⟩) (k + k) cp3) := fun ob => cell_below ((Below.refl _ _).alloc (Nat.le_refl _) _) (World.block_lt_of_cell? (h := r1)) r1
                have d0 : (q : Int) < (k : Int) := by omega
                have ee : k + k - k = k := by omega
                have hsz : base4 ≤ wr.heap.size := by rw [← hbs4]; exact hb4.size
                have d2 : (k : Int) ≤ (k : Int) + (k : Int) := by omega
                have d3 : (k : Int) + (k : Int) ≤ (cp3 : Int) := by omega
                clear r5 r1 hMW HM4
                go_wp2_with (first
                  | (refine wpList_appF rfl (.tmp 69) (.tmp 76) rfl wr.heap.size _ _ lq k rfl (by exact Owns.fresh wr (Nat.le_refl _)) rfl (by exact hrow.out _) hnlq (by omega) (by simp) ?_; intro ax cx w5 ho5 hb5; have hB5 : Below wr.heap.size wr w5 := ((Below.refl _ _).alloc (Nat.le_refl _) _).trans hb5; have hB6 : Below wr.heap.size wr (w5.alloc (.cells #[.slice ax k cx] 31)) := hB5.alloc hB5.size _)
                  | (refine wpList_push (w0 := wr) rfl (.tmp 68) (.tmp 78) rfl base4 _ q (fun _ => k) (El.inve k (at2 m)) rfl hO4.out hB6 hsz _ lq (by exact ho5.alloc _) hxq.out (by omega) hnlq.symm hFq.out (by omega) w5.heap.size 1 rfl (by exact Has.new _ _ _ _ rfl) ?_; intro v6 w7 hO7 hb7))
                exact ⟨⟨q + 1, by omega, rfl, hO7, (hb4.trans (hB6.mono hsz)).trans hb7⟩, by simp [intOf]; omega⟩
              · obtain rfl : q = k := by omega
                have HMf := hid (hO4.out.newM (by omega)).mat
                clear hO4 HM4
                go_wp2_with fail
                go_ret2
                exact ⟨_, by rw [HE'.out.1]; rfl, by rw [HE'.out.2]; exact HMf.out, by rw [hbs]; exact B4.trans (hb4.mono (by rw [← hbs4, ← hbs]; exact B4.size))⟩
      · have er : rankM m < n := by omega
        have HE := e1.out
        rw [if_neg hrk, if_neg hrk] at HE
        have HE' := hid HE
        clear e1 HE hrk
        generalize rankM m = rk at *
        go_wp2_with fail
        go_ret2
        exact ⟨_, by rw [HE'.out.1]; rfl, by rw [HE'.out.2]; exact Mat.nil _, B2⟩
    · have hs : sqM m = false := by unfold sqM; rw [hm, decide_eq_false hsq]; rfl
      have e1 : Hid (errT m = 4 ∧ ansT m = []) := by unfold Hid errT ansT okT; rw [hs]; exact ⟨rfl, rfl⟩
      clear f5 hrows
      generalize (m.getD 0 []).length = n0 at *
      have hmr : Hid (∀ W, Below w.heap.size w W → _) := fun W hb => refMay_any _ m W (hM.below hb)
      generalize hn : m.length = n at *
      have b0 : (0 : Int) < (n : Int) := by omega
      have en : ((n : Int) != (n0 : Int)) = true := by simp; omega
      go_enter Try.func29, Try.ntmps29
      go_wp2_with fail
      refine (hmr.out w (Below.refl _ _)).mono ?_
      rintro e w1 ⟨rfl, b1⟩
      rw [hm]
      have k0' := cell_below b1 hg k0
      go_wp2_with fail
      go_ret2
      exact ⟨_, by rw [e1.out.1]; rfl, by rw [e1.out.2]; exact Mat.nil _, b1⟩
end Go.Proofs.Ytfbjpgcgdhhfnaa
