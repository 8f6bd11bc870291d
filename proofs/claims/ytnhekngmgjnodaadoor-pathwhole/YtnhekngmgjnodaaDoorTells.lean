/- The walk of PathTells. -/
import Derived.Test.YtnhekngmgjnodaaDoorAwake
import Derived.Below
namespace Go.Proofs.YtnhekngmgjnodaaDoor
open Go.RowKit
open Pa
set_option linter.unusedVariables false
/-- the first i are written over -/
def spx (u : Value) (xs : List Value) (i : Nat) : List Value := List.replicate i u ++ xs.drop i
theorem spx_zero (u : Value) (xs : List Value) : spx u xs 0 = xs := by unfold spx; simp
theorem spx_set (u : Value) (xs : List Value) (i : Nat) (h : i < xs.length) : (spx u xs i).set i u = spx u xs (i + 1) := by
  unfold spx
  rw [List.set_append_right _ _ (by simp)]
  rw [List.length_replicate, Nat.sub_self, List.drop_eq_getElem_cons h, List.set_cons_zero, List.replicate_succ']
  simp
theorem spx_get (u : Value) (xs : List Value) (i : Nat) (h : i < xs.length) : (spx u xs i)[i]? = xs[i]? := by
  unfold spx
  rw [List.getElem?_append_right (by simp), List.length_replicate, Nat.sub_self, List.getElem?_drop]; simp
theorem own_draws {w : World} {lo n : Nat} {e : TypeId} {m : Nat} {v : Value} {xs : List Value} (h : w.ownsRow lo e m v n xs) (k : Nat) : (w.drewN k).ownsRow lo e m v n xs := own_below h (below_draws (Below.refl _ _) k) (Nat.le_refl _)
/-- a row of the call's own: where its i-th cell is, and that it can be written over -/
theorem own_cell {w : World} {lo n c : Nat} {e : TypeId} {A : Option Addr} {xs : List Value} (h : w.ownsRow lo e 1 (.slice A n c) n xs) {i : Nat} (hi : i < n) : ∃ g, A = some ⟨g, 0, none⟩ ∧ lo ≤ g ∧ g < w.heap.size ∧ w.cell? ⟨g, i, none⟩ = xs[i]? ∧ w.frozen? ⟨g, i, none⟩ = false ∧ ∀ u, (w.setCell ⟨g, i, none⟩ u).ownsRow lo e 1 (.slice A n c) n (xs.set i u) := by
  obtain ⟨A', c', hv, hnc, hl, hf⟩ := row_form h
  obtain ⟨rfl, rfl⟩ : A = A' ∧ c = c' := by simpa using hv
  obtain ⟨g, rfl, hg, hgs, hc⟩ := hf i hi
  exact ⟨g, rfl, hg, hgs, hc, h.frozenAt i, fun u => (h.stored i u).1⟩
def spoilt : ByteArray := ⟨#[115, 112, 111, 105, 108, 116]⟩
theorem strv_get (L : List ByteArray) {i : Nat} (h : i < L.length) : (L.map Value.string)[i]? = some (.string (L.getD i ⟨#[]⟩)) := by
  rw [List.getElem?_map, get_of ⟨#[]⟩ h]; rfl
theorem intv_get (L : List Nat) {i : Nat} (h : i < L.length) : (L.map nI)[i]? = some (.int .i64 ((L.getD i 0 : Nat) : Int)) := by
  rw [List.getElem?_map, get_of 0 h]; rfl
set_option maxRecDepth 20000 in
set_option maxHeartbeats 16000000 in
theorem tells_walk (s d : ByteArray) (l m : List Fl) (A B : Option Addr) (ca cb : Nat) (hn : l.length ≤ 4611686018427387903) (hm : m.length ≤ 4611686018427387903)
    (hzl : ∀ x ∈ l, x.path.size ≤ 4611686018427387903 ∧ x.data.size ≤ 4611686018427387903) (hzm : ∀ x ∈ m, x.path.size ≤ 4611686018427387903 ∧ x.data.size ≤ 4611686018427387903) (w : World) (hl : Fs w A l) (hmm : Fs w B m) :
    Calls Tryd.prog 3 #[.string s, .slice A l.length ca, .slice B m.length cb, .string d] w fun e w' => e = .returned (.bool true) ∧ Below w.heap.size w w' := by
  have HL := hid hl
  have HM := hid hmm
  have CL := hid (fun (W : World) (hW : Below w.heap.size w W) => long_any l A ca hn hzl W (hl.below hW))
  have CM := hid (fun (W : World) (hW : Below w.heap.size w W) => long_any m B cb hm hzm W (hmm.below hW))
  obtain ⟨nl, hnl⟩ : ∃ x, x = l.length := ⟨_, rfl⟩
  obtain ⟨nm, hnm⟩ : ∃ x, x = m.length := ⟨_, rfl⟩
  have HNL := hid hnl
  have HNM := hid hnm
  rw [← hnl] at CL
  rw [← hnm] at CM
  rw [← hnl, ← hnm]
  clear hnl hnm hl hmm hzl hzm hn hm
  go_enter Tryd.func3, Tryd.ntmps3
  by_cases h1 : 400 < s.size
  · have i1 : (400 : Int) < (s.size : Int) := by omega
    go_wp2_with fail
    refine (awake_any w).mono ?_
    rintro e w1 ⟨rfl, b1⟩
    go_wp2_with fail
    go_ret
    exact ⟨rfl, b1⟩
  have i1 : ¬ (400 : Int) < (s.size : Int) := by omega
  by_cases h2 : 400 < d.size
  · have i2 : (400 : Int) < (d.size : Int) := by omega
    go_wp2_with fail
    refine (awake_any w).mono ?_
    rintro e w1 ⟨rfl, b1⟩
    go_wp2_with fail
    go_ret
    exact ⟨rfl, b1⟩
  have i2 : ¬ (400 : Int) < (d.size : Int) := by omega
  have HS1 : Hid (s.size ≤ 400) := hid (by omega)
  have HD1 : Hid (d.size ≤ 400) := hid (by omega)
  clear h1 h2
  go_wp2_with fail
  refine (CL.out w (Below.refl _ _)).mono ?_
  rintro e w1 ⟨rfl, b1⟩
  have B1 := hid b1
  clear b1
  cases hlg : longB l with
  | true =>
    go_wp2_with fail
    refine (awake_any w1).mono ?_
    rintro e w2 ⟨rfl, b2⟩
    have B2 := hid (B1.out.trans (b2.mono B1.out.size))
    clear b2
    go_wp2_with fail
    go_ret
    exact ⟨rfl, B2.out⟩
  | false =>
    have SL := hid (long_small hlg)
    clear hlg
    go_wp2_with fail
    refine (CM.out w1 B1.out).mono ?_
    rintro e w2 ⟨rfl, b2⟩
    have B2 := hid (B1.out.trans (b2.mono B1.out.size))
    clear b2 B1 CL CM
    cases hlg : longB m with
    | true =>
      go_wp2_with fail
      refine (awake_any w2).mono ?_
      rintro e w3 ⟨rfl, b3⟩
      have B3 := hid (B2.out.trans (b3.mono B2.out.size))
      clear b3
      go_wp2_with fail
      go_ret
      exact ⟨rfl, B3.out⟩
    | false =>
      have SM := hid (long_small hlg)
      clear hlg
      have CS := hid (fun W => steps_any s (by have := HS1.out; omega) W)
      have CR := hid (fun W => refSteps_any s (by have := HS1.out; omega) W)
      have CK := hid (fun (W : World) (hW : Below w.heap.size w W) => kids_any l A ca d SL.out W (HL.out.below hW))
      have CQ := hid (fun (W : World) (hW : Below w.heap.size w W) => refKids_any l A ca d SL.out W (HL.out.below hW))
      rw [← HNL.out] at CK CQ
      have HTL : Hid ((stepsB s).length ≤ 401) := hid (by
        by_cases h0 : s.size = 0
        · rw [stepsB_no h0]; simp
        · rw [stepsB_yes h0]; have := splB_len s; have := HS1.out; omega)
      have HKL : Hid ((kidsF l d).length ≤ 300) := hid (by have h1 := kidsK_len l d l.length; have h2 := SL.out.1; unfold kidsF; omega)
      generalize stepsB s = T at *
      generalize kidsF l d = K at *
      obtain ⟨nt, hnt⟩ : ∃ x, x = T.length := ⟨_, rfl⟩
      obtain ⟨nk, hnk⟩ : ∃ x, x = K.length := ⟨_, rfl⟩
      have HNT := hid hnt
      have HNK := hid hnk
      rw [← hnt] at CS CR HTL
      rw [← hnk] at CK CQ HKL
      clear hnt hnk
      go_wp2_with fail
      go_loopw [9, 10, 11, 12, 13, 14, 15] (fun v9 _ _ _ _ _ _ wr => ∃ r : Nat, r ≤ 2 ∧ v9 = .int .i64 (r : Int) ∧ Hid (Below w.heap.size w wr)) (fun v9 _ _ _ _ _ _ _ => 2 - (intOf v9).toNat)
      case atStart => exact ⟨0, by omega, rfl, B2⟩
      case round =>
        obtain ⟨r, hr, rfl, HB⟩ := hrel
        by_cases hlt : r < 2
        · have i1 : (r : Int) < 2 := by omega
          have i0 : (0 : Int) ≤ (r : Int) := by omega
          have wi : IntKind.i64.wrap ((r : Int) + 1) = ((r + 1 : Nat) : Int) := by rw [IntKind.wrap_i64]; omega
          go_wp2_with fail
          refine (CS.out wr).mono ?_
          rintro e wa ⟨v, rfl, ha, ba⟩
          obtain ⟨A1, k1, hv, _, _, _⟩ := row_form ha
          subst hv
          have RA := hid ha
          have BA := hid ba
          have AB : Hid (∀ g, A1 = some ⟨g, 0, none⟩ → g < wa.heap.size) := hid (fun g hg => (ha.lt g (by rw [hg]; rfl)).2)
          clear ha ba
          go_wp2_with fail
          refine (CR.out wa).mono ?_
          rintro e wb ⟨v, rfl, ha, ba⟩
          obtain ⟨A2, k2, hv, _, _, _⟩ := row_form ha
          subst hv
          have RA2 := hid (own_below RA.out ba (Nat.le_refl _))
          have RB := hid ha
          have BB := hid (HB.out.trans ((BA.out.mono HB.out.size).trans (ba.mono (Nat.le_trans HB.out.size BA.out.size))))
          have SB := hid ba.size
          have CK1 := CK.out wb BB.out
          clear ha ba RA
          go_wp2_with fail
          refine CK1.mono ?_
          rintro e wc ⟨v, rfl, ha, ba⟩
          obtain ⟨A3, k3, hv, _, _, _⟩ := row_form ha
          subst hv
          have RA3 := hid (own_below RA2.out ba (Nat.le_refl _))
          have RB3 := hid (own_below RB.out ba (Nat.le_refl _))
          have RC := hid ha
          have CBA : Hid (∀ g, A3 = some ⟨g, 0, none⟩ → g < wc.heap.size) := hid (fun g hg => (ha.lt g (by rw [hg]; rfl)).2)
          have BC := hid (BB.out.trans (ba.mono BB.out.size))
          have SC := hid ba.size
          have CQ1 := CQ.out wc BC.out
          clear ha ba RA2 RB CK1
          go_wp2_with fail
          refine CQ1.mono ?_
          rintro e wd ⟨v, rfl, ha, ba⟩
          obtain ⟨A4, k4, hv, _, _, _⟩ := row_form ha
          subst hv
          have RA4 := hid (own_below RA3.out ba (Nat.le_refl _))
          have RB4 := hid (own_below RB3.out ba (Nat.le_refl _))
          have RC4 := hid (own_below RC.out ba (Nat.le_refl _))
          have RD4 := hid ha
          have BD := hid (BC.out.trans (ba.mono BC.out.size))
          have SD := hid ba.size
          have SZ : Hid (w.heap.size ≤ wr.heap.size ∧ wr.heap.size ≤ wa.heap.size ∧ wa.heap.size ≤ wb.heap.size ∧ wb.heap.size ≤ wc.heap.size ∧ wc.heap.size ≤ wd.heap.size) := hid ⟨HB.out.size, BA.out.size, SB.out, SC.out, SD.out⟩
          have RA5 : Hid (wd.ownsRow wr.heap.size 9 1 (.slice A1 nt k1) nt (spx (.string spoilt) (T.map Value.string) 0)) := hid (by rw [spx_zero]; exact RA4.out)
          clear ha ba RA3 RB3 RC CQ1 RA4
          have q0 : ((nt : Int) != (nt : Int)) = false := by simp
          have q1 : ((nk : Int) != (nk : Int)) = false := by simp
          go_wp2_with fail
          go_loopw [14] (fun v wz => ∃ i : Nat, i ≤ nt ∧ v = .int .i64 (i : Int) ∧ Hid (wz.ownsRow wr.heap.size 9 1 (.slice A1 nt k1) nt (spx (.string spoilt) (T.map Value.string) i)) ∧ Hid (wz.ownsRow wa.heap.size 9 1 (.slice A2 nt k2) nt (T.map Value.string)) ∧ Hid (wz.ownsRow wb.heap.size 3 1 (.slice A3 nk k3) nk (K.map nI)) ∧ Hid (wz.ownsRow wc.heap.size 3 1 (.slice A4 nk k4) nk (K.map nI)) ∧ Hid (Below w.heap.size w wz)) (fun v _ => nt - (intOf v).toNat)
          case atStart => exact ⟨0, Nat.zero_le _, rfl, RA5, RB4, RC4, RD4, BD⟩
          case round =>
            obtain ⟨i, hi, rfl, XA, XB, XC, XD, XW⟩ := hrel
            generalize wr = wy at *
            by_cases hlt2 : i < nt
            · have hiT : i < T.length := by rw [← HNT.out]; exact hlt2
              obtain ⟨g, rfl, hgl, hgs, gc, gf, gst⟩ := own_cell XA.out hlt2
              obtain ⟨g', rfl, hgl', hgs', gc', _, _⟩ := own_cell XB.out hlt2
              rw [spx_get _ _ _ (by rw [List.length_map]; exact hiT), strv_get T hiT] at gc
              rw [strv_get T hiT] at gc'
              have HG := hid (AB.out g rfl)
              have j1 : (i : Int) < (nt : Int) := by omega
              have j0 : (0 : Int) ≤ (i : Int) := by omega
              have wj : IntKind.i64.wrap ((i : Int) + 1) = ((i + 1 : Nat) : Int) := by rw [IntKind.wrap_i64]; have := HTL.out; omega
              have PST := hid (gst (.string spoilt))
              rw [spx_set _ _ _ (by rw [List.length_map]; exact hiT)] at PST
              have PB := hid (ownsRow_setCell_below XB.out (a := ⟨g, i, none⟩) HG.out (.string spoilt))
              have PC := hid (ownsRow_setCell_below XC.out (a := ⟨g, i, none⟩) (Nat.lt_of_lt_of_le HG.out SZ.out.2.2.1) (.string spoilt))
              have PD := hid (ownsRow_setCell_below XD.out (a := ⟨g, i, none⟩) (Nat.lt_of_lt_of_le HG.out (Nat.le_trans SZ.out.2.2.1 SZ.out.2.2.2.1)) (.string spoilt))
              have PW := hid (XW.out.setCell (p := ⟨g, i, none⟩) (Nat.le_trans SZ.out.1 hgl) (.string spoilt))
              generalize T.getD i ⟨#[]⟩ = x at *
              have hxx : (x.toList == x.toList) = true := by simp
              clear gst XA XB XC XD XW
              unfold spoilt at PST PB PC PD PW
              go_wp2_with fail
              go_quiet (fail)
              go_wp2_with fail
              go_roundw
              case rel => exact ⟨i + 1, by omega, by rfl, hid (own_draws PST.out _), hid (own_draws PB.out _), hid (own_draws PC.out _), hid (own_draws PD.out _), hid (below_draws PW.out _)⟩
              case measure => first | (simp [intOf]; done) | (simp [intOf]; omega)
            · obtain rfl : nt = i := by omega
              have j1 : ¬ ((nt : Int) < (nt : Int)) := by omega
              have RC5 : Hid (wy.ownsRow wb.heap.size 3 1 (.slice A3 nk k3) nk (spx (.int .i64 (-7)) (K.map nI) 0)) := hid (by rw [spx_zero]; exact XC.out)
              have CB : Hid (∀ g, A3 = some ⟨g, 0, none⟩ → g < wc.heap.size) := CBA
              clear XA XB XC
              go_wp2_with fail
              go_loopw [15] (fun v wz => ∃ i : Nat, i ≤ nk ∧ v = .int .i64 (i : Int) ∧ Hid (wz.ownsRow wb.heap.size 3 1 (.slice A3 nk k3) nk (spx (.int .i64 (-7)) (K.map nI) i)) ∧ Hid (wz.ownsRow wc.heap.size 3 1 (.slice A4 nk k4) nk (K.map nI)) ∧ Hid (Below w.heap.size w wz)) (fun v _ => nk - (intOf v).toNat)
              case atStart => exact ⟨0, Nat.zero_le _, rfl, RC5, XD, XW⟩
              case round =>
                obtain ⟨i, hi, rfl, XC, XD, XW⟩ := hrel
                generalize wr = wx at *
                by_cases hlt2 : i < nk
                · have hiT : i < K.length := by rw [← HNK.out]; exact hlt2
                  obtain ⟨g, rfl, hgl, hgs, gc, gf, gst⟩ := own_cell XC.out hlt2
                  obtain ⟨g', rfl, hgl', hgs', gc', _, _⟩ := own_cell XD.out hlt2
                  rw [spx_get _ _ _ (by rw [List.length_map]; exact hiT), intv_get K hiT] at gc
                  rw [intv_get K hiT] at gc'
                  have HG := hid (CB.out g rfl)
                  have j1 : (i : Int) < (nk : Int) := by omega
                  have j0 : (0 : Int) ≤ (i : Int) := by omega
                  have wj : IntKind.i64.wrap ((i : Int) + 1) = ((i + 1 : Nat) : Int) := by rw [IntKind.wrap_i64]; have := HKL.out; omega
                  have PST := hid (gst (.int .i64 (-7)))
                  rw [spx_set _ _ _ (by rw [List.length_map]; exact hiT)] at PST
                  have PD := hid (ownsRow_setCell_below XD.out (a := ⟨g, i, none⟩) HG.out (.int .i64 (-7)))
                  have PW := hid (XW.out.setCell (p := ⟨g, i, none⟩) (Nat.le_trans (Nat.le_trans SZ.out.1 (Nat.le_trans SZ.out.2.1 SZ.out.2.2.1)) hgl) (.int .i64 (-7)))
                  generalize K.getD i 0 = x at *
                  have hxx : ((x : Int) != (x : Int)) = false := by simp
                  clear gst XC XD XW
                  go_wp2_with fail
                  go_quiet (fail)
                  go_wp2_with fail
                  go_roundw
                  case rel => exact ⟨i + 1, by omega, by rfl, hid (own_draws PST.out _), hid (own_draws PD.out _), hid (below_draws PW.out _)⟩
                  case measure => first | (simp [intOf]; done) | (simp [intOf]; omega)
                · obtain rfl : nk = i := by omega
                  have j1 : ¬ ((nk : Int) < (nk : Int)) := by omega
                  clear XC XD
                  go_wp2_with fail
                  go_roundw
                  case rel => exact ⟨r + 1, by omega, by rfl, XW⟩
                  case measure => first | (simp [intOf]; done) | (simp [intOf]; omega)
        · obtain rfl : r = 2 := by omega
          clear CS CR CK CQ B2
          have D1 := above_any s wr (by have := HS1.out; omega)
          have D2 := hid (fun W => refAbove_any s W (by have := HS1.out; omega))
          have D3 := hid (fun W => may_any s W (by have := HS1.out; omega))
          have D4 := hid (fun W => refMay_any s (by have := HS1.out; omega) W)
          have D5 := hid (fun (W : World) (hW : Below w.heap.size w W) => tree_any l A ca SL.out W (HL.out.below hW))
          have D6 := hid (fun (W : World) (hW : Below w.heap.size w W) => refTree_any l A ca SL.out W (HL.out.below hW))
          have D7 := hid (fun (W : World) (hW : Below w.heap.size w W) => same_any l m A B ca cb SL.out SM.out W (HL.out.below hW) (HM.out.below hW))
          have D8 := hid (fun (W : World) (hW : Below w.heap.size w W) => refSame_any l m A B ca cb SL.out SM.out W (HL.out.below hW) (HM.out.below hW))
          have D9 := hid (fun (W : World) (hW : Below w.heap.size w W) => same_any l l A A ca ca SL.out SL.out W (HL.out.below hW) (HL.out.below hW))
          have D10 := hid (fun (W : World) (hW : Below w.heap.size w W) => size_any l A ca SL.out W (HL.out.below hW))
          have D11 := hid (fun (W : World) (hW : Below w.heap.size w W) => refSize_any l A ca SL.out W (HL.out.below hW))
          rw [← tree_same l] at D6
          rw [decide_eq_true (rfl : l = l)] at D9
          rw [← HNL.out] at D5 D6 D7 D8 D9 D10 D11
          rw [← HNM.out] at D7 D8
          generalize abU s = u at *
          generalize abB s = ub at *
          generalize mayB s = mb at *
          generalize treeP l = tb at *
          generalize decide (l = m) = sb at *
          generalize sizeF l = sz at *
          have e1 : (u.toList == u.toList) = true := by simp
          have e2 : (ub == ub) = true := by simp
          have e3 : (mb == mb) = true := by simp
          have e4 : (tb == tb) = true := by simp
          have e5 : (sb == sb) = true := by simp
          have e6 : ((sz : Int) == (sz : Int)) = true := by simp
          go_wp2_with fail
          refine D1.mono ?_
          rintro e x1 ⟨rfl, bx⟩
          have Y1 := hid (HB.out.trans (bx.mono HB.out.size))
          clear bx D1
          go_wp2_with fail
          refine (D2.out x1).mono ?_
          rintro e x2 ⟨rfl, hx⟩
          rw [hx]
          clear hx
          go_wp2_with fail
          refine (D3.out x1).mono ?_
          rintro e x3 ⟨rfl, bx⟩
          have Y3 := hid (Y1.out.trans (bx.mono Y1.out.size))
          clear bx Y1
          go_wp2_with fail
          refine (D4.out x3).mono ?_
          rintro e x4 ⟨rfl, bx⟩
          have Y4 := hid (Y3.out.trans (bx.mono Y3.out.size))
          clear bx Y3
          go_wp2_with fail
          refine (D5.out x4 Y4.out).mono ?_
          rintro e x5 ⟨rfl, bx⟩
          have Y5 := hid (Y4.out.trans (bx.mono Y4.out.size))
          clear bx Y4
          go_wp2_with fail
          refine (D6.out x5 Y5.out).mono ?_
          rintro e x6 ⟨rfl, bx⟩
          have Y6 := hid (Y5.out.trans (bx.mono Y5.out.size))
          clear bx Y5
          go_wp2_with fail
          refine (D7.out x6 Y6.out).mono ?_
          rintro e x7 ⟨rfl, bx⟩
          have Y7 := hid (Y6.out.trans (bx.mono Y6.out.size))
          clear bx Y6
          go_wp2_with fail
          refine (D8.out x7 Y7.out).mono ?_
          rintro e x8 ⟨rfl, bx⟩
          have Y8 := hid (Y7.out.trans (bx.mono Y7.out.size))
          clear bx Y7
          go_wp2_with fail
          refine (D9.out x8 Y8.out).mono ?_
          rintro e x9 ⟨rfl, bx⟩
          have Y9 := hid (Y8.out.trans (bx.mono Y8.out.size))
          clear bx Y8
          go_wp2_with fail
          refine (D10.out x9 Y9.out).mono ?_
          rintro e x10 ⟨rfl, bx⟩
          have Y10 := hid (Y9.out.trans (bx.mono Y9.out.size))
          clear bx Y9
          go_wp2_with fail
          refine (D11.out x10 Y10.out).mono ?_
          rintro e x11 ⟨rfl, bx⟩
          have Y11 := hid (Y10.out.trans (bx.mono Y10.out.size))
          clear bx Y10
          go_wp2_with fail
          refine (awake_any x11).mono ?_
          rintro e x12 ⟨rfl, bx⟩
          have Y12 := hid (Y11.out.trans (bx.mono Y11.out.size))
          clear bx Y11
          go_wp2_with fail
          go_ret
          exact ⟨rfl, Y12.out⟩
end Go.Proofs.YtnhekngmgjnodaaDoor
