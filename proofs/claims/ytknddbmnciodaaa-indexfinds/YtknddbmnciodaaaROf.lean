/- The contract of the document's Of. -/
import Derived.Test.YtknddbmnciodaaaRMay
import Derived.Test.YtknddbmnciodaaaOf
import Derived.Test.YtknddbmnciodaaaOwnK
namespace Go.Proofs.Ytknddbmnciodaaa
open Go.RowKit Go.Lib Go.Sort
open Ix
set_option linter.unusedVariables false
/-- the place, or -1 -/
def nxV : Option Nat → Int
  | none => -1
  | some k => (k : Int)
set_option maxRecDepth 20000 in
set_option maxHeartbeats 16000000 in
theorem refOf_any (s : St) (a0 a1 a2 : Option Addr) (c0 c1 c2 : Nat) (p : ByteArray) (hn : s.C.length ≤ 100000) (hn2 : s.P.length ≤ 100000) (w : World) (hC : Tx w a1 s.C) (hP : Ps w a2 s.P) :
    Calls Try.prog 17 #[.agg (stV s a0 a1 a2 c0 c1 c2), .string p] w fun e w' => ∃ v1 v2, e = .returned (.tuple #[v1, v2, .int .i64 (ofE s.C s.P p)]) ∧ TwoRows w v1 v2 (ofV s.C s.P p) w' ∧ RowKit.Below w.heap.size w w' := by
  obtain ⟨w1, hw1, hB, n1⟩ := box_state (w := w) s a0 a1 a2 c0 c1 c2
  obtain ⟨b, hb⟩ : ∃ b, b = w.heap.size := ⟨_, rfl⟩
  rw [← hb] at n1
  have HN1 := hid n1
  have C0 := refMay_any s a0 a1 a2 c0 c1 c2 hn hn2 w1 (hC.below hB) (hP.below hB)
  have HCs := hid (hC.below hB)
  have HPs := hid (hP.below hB)
  have HB := hid hB
  have k0 : w1.cell? ⟨b, 0, none⟩ = some (.int .i64 s.k) := by rw [n1.cell]; rfl
  have k1 : w1.cell? ⟨b, 1, none⟩ = some (.int .i64 s.n) := by rw [n1.cell]; rfl
  have k2 : w1.cell? ⟨b, 2, none⟩ = some (.int .i64 s.nx) := by rw [n1.cell]; rfl
  have k3 : w1.cell? ⟨b, 3, none⟩ = some (.slice a0 s.sn.length c0) := by rw [n1.cell]; rfl
  have k4 : w1.cell? ⟨b, 4, none⟩ = some (.slice a1 s.C.length c1) := by rw [n1.cell]; rfl
  have k5 : w1.cell? ⟨b, 5, none⟩ = some (.slice a2 s.P.length c2) := by rw [n1.cell]; rfl
  clear hB n1 hC hP
  change w1 = w.alloc (.cells #[.int .i64 s.k, .int .i64 s.n, .int .i64 s.nx, .slice a0 s.sn.length c0, .slice a1 s.C.length c1, .slice a2 s.P.length c2] 28) at hw1
  show Calls Try.prog 17 #[.agg #[.int .i64 s.k, .int .i64 s.n, .int .i64 s.nx, .slice a0 s.sn.length c0, .slice a1 s.C.length c1, .slice a2 s.P.length c2], .string p] w _
  change Calls Try.prog 21 #[.agg #[.int .i64 s.k, .int .i64 s.n, .int .i64 s.nx, .slice a0 s.sn.length c0, .slice a1 s.C.length c1, .slice a2 s.P.length c2]] w1 _ at C0
  obtain ⟨i9, hi, hz0, hz1, hz2⟩ := info_parts info9z
  obtain ⟨i37, hj, hy0, hy1, hy2⟩ := info_parts info37z
  go_enter Try.func17, Try.ntmps17
  go_upto_region 1 with fail
  rw [← hw1, ← hb]
  clear hw1 hb
  go_wp2_with fail
  refine C0.mono ?_
  rintro e w2 ⟨rfl, b2⟩
  have HB2 := hid (HB.out.trans (b2.mono HB.out.size))
  have HN2 := hid (HN1.out.below b2 HN1.out.lt)
  have HC2 := hid (HCs.out.below b2)
  have HP2 := hid (HPs.out.below b2)
  clear C0 b2 k0 k1 k2 k3 k4 k5 HN1 HB HCs HPs
  cases hmay : mayS s.C s.P with
  | false =>
    have H4 : Hid (ofE s.C s.P p = 4) := hid (by unfold ofE; rw [hmay]; rfl)
    have HV : Hid (ofV s.C s.P p = []) := hid (by unfold ofV; rw [hmay]; rfl)
    clear hmay
    go_wp2_with fail
    exact bodyPost_ret (v := .tuple #[.slice none 0 0, .slice none 0 0, .int .i64 4]) (by simp [results, Try.results17, go_sem]) rfl ⟨_, _, by rw [H4.out], by rw [HV.out]; exact two_nil _ _, HB2.out⟩
  | true =>
    have hM := mayS_iff.1 hmay
    have H4 : Hid (ofE s.C s.P p = if (ofs p (s.C.zip s.P)).length = 0 then 5 else 0) := hid (by unfold ofE; rw [if_pos hmay])
    have HV : Hid (ofV s.C s.P p = ofs p (s.C.zip s.P)) := hid (by unfold ofV; rw [if_pos hmay])
    have HIS := hid (ofs_is hM.2 p)
    have HMP : Hid (∀ e ∈ s.C.zip s.P, mayP e.2) := hid hM.2.places
    have HL := hid hM.1
    have hML : (s.C.zip s.P).length = s.C.length := zip_len s.C s.P (by omega)
    have HML := hid hML
    have hol : (ofs p (s.C.zip s.P)).length ≤ s.C.length := by
      rw [(ofs_is hM.2 p).2.2]
      have := List.length_filter_le (fun e : En => decide (e.2.pack = p)) (s.C.zip s.P)
      unfold inPack; omega
    have HZ' := hid (fun k (h1 : k < s.C.length) (h2 : k < s.P.length) => zip_get h1 h2)
    have HST : Hid (∀ (i : Nat) (hi : i < (ofs p (s.C.zip s.P)).length), (0 : Int) ≤ ((ofs p (s.C.zip s.P))[i]).2.at_ ↔ 0 ≤ i) := hid (of_start (ofs_is hM.2 p).2.1 (fun e he => (hM.2.places e he).2.1))
    clear hmay hM hML
    generalize hOO : ofs p (s.C.zip s.P) = O at *
    generalize hMM : s.C.zip s.P = M at *
    clear hOO hMM
    generalize hpl : s.P.length = m at *
    have HPL := hid hpl
    clear hpl
    go_wp2_with fail
    go_loopw [7, 8, 9, 10, 11] (fun v7 v8 v9 _ _ wr => ∃ (t : Nat) (fr : Int), v9 = .int .i64 fr ∧ 0 ≤ fr ∧ fr ≤ 32769 ∧ t ≤ O.length ∧ Hid (∀ (i : Nat) (hi : i < O.length), fr ≤ (O[i]).2.at_ ↔ t ≤ i) ∧ Hid (wr.ownsRow w2.heap.size 9 1 v7 t (((O.take t).map Prod.fst).map Value.string)) ∧ Hid (wr.ownsRow w2.heap.size 37 3 v8 t (((O.take t).map Prod.snd).flatMap pl3)) ∧ Hid (RowKit.Below w2.heap.size w2 wr)) (fun _ _ v9 _ _ _ => (32769 - (intOf v9)).toNat)
    case atStart => exact ⟨0, 0, rfl, by omega, by omega, Nat.zero_le _, HST, hid (World.ownsRow_nil _ _ _ _), hid (World.ownsRow_nil _ _ _ _), hid (RowKit.Below.refl _ _)⟩
    case round =>
      obtain ⟨t, fr, rfl, hf0, hf1, ht, HF, HR1, HR2, HW⟩ := hrel
      by_cases hle : fr ≤ 32768
      · generalize wr = w8 at *
        go_wp2_with fail
        go_loopw [10, 11] (fun v10 v11 wz => ∃ (i : Nat) (bo : Option Nat), i ≤ m ∧ v11 = .int .i64 (i : Int) ∧ v10 = .int .i64 (nxV bo) ∧ Hid (Best M p fr i bo) ∧ Hid (RowKit.Below w2.heap.size w2 wz) ∧ Hid (RowKit.Below w8.heap.size w8 wz)) (fun _ v11 _ => m - (intOf v11).toNat)
        case atStart => exact ⟨0, none, Nat.zero_le _, rfl, rfl, hid (Best.zero M p fr), HW, hid (RowKit.Below.refl _ _)⟩
        case round =>
          obtain ⟨i, bo, him, rfl, rfl, HBE, HZ9, HZ⟩ := hrel
          generalize wr = wz at *
          have n3 := HN2.out.below HZ9.out HN2.out.lt
          have k4 : wz.cell? ⟨b, 4, none⟩ = some (.slice a1 s.C.length c1) := by rw [n3.cell]; rfl
          have k5 : wz.cell? ⟨b, 5, none⟩ = some (.slice a2 m c2) := by rw [n3.cell]; unfold stV; rw [HPL.out]; rfl
          clear n3
          by_cases hlt : i < m
          · have hlt1 : i < s.P.length := by rw [HPL.out]; exact hlt
            have hlt2 : i < s.C.length := by rw [HL.out]; exact hlt
            have hxi := HZ'.out i hlt2 hlt
            obtain ⟨g, o, rfl, hg, e1, e2, e3⟩ := ps_cell HP2.out HZ9.out hlt1
            have j1 : (i : Int) < (m : Int) := by omega
            have j0 : (0 : Int) ≤ (i : Int) := by omega
            have wk : IntKind.i64.wrap ((i : Int) + 1) = ((i + 1 : Nat) : Int) := by rw [IntKind.wrap_i64]; omega
            have HXI := hid hxi
            clear hxi e3 k4
            by_cases h1 : (s.P.getD i default).pack = p
            · have q1 := str_eq h1
              by_cases h2 : fr ≤ (s.P.getD i default).at_
              · cases bo with
                | none =>
                  have HS : Hid (Best M p fr (i + 1) (some i)) := hid (HBE.out.take HXI.out h1 h2 (fun k g h => by cases h))
                  have h3 : (nxV none : Int) = -1 := rfl
                  rw [h3]
                  clear HBE HXI h1 h3
                  generalize (s.P.getD i default).pack = y at *
                  generalize (s.P.getD i default).at_ = ya at *
                  go_wp2_with fail
                  go_quiet (fail)
                  go_wp2_with fail
                  go_roundw
                  case rel => exact ⟨i + 1, some i, by omega, by rfl, rfl, HS, hid (below_draws' HZ9.out _), hid (below_draws' HZ.out _)⟩
                  case measure => first | (simp [intOf]; done) | (simp [intOf]; omega)
                | some kk =>
                  obtain ⟨ge, hge, hgp, hgf, _⟩ := HBE.out.yes kk rfl
                  have hkM : kk < M.length := (List.getElem?_eq_some_iff.1 hge).1
                  have hkC : kk < s.C.length := by rw [← HML.out]; exact hkM
                  have hkm : kk < m := by rw [← HL.out]; exact hkC
                  have hkP : kk < s.P.length := by rw [HPL.out]; exact hkm
                  have hgv : ge = (s.C.getD kk ⟨#[]⟩, s.P.getD kk default) := by
                    have := HZ'.out kk hkC hkm
                    rw [hge] at this; exact Option.some.inj this
                  obtain ⟨g9, o9, e9, _, _, f2, _⟩ := ps_cell HP2.out HZ9.out hkP
                  obtain ⟨rfl, rfl⟩ : g9 = g ∧ o9 = o := by simp at e9; exact ⟨e9.1.symm, e9.2.symm⟩
                  have i1 : (kk : Int) < (m : Int) := by omega
                  have i0 : (0 : Int) ≤ (kk : Int) := by omega
                  have i2 : ¬ (kk : Int) < 0 := by omega
                  have i3 : decide ((kk : Int) < 0) = false := decide_eq_false i2
                  have h3 : (nxV (some kk) : Int) = (kk : Int) := rfl
                  rw [h3]
                  by_cases h4 : (s.P.getD i default).at_ < (s.P.getD kk default).at_
                  · have HS : Hid (Best M p fr (i + 1) (some i)) := hid (HBE.out.take HXI.out h1 h2 (fun k g h hk => by cases h; rw [hge] at hk; cases hk; rw [hgv]; exact h4))
                    clear HBE HXI h1 h3 hge hgp hgf hgv e9 hkM hkC hkP
                    generalize (s.P.getD i default).pack = y at *
                    generalize (s.P.getD i default).at_ = ya at *
                    generalize (s.P.getD kk default).at_ = za at *
                    go_wp2_with fail
                    go_quiet (fail)
                    go_wp2_with fail
                    go_roundw
                    case rel => exact ⟨i + 1, some i, by omega, by rfl, rfl, HS, hid (below_draws' HZ9.out _), hid (below_draws' HZ.out _)⟩
                    case measure => first | (simp [intOf]; done) | (simp [intOf]; omega)
                  · have HS : Hid (Best M p fr (i + 1) (some kk)) := hid (HBE.out.stay HXI.out (fun _ _ => ⟨kk, ge, rfl, hge, by rw [hgv]; show (s.P.getD kk default).at_ ≤ (s.P.getD i default).at_; omega⟩))
                    clear HBE HXI h1 h3 hge hgp hgf hgv e9 hkM hkC hkP
                    generalize (s.P.getD i default).pack = y at *
                    generalize (s.P.getD i default).at_ = ya at *
                    generalize (s.P.getD kk default).at_ = za at *
                    go_wp2_with fail
                    go_quiet (fail)
                    go_wp2_with fail
                    go_roundw
                    case rel => exact ⟨i + 1, some kk, by omega, by rfl, rfl, HS, hid (below_draws' HZ9.out _), hid (below_draws' HZ.out _)⟩
                    case measure => first | (simp [intOf]; done) | (simp [intOf]; omega)
              · have HS : Hid (Best M p fr (i + 1) bo) := hid (HBE.out.stay HXI.out (fun _ h => absurd h h2))
                have n2 : decide (fr ≤ (s.P.getD i default).at_) = false := decide_eq_false h2
                clear HBE HXI h1
                generalize (s.P.getD i default).pack = y at *
                generalize (s.P.getD i default).at_ = ya at *
                go_wp2_with fail
                go_quiet (fail)
                go_wp2_with fail
                go_roundw
                case rel => exact ⟨i + 1, bo, by omega, by rfl, rfl, HS, hid (below_draws' HZ9.out _), hid (below_draws' HZ.out _)⟩
                case measure => first | (simp [intOf]; done) | (simp [intOf]; omega)
            · have q1 := str_ne h1
              have HS : Hid (Best M p fr (i + 1) bo) := hid (HBE.out.stay HXI.out (fun h => absurd h h1))
              clear HBE HXI h1
              generalize (s.P.getD i default).pack = y at *
              go_wp2_with fail
              go_quiet (fail)
              go_wp2_with fail
              go_roundw
              case rel => exact ⟨i + 1, bo, by omega, by rfl, rfl, HS, hid (below_draws' HZ9.out _), hid (below_draws' HZ.out _)⟩
              case measure => first | (simp [intOf]; done) | (simp [intOf]; omega)
          · obtain rfl : m = i := by omega
            have j1 : ¬ ((m : Int) < (m : Int)) := by omega
            have HR1' := hid (own_below HR1.out HZ.out (Nat.le_refl _))
            have HR2' := hid (own_below HR2.out HZ.out (Nat.le_refl _))
            have hwz : w.heap.size ≤ wz.heap.size := Nat.le_trans HB2.out.size HZ9.out.size
            clear HR1 HR2
            cases bo with
            | none =>
              have htO : O.length = t := by
                have := of_none (M := M) (O := O) (p := p) (t := t) (from_ := fr) HIS.out.2.1 HF.out (fun e he hp => by
                  obtain ⟨j, hj, e'⟩ := List.mem_iff_getElem.1 he
                  exact HBE.out.no rfl j e (by rw [HML.out, HL.out] at hj; exact hj) (by rw [List.getElem?_eq_getElem hj, e']) hp)
                omega
              have h3 : (nxV none : Int) = -1 := rfl
              rw [h3]
              clear HBE h3
              subst htO
              have hT1 := (show World.ownsRow _ _ 9 1 _ O.length ((O.map Prod.fst).map Value.string) from by have := HR1'.out; rwa [List.take_of_length_le (by omega)] at this)
              have hT2 := (show World.ownsRow _ _ 37 3 _ O.length ((O.map Prod.snd).flatMap pl3) from by have := HR2'.out; rwa [List.take_of_length_le (by omega)] at this)
              obtain ⟨A1, p1, hv1, hl1, hX1⟩ := own_tx hT1
              obtain ⟨A2, p2, hv2, hl2, hX2⟩ := own_ps hT2
              rw [List.length_map] at hv1 hv2
              subst hv1 hv2
              have HX1 := hid hX1
              have HX2 := hid hX2
              have HBW := hid (HB2.out.trans (HZ9.out.mono HB2.out.size))
              clear hT1 hT2 hX1 hX2 hl1 hl2
              by_cases h0 : O.length = 0
              · have q0 : ((O.length : Int) == 0) = true := by rw [beq_iff_eq]; omega
                have H5 : Hid (ofE s.C s.P p = 5) := hid (by rw [H4.out, if_pos h0])
                have HO0 : Hid (O = []) := hid (List.length_eq_zero_iff.1 h0)
                clear h0
                go_wp2_with fail
                exact bodyPost_ret (v := .tuple #[.slice none 0 0, .slice none 0 0, .int .i64 5]) (by simp [results, Try.results17, go_sem]) rfl ⟨_, _, by rw [H5.out], by rw [HV.out, HO0.out]; exact two_nil _ _, HBW.out⟩
              · have q0 : ((O.length : Int) == 0) = false := by rw [beq_eq_false_iff_ne]; omega
                have H5 : Hid (ofE s.C s.P p = 0) := hid (by rw [H4.out, if_neg h0])
                clear h0
                go_wp2_with fail
                exact bodyPost_ret (v := .tuple #[.slice A1 O.length p1, .slice A2 O.length p2, .int .i64 0]) (by simp [results, Try.results17, go_sem]) rfl ⟨_, _, by rw [H5.out], by rw [HV.out]; exact ⟨A1, A2, p1, p2, rfl, rfl, HX1.out, HX2.out⟩, HBW.out⟩
            | some kk =>
              obtain ⟨ge, hge, hgp, hgf, hmin⟩ := HBE.out.yes kk rfl
              have hkM : kk < M.length := (List.getElem?_eq_some_iff.1 hge).1
              have hkC : kk < s.C.length := by rw [← HML.out]; exact hkM
              have hkm : kk < m := by rw [← HL.out]; exact hkC
              have hkP : kk < s.P.length := by rw [HPL.out]; exact hkm
              have hgv : ge = (s.C.getD kk ⟨#[]⟩, s.P.getD kk default) := by
                have := HZ'.out kk hkC hkm
                rw [hge] at this; exact Option.some.inj this
              obtain ⟨hO1, hO2⟩ := of_some (M := M) (O := O) (p := p) (t := t) (from_ := fr) HIS.out.1 HIS.out.2.1 HF.out (List.mem_of_getElem? hge) hgp hgf (fun g hg hgp' hgf' => by
                obtain ⟨j, hj, e'⟩ := List.mem_iff_getElem.1 hg
                exact hmin j g (by rw [HML.out, HL.out] at hj; exact hj) (by rw [List.getElem?_eq_getElem hj, e']) hgp' hgf')
              have hat := HMP.out ge (List.mem_of_getElem? hge)
              rw [hgv] at hO1 hO2 hat hgf
              have htl : t < O.length := (List.getElem?_eq_some_iff.1 hO1).1
              obtain ⟨g, o, rfl, hg, c1'⟩ := tx_cell HC2.out HZ9.out hkC
              obtain ⟨g', o', rfl, hg', e1, e2, e3⟩ := ps_cell HP2.out HZ9.out hkP
              have HX1 := hid (show (O.take (t + 1)).map Prod.fst = (O.take t).map Prod.fst ++ [s.C.getD kk ⟨#[]⟩] from by rw [take_snoc hO1, List.map_append]; rfl)
              have HX2 := hid (show (O.take (t + 1)).map Prod.snd = (O.take t).map Prod.snd ++ [s.P.getD kk default] from by rw [take_snoc hO1, List.map_append]; rfl)
              have HF' := hid hO2
              have hat1 : (s.P.getD kk default).at_ ≤ 32768 := hat.2.2.1
              have hat0 : 0 ≤ (s.P.getD kk default).at_ := hat.2.1
              have wf : IntKind.i64.wrap ((s.P.getD kk default).at_ + 1) = (s.P.getD kk default).at_ + 1 := by rw [IntKind.wrap_i64]; omega
              have i1 : (kk : Int) < (m : Int) := by omega
              have i1' : (kk : Int) < (s.C.length : Int) := by omega
              have i0 : (0 : Int) ≤ (kk : Int) := by omega
              have i2 : ¬ (kk : Int) < 0 := by omega
              have h3 : (nxV (some kk) : Int) = (kk : Int) := rfl
              rw [h3]
              have HK := hid (fun W (hW : RowKit.Below w2.heap.size w2 W) => (show (W.cell? ⟨b, 5, none⟩ = some (.slice (some ⟨g', o', none⟩) m c2) ∧ W.cell? ⟨g', o' + kk * 3, none⟩ = some (.string (s.P.getD kk default).pack) ∧ W.cell? ⟨g', o' + kk * 3 + 1, none⟩ = some (.int .i64 (s.P.getD kk default).at_) ∧ W.cell? ⟨g', o' + kk * 3 + 2, none⟩ = some (.int .i64 (s.P.getD kk default).len)) from by
                have n3 := HN2.out.below hW HN2.out.lt
                obtain ⟨g9, o9, e9, _, y1, y2, y3⟩ := ps_cell HP2.out hW hkP
                obtain ⟨rfl, rfl⟩ : g9 = g' ∧ o9 = o' := by simp at e9; exact ⟨e9.1.symm, e9.2.symm⟩
                exact ⟨by rw [n3.cell]; unfold stV; rw [HPL.out]; rfl, y1, y2, y3⟩))
              have hwz2 : w2.heap.size ≤ wz.heap.size := HZ9.out.size
              have hww : w.heap.size ≤ w2.heap.size := HB2.out.size
              have hr1 := HR1'.out
              have hr2 := HR2'.out
              clear HBE h3 hge hgp hmin hgv hO1 hO2 hat hkM hkC hkP hg hg'
              generalize s.C.getD kk ⟨#[]⟩ = x at *
              generalize s.P.getD kk default = y at *
              have hyc : ∀ W : World, True := fun _ => trivial
              go_upto_region 15 with (at_builtin; refine wpList_append_own _ rfl _ _ 25 rfl w2.heap.size 9 i9 (.string ⟨#[]⟩) 1 16 Try.underlying25 hi hz0 hz1 hz2 rfl (by decide) u7 t _ rfl (hr1.alloc _) ⟨wz.heap.size, 0, none⟩ 1 1 [.string x] rfl rfl (cell_one_new _ _ _) (by simp [Value.oneCell']) (by unfold maxLen; omega) (by omega) (by simp; omega) ?_; intro v' w4 hown' hgrow _)
              have hb4 : RowKit.Below w2.heap.size w2 w4 := (HZ9.out.alloc hwz2 _).grown hgrow (by simp; omega) (fun j hj => (hr1.lt j hj).1)
              have hr4 := own_keep (hr2.alloc (.cells #[.string x] 9)) (hr1.alloc (.cells #[.string x] 9)) (by decide) hgrow
              have HR4 := hid hown'
              have hwz4 : w2.heap.size ≤ w4.heap.size := hb4.size
              have HB4 := hid hb4
              obtain ⟨k5', y1, y2, y3⟩ := HK.out w4 hb4
              clear hgrow hr1 hr2 c1' e1 e2 e3 k4 k5 hb4
              go_upto_region 16 with (at_builtin; refine wpList_append_own _ rfl _ _ 26 rfl w2.heap.size 37 i37 (.agg #[.string ⟨#[]⟩, .int .i64 0, .int .i64 0]) 3 32 Try.underlying26 hj hy0 hy1 hy2 rfl (by decide) u8 t _ rfl (hr4.alloc _) ⟨w4.heap.size, 0, none⟩ 1 1 (pl3 y) rfl rfl (pl_new w4 y) (one_pl' y) (by unfold maxLen; omega) (by omega) (by simp; omega) ?_; intro v3 w5 hown3 hgrow3 _)
              have hb5 : RowKit.Below w2.heap.size w2 w5 := (HB4.out.alloc hwz4 _).grown hgrow3 (by simp; omega) (fun j hj => (hr4.lt j hj).1)
              have HR5 := hid (own_keep (hown'.alloc (.cells #[.string y.pack, .int .i64 y.at_, .int .i64 y.len] 37)) (hr4.alloc (.cells #[.string y.pack, .int .i64 y.at_, .int .i64 y.len] 37)) (by decide) hgrow3)
              have HR6 := hid hown3
              have HB5 := hid hb5
              obtain ⟨k5'', z1, z2, z3⟩ := HK.out w5 hb5
              clear hown' hown3 hgrow3 hr4 k5' y1 y2 y3 hb5
              have hfy : fr ≤ y.at_ := hgf
              go_wp2_with fail
              go_roundw
              case rel => exact ⟨t + 1, y.at_ + 1, by rfl, by omega, by omega, htl, HF', by rw [HX1.out, List.map_append]; exact HR5, by rw [HX2.out, flat_snoc]; exact HR6, HB5⟩
              case measure => first | (simp [intOf]; done) | (simp [intOf]; omega)
      · have htO : O.length = t := by
          by_cases hlt : t < O.length
          · have h1 := (HF.out t hlt).2 (Nat.le_refl _)
            have h2 := (HMP.out _ ((HIS.out.2.1 _).1 (List.getElem_mem hlt)).1).2.2.1
            omega
          · omega
        have n2 : decide (fr ≤ 32768) = false := decide_eq_false hle
        subst htO
        have hT1 := (show World.ownsRow _ _ 9 1 _ O.length ((O.map Prod.fst).map Value.string) from by have := HR1.out; rwa [List.take_of_length_le (by omega)] at this)
        have hT2 := (show World.ownsRow _ _ 37 3 _ O.length ((O.map Prod.snd).flatMap pl3) from by have := HR2.out; rwa [List.take_of_length_le (by omega)] at this)
        obtain ⟨A1, p1, hv1, hl1, hX1⟩ := own_tx hT1
        obtain ⟨A2, p2, hv2, hl2, hX2⟩ := own_ps hT2
        rw [List.length_map] at hv1 hv2
        subst hv1 hv2
        have HX1 := hid hX1
        have HX2 := hid hX2
        have HBW := hid (HB2.out.trans (HW.out.mono HB2.out.size))
        clear hT1 hT2 hX1 hX2 hl1 hl2
        by_cases h0 : O.length = 0
        · have q0 : ((O.length : Int) == 0) = true := by rw [beq_iff_eq]; omega
          have H5 : Hid (ofE s.C s.P p = 5) := hid (by rw [H4.out, if_pos h0])
          have HO0 : Hid (O = []) := hid (List.length_eq_zero_iff.1 h0)
          clear h0
          go_wp2_with fail
          exact bodyPost_ret (v := .tuple #[.slice none 0 0, .slice none 0 0, .int .i64 5]) (by simp [results, Try.results17, go_sem]) rfl ⟨_, _, by rw [H5.out], by rw [HV.out, HO0.out]; exact two_nil _ _, HBW.out⟩
        · have q0 : ((O.length : Int) == 0) = false := by rw [beq_eq_false_iff_ne]; omega
          have H5 : Hid (ofE s.C s.P p = 0) := hid (by rw [H4.out, if_neg h0])
          clear h0
          go_wp2_with fail
          exact bodyPost_ret (v := .tuple #[.slice A1 O.length p1, .slice A2 O.length p2, .int .i64 0]) (by simp [results, Try.results17, go_sem]) rfl ⟨_, _, by rw [H5.out], by rw [HV.out]; exact ⟨A1, A2, p1, p2, rfl, rfl, HX1.out, HX2.out⟩, HBW.out⟩
end Go.Proofs.Ytknddbmnciodaaa
