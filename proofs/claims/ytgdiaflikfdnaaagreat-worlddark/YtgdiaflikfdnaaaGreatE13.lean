/- WorldDark: the walk. -/
import Derived.Test.YtgdiaflikfdnaaaGreatE11
namespace Go.Proofs.YtgdiaflikfdnaaaGreat
open Go.RowKit Go.Maps
theorem sameK_objs {W V : Wd} (h : sameK W.l V.l) (i : Int) : objsW W i = objsW V i := by
  have hl : W.l.length = V.l.length := by have := congrArg List.length h; simpa [sameK] using this
  have hg : (W.l[i.toNat]?).map (fun x => (x.st, x.sus)) = (V.l[i.toNat]?).map (fun x => (x.st, x.sus)) := by rw [← List.getElem?_map, ← List.getElem?_map, h]
  unfold objsW
  rw [hl]
  split
  · cases h1 : W.l[i.toNat]? <;> cases h2 : V.l[i.toNat]? <;> rw [h1, h2] at hg <;> simp at hg ⊢
    rw [hg.1]
  · rfl
theorem sameK_up {W V : Wd} (h : sameK W.l V.l) (i : Int) : upW W i = upW V i := by
  have hl : W.l.length = V.l.length := by have := congrArg List.length h; simpa [sameK] using this
  have hg : (W.l[i.toNat]?).map (fun x => (x.st, x.sus)) = (V.l[i.toNat]?).map (fun x => (x.st, x.sus)) := by rw [← List.getElem?_map, ← List.getElem?_map, h]
  unfold upW
  rw [hl]
  split
  · cases h1 : W.l[i.toNat]? <;> cases h2 : V.l[i.toNat]? <;> rw [h1, h2] at hg <;> simp at hg ⊢
    rw [hg.1]
  · rfl
theorem countW_cut {W : Wd} (hc : W.cut = true) (hl : W.left = 0) : countW W = { W with calls := W.calls + 1, dark := true } := by
  unfold countW
  rw [if_pos hc, if_pos hl]
theorem mod3 (z : Int) : 0 ≤ wrap64 ((IntKind.u64.wrap z).tmod 3) ∧ wrap64 ((IntKind.u64.wrap z).tmod 3) < 3 := by
  rw [IntKind.wrap_u64, Int.tmod_eq_emod_of_nonneg (Int.emod_nonneg _ (by decide))]
  unfold wrap64
  omega
set_option maxHeartbeats 16000000 in
set_option maxRecDepth 20000 in
theorem dark_walk {w : World} {v1 v2 : Value} {l1 l2 : List Sp} (h1 : Steps w v1 l1) (h2 : Steps w v2 l2) : Calls Tryz.prog 5 #[v1, v2] w fun e w' => e = .returned (.bool true) ∧ Below w.heap.size w w' := by
  have HS1 := hid h1
  have HS2 := hid h2
  obtain ⟨a1, c1, rfl⟩ := h1.form
  obtain ⟨a2, c2, rfl⟩ := h2.form
  clear h1 h2
  generalize hL1 : l1.length = L1 at *
  generalize hL2 : l2.length = L2 at *
  have HL1 := hid hL1
  have HL2 := hid hL2
  clear hL1 hL2
  go_enter Tryz.func5, Tryz.ntmps5
  go_wp2_with fail
  refine long_any3 HS1.out _ (fun z1 w1 hb1 hz1 => ?_)
  have HB1 := hid hb1
  cases z1 with
  | true =>
    clear hb1 hz1
    go_wp2_with fail
    refine (awake_true w1).mono ?_
    rintro x w2 ⟨rfl, hb2⟩
    go_wp2_with fail
    go_ret
    exact ⟨rfl, HB1.out.trans (hb2.mono HB1.out.size)⟩
  | false =>
    have HF1 := hid (hz1 rfl)
    clear hb1 hz1
    go_wp2_with fail
    refine long_any3 (HS2.out.low HB1.out) _ (fun z2 w2 hb2 hz2 => ?_)
    have HB2 := hid (HB1.out.trans (hb2.mono HB1.out.size))
    clear HB1
    cases z2 with
    | true =>
      clear hb2 hz2
      go_wp2_with fail
      refine (awake_true w2).mono ?_
      rintro x w3 ⟨rfl, hb3⟩
      go_wp2_with fail
      go_ret
      exact ⟨rfl, HB2.out.trans (hb3.mono HB2.out.size)⟩
    | false =>
      have HF2 := hid (hz2 rfl)
      clear hb2 hz2
      go_wp2_with fail
      refine (awake_true w2).mono ?_
      rintro x w3 ⟨rfl, hb3⟩
      have HB3 := hid (HB2.out.trans (hb3.mono HB2.out.size))
      clear hb3 HB2
      go_wp2_with fail
      refine wnew_any w3 3 _ (fun hn => absurd (by decide) hn) (fun _ b g S lk w4 hI hl hx hS hb4 => ?_)
      have HI := hid (show IsWd w4 S b g (newW lk) ∧ lk.length = 3 ∧ (∀ x ∈ lk, x.st = st0 ∧ x.sus = false) ∧ (∀ i, S i → w3.heap.size ≤ i) ∧ Below w3.heap.size w3 w4 from ⟨hI, hl, hx, hS, hb4⟩)
      clear hI hl hx hS hb4
      go_wp2_with fail
      refine dnew_any w4 3 _ (fun hn => absurd (by decide) hn) (fun _ c g2 u2 T lr w5 hI5 hl5 hx5 hS5 hb5 => ?_)
      obtain ⟨i1, i2, i3, i4, i5⟩ := HI.out
      have HG := hid (GI.born HB3.out i1 i2 i3 i4 i5 hI5 hl5 hx5 hS5 hb5)
      clear i1 i2 i3 i4 i5 hI5 hl5 hx5 hS5 hb5 HI HB3
      go_wp2_with fail
      go_loopg [9] L1 (fun gk s9 wx => ∃ (k : Nat) (S : Nat → Prop) (s : Wd) (r : Rd) (s0 : Wd) (r0 : Rd), k + gk = L1 ∧ s9 = .int .i64 (k : Int) ∧ Hid (GI w wx k S b c (g, g2, u2) s r s0 r0))
      case atStart => exact ⟨0, _, _, _, _, _, by omega, rfl, HG⟩
      case round =>
        clear HG
        obtain ⟨k, S1, s, r, s0, r0, hk, rfl, HG⟩ := hrel
        have hL60 : L1 ≤ 60 := by have := HF1.out.1; rw [HL1.out] at this; exact this
        cases gk with
        | succ g1 =>
          have q1 : (k : Int) < (L1 : Int) := by omega
          have hk1 : k < L1 := by omega
          obtain ⟨x, hx⟩ : ∃ x, l1[k]? = some x := ⟨_, List.getElem?_eq_getElem (by rw [HL1.out]; exact hk1)⟩
          obtain ⟨sg, so, rfl, hx0, hcell⟩ := HS1.out.at HG.out.bw hx
          have HOK : Hid (SpOk w x) := hid (hx0.ok (HF1.out.2 x (List.mem_of_getElem? hx)))
          have HDO := HG.out.did (by omega) HOK.out
          obtain ⟨kd, ix, xn, xd, xl, xs, fk, ft, fn, fa, fc⟩ := x
          have c0 := hcell 0 _ rfl
          have c1 := hcell 1 _ rfl
          have c2 := hcell 2 _ rfl
          have c3 := hcell 3 _ rfl
          have c4 := hcell 4 _ rfl
          have c5 := hcell 5 _ rfl
          have c6 := hcell 6 _ rfl
          have c7 := hcell 7 _ rfl
          have c8 := hcell 8 _ rfl
          have c9 := hcell 9 _ rfl
          simp only [Nat.add_zero] at c0 c1 c2 c3 c4 c5 c6 c7 c8 c9
          unfold spcells ptr at HDO
          simp only at HDO
          clear hx hx0 hcell HOK
          go_wp2_with fail
          refine HDO _ fun z w6 S6 hg6 _ _ => ?_
          have HG6 := hid hg6
          clear hg6 HDO HG c0 c1 c2 c3 c4 c5 c6 c7 c8 c9
          go_wp2_with fail
          go_roundg g1
          case measure => omega
          case rel => exact ⟨k + 1, _, _, _, _, _, by omega, by first | rfl | simp, HG6⟩
        | zero =>
          have q1 : ¬ ((k : Int) < (L1 : Int)) := by omega
          obtain ⟨S1', k1, _, k3⟩ := HG.out.call
          have HCU := cut_any k1 0
          have HK3 := hid k3
          unfold ptr at HCU
          rw [show cutW s 0 = (0, { s with cut := true, left := 0 }) from rfl] at HCU
          unfold er at HCU
          simp only at HCU
          clear k1 k3
          go_wp2_with fail
          refine HCU.mono ?_
          clear HCU
          rintro x6 w6 ⟨rfl, ha6⟩
          obtain ⟨S6, hg6, _, _⟩ := HK3.out _ _ (cutD r0 0).2 ha6 ((HG.out.p1.cut 0 (by decide)).2.more (Nat.le_succ _)) (Nat.le_trans HG.out.c1 (Nat.le_succ _)) HG.out.l1
          have HG6 := hid hg6
          obtain ⟨s6, hs6⟩ : ∃ s6 : Wd, s6 = { s with cut := true, left := 0 } := ⟨_, rfl⟩
          have hcut6 : s6.cut = true ∧ s6.left = 0 := by rw [hs6]; exact ⟨rfl, rfl⟩
          rw [← hs6] at HG6
          clear hs6 hg6 ha6 HK3 HG
          obtain ⟨S7, k1, _, _⟩ := HG6.out.call
          have HCA := calls_any k1
          unfold ptr at HCA
          clear k1
          go_wp2_with fail
          refine HCA.mono ?_
          clear HCA
          rintro x7 w7 ⟨rfl, rfl⟩
          go_wp2_with fail
          have hL62 : L2 ≤ 60 := by have := HF2.out.1; rw [HL2.out] at this; exact this
          have HC6 := hid hcut6
          clear hcut6
          go_loopg [10, 11, 12, 13, 14] L2 (fun gk s10 s11 s12 s13 s14 wx => ∃ (k N : Nat) (S : Nat → Prop) (s : Wd) (r : Rd) (s0 : Wd) (r0 : Rd), k + gk = L2 ∧ s11 = .int .i64 (k : Int) ∧ s10 = .int .i64 (s.calls : Int) ∧ N ≤ 100 + 2 * k ∧ Hid (GI w wx N S b c (g, g2, u2) s r s0 r0 ∧ s.cut = true ∧ s.left = 0))
          case atStart => exact ⟨0, _, _, _, _, _, _, by omega, rfl, rfl, by omega, hid ⟨HG6.out, HC6.out⟩⟩
          case round =>
            clear HG6 HC6
            obtain ⟨k2, N, S8, s8, r8, s08, r08, hk2, rfl, rfl, hN8, HG⟩ := hrel
            cases gk with
            | zero =>
              have q2 : ¬ ((k2 : Int) < (L2 : Int)) := by omega
              go_wp2_with fail
              go_ret
              exact ⟨rfl, HG.out.1.bw⟩
            | succ g2' =>
              have q2 : (k2 : Int) < (L2 : Int) := by omega
              have hk1 : k2 < L2 := by omega
              obtain ⟨S9, k1, _, _⟩ := HG.out.1.call
              have HCO := wcopy_any k1 (by rw [HG.out.1.l1]; omega) (HG.out.1.p1.writeslen (by omega))
              unfold ptr at HCO
              clear k1
              go_wp2_with fail
              refine HCO.mono ?_
              clear HCO
              rintro y w4' ⟨b', rfl, g', S', l', e1, e2, e3, e4⟩
              have HCP := hid (show IsWd w4' S' b' g' { s8 with l := l' } ∧ sameK l' s8.l ∧ (∀ i, S' i → wr.heap.size ≤ i) from ⟨e1, e2, e3⟩)
              have HG4 := hid (HG.out.1.below e4)
              have HSZ := hid e4.size
              clear e1 e2 e3 e4
              obtain ⟨x, hx⟩ : ∃ x, l2[k2]? = some x := ⟨_, List.getElem?_eq_getElem (by rw [HL2.out]; exact hk1)⟩
              obtain ⟨sg, so, rfl, hx0, hcell⟩ := HS2.out.at HG4.out.bw hx
              have HOK : Hid (SpOk w x) := hid (hx0.ok (HF2.out.2 x (List.mem_of_getElem? hx)))
              obtain ⟨kd, ix, xn, xd, xl, xs, fk, ft, fn, fa, fc⟩ := x
              have c0 := hcell 0 _ rfl
              have c1 := hcell 1 _ rfl
              have c2 := hcell 2 _ rfl
              have c3 := hcell 3 _ rfl
              have c4 := hcell 4 _ rfl
              have c5 := hcell 5 _ rfl
              have c6 := hcell 6 _ rfl
              have c7 := hcell 7 _ rfl
              have c8 := hcell 8 _ rfl
              have c9 := hcell 9 _ rfl
              simp only [Nat.add_zero] at c0 c1 c2 c3 c4 c5 c6 c7 c8 c9
              clear hx hx0 hcell
              obtain ⟨xa, xc, exl⟩ := HOK.out.lv.form
              simp only at exl
              subst exl
              by_cases h4 : 4 < kd
              · have p4 : (4 : Int) < (kd : Int) := by omega
                have HGB := hid (HG4.out.below (boxed w4' (.cells #[.int .u8 (kd : Int), .int .i64 ix, .string xn, .string xd, .slice xa xs.length xc, .int .u8 fk, .int .i64 ft, .int .i64 fn, .int .i64 fa, .int .i64 fc] 40)))
                clear h4
                go_wp2_with fail
                go_roundg g2'
                case measure => omega
                case rel => exact ⟨k2 + 1, N, _, _, _, _, _, by omega, by first | rfl | simp, rfl, by omega, hid ⟨HGB.out, HG.out.2⟩⟩
              have p4 : ¬ (4 : Int) < (kd : Int) := by omega
              go_wp2_with fail
              have hM3 := mod3 ix
              generalize wrap64 ((IntKind.u64.wrap ix).tmod 3) = M at *
              have HOK2 : Hid (SpOk w ⟨kd, M, xn, xd, .slice xa xs.length xc, xs, fk, ft, fn, fa, fc⟩) := hid ⟨HOK.out.kd, by show M < _; omega, HOK.out.nm, HOK.out.lv, HOK.out.sl, HOK.out.fk0, HOK.out.fk1, HOK.out.fn, HOK.out.fa⟩
              have HBB := hid (boxed w4' (.cells #[.int .u8 (kd : Int), .int .i64 M, .string xn, .string xd, .slice xa xs.length xc, .int .u8 fk, .int .i64 ft, .int .i64 fn, .int .i64 fa, .int .i64 fc] 40))
              have HGB := hid (HG4.out.below HBB.out)
              have HBX := hid (Has.new w4' w4'.heap.size #[.int .u8 (kd : Int), .int .i64 M, .string xn, .string xd, .slice xa xs.length xc, .int .u8 fk, .int .i64 ft, .int .i64 fn, .int .i64 fa, .int .i64 fc] 40 rfl)
              have HDO := HGB.out.did (by omega) HOK2.out
              have HDK := hid (doW_dark (W := s8) (x := ⟨kd, M, xn, xd, .slice xa xs.length xc, xs, fk, ft, fn, fa, fc⟩) (show kd ≤ 4 by omega) (by rw [HG.out.1.l1]; exact hM3) HG.out.2.1 HG.out.2.2)
              unfold spcells ptr at HDO
              simp only at HDO
              refine HDO _ fun z w6 S6 hg6 hu6 ho6 => ?_
              rw [HDK.out] at hg6
              have HX6 := hid (ho6.has HBX.out (fun h => by have := HG4.out.dp.bound _ h; omega))
              have HC6 := hid ((HCP.out.1.below HBB.out).only ho6 fun i hi hS => by
                have := HCP.out.2.2 i hi
                have := HG.out.1.dp.bound i hS
                omega)
              obtain ⟨s6, hs6⟩ : ∃ s6 : Wd, s6 = { s8 with calls := s8.calls + 1, dark := true } := ⟨_, rfl⟩
              rw [← hs6] at hg6
              have HG6 := hid hg6
              have HS6 : Hid (s6.l = s8.l ∧ s6.calls = s8.calls + 1 ∧ s6.dark = true ∧ s6.cut = true ∧ s6.left = 0) := hid (by rw [hs6]; exact ⟨rfl, rfl, rfl, HG.out.2⟩)
              have HNX6 : Hid (¬ S6 w4'.heap.size) := hid fun h => by
                rcases hu6 _ h with h | h
                · have := HG4.out.dp.bound _ h; omega
                · have := HBX.out.lt; omega
              have HAP6 : Hid (∀ i, S' i → ¬ S6 i) := hid fun i hi h => by
                have a1 := HCP.out.2.2 i hi
                have a2 := HCP.out.1.bound i hi
                rcases hu6 _ h with h | h
                · have := HG.out.1.dp.bound i h; omega
                · have := HBX.out.lt; omega
              clear hs6 hg6 hu6 ho6 HDO HDK HBX HBB HGB HG4 c0 c1 c2 c3 c4 c5 c6 c7 c8 c9
              have hc8 := HG.out.1.c1
              have wN : IntKind.i64.wrap ((s8.calls : Int) + 1) = ((s8.calls + 1 : Nat) : Int) := wrapN (b := 1) (by omega)
              obtain ⟨S7, k1, _, k3⟩ := HG6.out.call
              have HCA := calls_any k1
              have HDA := dark_any k1
              have hc6 := HG6.out.c1
              have HSY := wsync_any k1 (by omega) HG6.out.p1.wl M
              have hin6 : 0 ≤ M ∧ M < (s6.l.length : Int) := by rw [HG6.out.l1]; exact hM3
              have hcw := countW_cut HS6.out.2.2.2.1 HS6.out.2.2.2.2
              rw [askS_dark hin6 (by rw [hcw])] at HSY
              have HPP := HG6.out.p1.ask M (f := sync) (f' := syncR) fun s r ht => ht.sync
              rw [askS_dark hin6 (by rw [hcw])] at HPP
              have HK3 := hid k3
              have HP2 := hid HPP.2
              have HCW := hid hcw
              have b1 := HX6.out.cell 1
              rw [HS6.out.2.1] at HCA
              rw [HS6.out.2.2.1] at HDA
              unfold ptr at HCA HDA HSY
              unfold er at HSY
              clear k1 k3 HPP hcw hin6
              go_wp2_with fail
              refine HCA.mono ?_
              clear HCA
              rintro x7 w7' ⟨rfl, rfl⟩
              go_wp2_with fail
              refine HDA.mono ?_
              clear HDA
              rintro x7 w7' ⟨rfl, rfl⟩
              go_wp2_with fail
              refine HSY.mono ?_
              clear HSY b1
              rintro x9 w9 ⟨rfl, ha9⟩
              obtain ⟨S9', hg9, _, ho9⟩ := HK3.out _ _ _ ha9 HP2.out (by rw [HCW.out]; show s6.calls + 1 ≤ _; omega) (by rw [HCW.out]; exact HG6.out.l1)
              have HC9 := hid (HC6.out.only ho9 HAP6.out)
              obtain ⟨s9, hs9⟩ : ∃ s9 : Wd, s9 = countW s6 := ⟨_, rfl⟩
              rw [← hs9] at hg9
              have HS9 : Hid (s9.l = s8.l ∧ s9.calls = s8.calls + 2 ∧ s9.cut = true ∧ s9.left = 0) := hid (by
                rw [hs9, HCW.out]
                exact ⟨HS6.out.1, by show s6.calls + 1 = _; rw [HS6.out.2.1], HS6.out.2.2.2.1, HS6.out.2.2.2.2⟩)
              have HG9 := hid (show ∃ r' s0' r0', GI w w9 (N + 1 + 1) S9' b c (g, g2, u2) s9 r' s0' r0' from ⟨_, _, _, hg9⟩)
              have HSK : Hid (sameK s9.l l') := hid (by have := HCP.out.2.1; unfold sameK at *; rw [HS9.out.1, this])
              clear hs9 hg9 ho9 ha9 HK3 HP2 HCW HG6 HC6 HAP6 HNX6 HX6 HS6 HCP HOK HOK2
              go_wp2_with fail
              go_loopg [14] 3 (fun gk s14 wx => ∃ j : Nat, j + gk = 3 ∧ s14 = .int .i64 (j : Int) ∧ Hid ((∃ r' s0' r0', GI w wx (N + 1 + 1) S9' b c (g, g2, u2) s9 r' s0' r0') ∧ IsWd wx S' b' g' { s8 with l := l' }))
              case atStart => exact ⟨0, by omega, rfl, hid ⟨HG9.out, HC9.out⟩⟩
              case round =>
                clear HG9 HC9
                obtain ⟨j, hj, rfl, HJ⟩ := hrel
                cases gk with
                | zero =>
                  have q5 : ¬ ((j : Int) < 3) := by omega
                  have hcc : ((s8.calls : Int) + 1 + 1) = ((s9.calls : Nat) : Int) := by rw [HS9.out.2.1]; omega
                  have HCC := hid hcc
                  clear hcc
                  obtain ⟨⟨r', s0', r0', hgj⟩, _⟩ := HJ.out
                  have HGJ := hid hgj
                  clear hgj
                  go_wp2_with fail
                  go_roundg g2'
                  case measure => omega
                  case rel => exact ⟨k2 + 1, N + 1 + 1, _, _, _, _, _, by omega, by first | rfl | simp, by rw [HCC.out], by omega, hid ⟨HGJ.out, HS9.out.2.2⟩⟩
                | succ g5 =>
                  have q5 : (j : Int) < 3 := by omega
                  obtain ⟨⟨r', s0', r0', hgj⟩, hcj⟩ := HJ.out
                  have HGJ := hid hgj
                  have HCJ := hid hcj
                  obtain ⟨Sx, k1, _, _⟩ := hgj.call
                  have HO1 := wobjs_any k1 (hgj.p1.seenlen (by omega)) (j : Int)
                  unfold ptr at HO1
                  clear k1 hgj hcj HJ
                  go_wp2_with fail
                  refine HO1.mono ?_
                  clear HO1
                  rintro y wy ⟨vy, rfl, hry, hby⟩
                  have HRY := hid hry
                  have HBY := hid hby
                  have HO2 := wobjs_any (HCJ.out.below hby) (fun x hx => by
                    obtain ⟨i, hi⟩ := List.getElem?_of_mem hx
                    have hm : (l'[i]?).map (fun x => (x.st, x.sus)) = (s9.l[i]?).map (fun x => (x.st, x.sus)) := by rw [← List.getElem?_map, ← List.getElem?_map, HSK.out]
                    rw [show l'[i]? = some x from hi] at hm
                    cases hz : s9.l[i]? with
                    | none => rw [hz] at hm; simp at hm
                    | some z =>
                      rw [hz] at hm
                      simp at hm
                      rw [hm.1]
                      exact HGJ.out.p1.seenlen (by omega) z (List.mem_of_getElem? hz)) (j : Int)
                  rw [← sameK_objs (W := s9) (V := { s8 with l := l' }) HSK.out (j : Int)] at HO2
                  unfold ptr at HO2
                  clear hry hby
                  go_wp2_with fail
                  refine HO2.mono ?_
                  clear HO2
                  rintro y wz ⟨vz, rfl, hrz, hbz⟩
                  have HSO := sameObj_any (row_below HRY.out hbz) hrz
                  rw [decide_eq_true rfl] at HSO
                  have HBZ := hid (HBY.out.trans (hbz.mono HBY.out.size))
                  clear hrz hbz HRY HBY
                  go_wp2_with fail
                  refine HSO.mono ?_
                  clear HSO
                  rintro y wu ⟨rfl, hbu⟩
                  have HBU := hid (HBZ.out.trans (hbu.mono HBZ.out.size))
                  clear hbu HBZ
                  have HGU := hid (HGJ.out.below HBU.out)
                  have HCU := hid (HCJ.out.below HBU.out)
                  obtain ⟨Sx, k1, _, _⟩ := HGU.out.call
                  have HU1 := wup_any k1 (j : Int)
                  have HU2 := wup_any HCU.out (j : Int)
                  rw [← sameK_up (W := s9) (V := { s8 with l := l' }) HSK.out (j : Int)] at HU2
                  unfold ptr at HU1 HU2
                  clear k1 HGJ HCJ HBU
                  generalize upW s9 (j : Int) = ub at *
                  go_wp2_with fail
                  refine HU1.mono ?_
                  clear HU1
                  rintro y wv ⟨rfl, rfl⟩
                  go_wp2_with fail
                  refine HU2.mono ?_
                  clear HU2
                  rintro y wv ⟨rfl, rfl⟩
                  have q6 : (ub != ub) = false := by simp
                  go_wp2_with fail
                  go_roundg g5
                  case measure => omega
                  case rel => exact ⟨j + 1, by omega, by first | rfl | simp, hid ⟨⟨_, _, _, HGU.out⟩, HCU.out⟩⟩
end Go.Proofs.YtgdiaflikfdnaaaGreat
