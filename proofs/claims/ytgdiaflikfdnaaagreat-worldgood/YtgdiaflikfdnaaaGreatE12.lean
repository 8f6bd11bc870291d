/- WorldGood: the walk. -/
import Derived.Test.YtgdiaflikfdnaaaGreatE11
namespace Go.Proofs.YtgdiaflikfdnaaaGreat
open Go.RowKit Go.Maps
set_option maxHeartbeats 16000000 in
set_option maxRecDepth 20000 in
theorem good_walk {w : World} {v1 v2 : Value} {l1 l2 : List Sp} (h1 : Steps w v1 l1) (h2 : Steps w v2 l2) (i : Int) (nm dt : ByteArray) (lv : Value) (sv : List Sv) (hlv : RdS w lv sv) (hsl : sv.length ≤ 9223372036854775807) : Calls Tryz.prog 4 #[v1, v2, .int .i64 i, .agg #[.string nm, .string dt], lv] w fun e w' => e = .returned (.bool true) ∧ Below w.heap.size w w' := by
  have HB0 := hid (boxed w (.cells #[.string nm, .string dt] 35))
  have HBX := hid (Has.new w w.heap.size #[.string nm, .string dt] 35 rfl)
  have HS1 := hid (h1.low HB0.out)
  have HS2 := hid (h2.low HB0.out)
  have HLV := hid (hlv.low HB0.out)
  have HSL := hid hsl
  obtain ⟨a1, c1, rfl⟩ := h1.form
  obtain ⟨a2, c2, rfl⟩ := h2.form
  obtain ⟨a3, c3, rfl⟩ := hlv.form
  clear h1 h2 hlv hsl
  generalize hL1 : l1.length = L1 at *
  generalize hL2 : l2.length = L2 at *
  generalize hL3 : sv.length = L3 at *
  have HL1 := hid hL1
  have HL2 := hid hL2
  have HL3 := hid hL3
  clear hL1 hL2 hL3
  obtain ⟨wa, hwa⟩ : ∃ wa, wa = w.alloc (.cells #[.string nm, .string dt] 35) := ⟨_, rfl⟩
  rw [← hwa] at HB0 HBX HS1 HS2 HLV
  have HFIN : Hid (∀ w', Below wa.heap.size wa w' → Below w.heap.size w w') := hid fun w' hb => HB0.out.trans (hb.mono HB0.out.size)
  have HLT : Hid (w.heap.size < wa.heap.size) := hid HBX.out.lt
  go_enter Tryz.func4, Tryz.ntmps4
  go_wp2_with fail
  rw [← hwa]
  clear hwa HB0
  refine long_any3 HS1.out _ (fun z1 w1 hb1 hz1 => ?_)
  have HB1 := hid hb1
  cases z1 with
  | true =>
    clear hb1 hz1
    go_wp2_with fail
    refine (awake_true w1).mono ?_
    rintro x w2 ⟨rfl, hb2⟩
    go_wp2_with fail
    go_ret
    exact ⟨rfl, HFIN.out _ (HB1.out.trans (hb2.mono HB1.out.size))⟩
  | false =>
    have HF1 := hid (hz1 rfl)
    clear hb1 hz1
    go_wp2_with fail
    refine long_any3 (HS2.out.low HB1.out) _ (fun z2 w2 hb2 hz2 => ?_)
    have HB2 := hid (HB1.out.trans (hb2.mono HB1.out.size))
    clear HB1
    cases z2 with
    | true =>
      clear hb2 hz2
      go_wp2_with fail
      refine (awake_true w2).mono ?_
      rintro x w3 ⟨rfl, hb3⟩
      go_wp2_with fail
      go_ret
      exact ⟨rfl, HFIN.out _ (HB2.out.trans (hb3.mono HB2.out.size))⟩
    | false =>
      have HF2 := hid (hz2 rfl)
      clear hb2 hz2
      have o1 : w2.cell? ⟨w.heap.size, 1, none⟩ = some (.string dt) := by rw [HB2.out.cell (p := ⟨w.heap.size, 1, none⟩) HLT.out]; exact HBX.out.cell 1
      by_cases n1 : 70000 < dt.size
      · have p1 : (70000 : Int) < (dt.size : Int) := by omega
        clear n1
        go_wp2_with fail
        refine (awake_true w2).mono ?_
        rintro x w3 ⟨rfl, hb3⟩
        go_wp2_with fail
        go_ret
        exact ⟨rfl, HFIN.out _ (HB2.out.trans (hb3.mono HB2.out.size))⟩
      have p1 : ¬ (70000 : Int) < (dt.size : Int) := by omega
      by_cases n2 : 50 < L3
      · have p2 : (50 : Int) < (L3 : Int) := by omega
        clear n2
        go_wp2_with fail
        refine (awake_true w2).mono ?_
        rintro x w3 ⟨rfl, hb3⟩
        go_wp2_with fail
        go_ret
        exact ⟨rfl, HFIN.out _ (HB2.out.trans (hb3.mono HB2.out.size))⟩
      have p2 : ¬ (50 : Int) < (L3 : Int) := by omega
      go_wp2_with fail
      refine (awake_true w2).mono ?_
      rintro x w3 ⟨rfl, hb3⟩
      have HB3 := hid (HB2.out.trans (hb3.mono HB2.out.size))
      clear hb3 HB2 o1 p1 p2
      go_wp2_with fail
      go_loopg [11] L3 (fun gk s11 wx => ∃ j : Nat, j + gk = L3 ∧ s11 = .int .i64 (j : Int) ∧ Below wa.heap.size wa wx)
      case atStart => exact ⟨0, by omega, rfl, HB3.out⟩
      case round =>
        clear HB3
        obtain ⟨j, hj, rfl, hbj⟩ := hrel
        have HBJ := hid hbj
        clear hbj
        cases gk with
        | succ g1 =>
          have q1 : (j : Int) < (L3 : Int) := by omega
          have hjm : j < L3 := by omega
          obtain ⟨y, hy⟩ : ∃ y, sv[j]? = some y := ⟨_, List.getElem?_eq_getElem (by rw [HL3.out]; exact hjm)⟩
          obtain ⟨k1, k2⟩ := HLV.out
          rcases k1 with ⟨A, c', e1, e2⟩ | ⟨g5, o5, cap5, _, e1, hg5, hc5⟩
          · rw [e2] at hy
            simp at hy
          · obtain ⟨ka, kc, hkv⟩ := (k2 y (List.mem_of_getElem? hy)).1.form
            have c5 : wr.cell? ⟨g5, o5 + j, none⟩ = some (.slice ka y.ks.length kc) := by rw [HBJ.out.cell (p := ⟨g5, o5 + j, none⟩) hg5, hc5 j y hy, hkv]
            cases e1
            clear k2 hc5 hg5 hy hkv
            by_cases n5 : 100 < y.ks.length
            · have p5 : (100 : Int) < (y.ks.length : Int) := by omega
              clear n5
              go_wp2_with fail
              go_ret
              exact ⟨rfl, HFIN.out _ HBJ.out⟩
            · have p5 : ¬ (100 : Int) < (y.ks.length : Int) := by omega
              clear n5
              go_wp2_with fail
              go_roundg g1
              case measure => omega
              case rel => exact ⟨j + 1, by omega, by first | rfl | simp, HBJ.out⟩
        | zero =>
          have q1 : ¬ ((j : Int) < (L3 : Int)) := by omega
          go_wp2_with fail
          refine wnew_any wr 3 _ (fun hn => absurd (by decide) hn) (fun _ b g S lk w4 hI hl hx hS hb4 => ?_)
          have HI := hid (show IsWd w4 S b g (newW lk) ∧ lk.length = 3 ∧ (∀ x ∈ lk, x.st = st0 ∧ x.sus = false) ∧ (∀ i, S i → wr.heap.size ≤ i) ∧ Below wr.heap.size wr w4 from ⟨hI, hl, hx, hS, hb4⟩)
          clear hI hl hx hS hb4
          go_wp2_with fail
          refine dnew_any w4 3 _ (fun hn => absurd (by decide) hn) (fun _ c g2 u2 T lr w5 hI5 hl5 hx5 hS5 hb5 => ?_)
          obtain ⟨i1, i2, i3, i4, i5⟩ := HI.out
          have HG := hid (GI.born HBJ.out i1 i2 i3 i4 i5 hI5 hl5 hx5 hS5 hb5)
          clear i1 i2 i3 i4 i5 hI5 hl5 hx5 hS5 hb5 HI
          go_wp2_with fail
          go_loopg [16] L1 (fun gk s16 wx => ∃ (k : Nat) (S : Nat → Prop) (s : Wd) (r : Rd) (s0 : Wd) (r0 : Rd), k + gk = L1 ∧ s16 = .int .i64 (k : Int) ∧ Hid (GI wa wx k S b c (g, g2, u2) s r s0 r0))
          case atStart => exact ⟨0, _, _, _, _, _, by omega, rfl, HG⟩
          case round =>
            clear HG HBJ q1
            obtain ⟨k, S1, s, r, s0, r0, hk, rfl, HG⟩ := hrel
            have hL60 : L1 ≤ 60 := by have := HF1.out.1; rw [HL1.out] at this; exact this
            cases gk with
            | succ g1 =>
              have q1 : (k : Int) < (L1 : Int) := by omega
              have hk1 : k < L1 := by omega
              obtain ⟨x, hx⟩ : ∃ x, l1[k]? = some x := ⟨_, List.getElem?_eq_getElem (by rw [HL1.out]; exact hk1)⟩
              obtain ⟨sg, so, rfl, hx0, hcell⟩ := HS1.out.at HG.out.bw hx
              have HOK : Hid (SpOk wa x) := hid (hx0.ok (HF1.out.2 x (List.mem_of_getElem? hx)))
              have HDO := HG.out.did (by omega) HOK.out
              obtain ⟨kd, ix, xn, xd, xl, xs, fk, ft, fn, fa, fc⟩ := x
              have c0 := hcell 0 _ rfl
              have c1 := hcell 1 _ rfl
              have c2 := hcell 2 _ rfl
              have c3 := hcell 3 _ rfl
              have c4 := hcell 4 _ rfl
              have c5 := hcell 5 _ rfl
              have c6 := hcell 6 _ rfl
              have c7 := hcell 7 _ rfl
              have c8 := hcell 8 _ rfl
              have c9 := hcell 9 _ rfl
              simp only [Nat.add_zero] at c0 c1 c2 c3 c4 c5 c6 c7 c8 c9
              unfold spcells ptr at HDO
              simp only at HDO
              clear hx hx0 hcell HOK
              go_wp2_with fail
              refine HDO _ fun z w6 S6 hg6 _ _ => ?_
              have HG6 := hid hg6
              clear hg6 HDO HG c0 c1 c2 c3 c4 c5 c6 c7 c8 c9
              go_wp2_with fail
              go_roundg g1
              case measure => omega
              case rel => exact ⟨k + 1, _, _, _, _, _, by omega, by first | rfl | simp, HG6⟩
            | zero =>
              have q1 : ¬ ((k : Int) < (L1 : Int)) := by omega
              obtain ⟨S2, k1, _, k3⟩ := HG.out.call
              have hkc := HG.out.c1
              have HPU := wput_any k1 (by omega) HG.out.p1.wl HG.out.p1.fit (by omega) i nm dt
              have HK3 := hid k3
              have HPP := hid (HG.out.p1.ask i (f := fun s => putS s nm dt) (f' := fun r => putR r nm dt) fun s r ht => ht.put nm dt)
              have HKP := hid (askS_keeps s i (fun s => putS s nm dt))
              have o0 : wr.cell? ⟨w.heap.size, 0, none⟩ = some (.string nm) := by rw [HG.out.bw.cell (p := ⟨w.heap.size, 0, none⟩) HLT.out]; exact HBX.out.cell 0
              have o1 : wr.cell? ⟨w.heap.size, 1, none⟩ = some (.string dt) := by rw [HG.out.bw.cell (p := ⟨w.heap.size, 1, none⟩) HLT.out]; exact HBX.out.cell 1
              unfold ptr obv er at HPU
              have HPZ := hid (fun h => put_small (askS_zero (W := s) (i := i) (f := fun s => putS s nm dt) h).choose_spec)
              have HBG := hid (fun h1 h2 => HoldsAt.begin (i := i) (n := nm) (d := dt) HG.out.p1 h1 h2)
              clear k1 k3
              go_wp2_with fail
              refine HPU.mono ?_
              clear HPU o0 o1
              rintro y w6 ⟨rfl, ha6⟩
              obtain ⟨S6, hg6, _, _⟩ := HK3.out _ _ _ ha6 HPP.out.2 (by have := HKP.out.2; omega) (by rw [HKP.out.1]; exact HG.out.l1)
              have HG6 := hid hg6
              have HZ1 := hid HPP.out.1
              have HLL := hid HG.out.l1
              clear hg6 ha6 HK3 HKP HPP HG
              generalize (askD r0 i fun r => putR r nm dt).1 = y1 at *
              generalize (askD r0 i fun r => putR r nm dt).2 = r6 at *
              generalize (askS s i fun s => putS s nm dt).2 = s6 at *
              generalize (askS s i fun s => putS s nm dt).1 = z1 at *
              by_cases hp : z1 = 0
              case neg =>
                have p3 : (z1 != 0) = true := by simpa using hp
                clear hp
                go_wp2_with fail
                go_ret
                exact ⟨rfl, HFIN.out _ HG6.out.bw⟩
              subst hp
              have HNS : Hid (nm.size ≤ 80) := hid (HPZ.out rfl)
              obtain ⟨S3, k1, _, k3⟩ := HG6.out.call
              have hkc6 := HG6.out.c1
              have HSY := wsync_any k1 (by omega) HG6.out.p1.wl i
              have HK3 := hid k3
              have HPP := hid (HG6.out.p1.ask i (f := sync) (f' := syncR) fun s r ht => ht.sync)
              have HKP := hid (askS_keeps s6 i sync)
              unfold ptr er at HSY
              clear k1 k3 HPZ
              go_wp2_with fail
              refine HSY.mono ?_
              clear HSY
              rintro y w7 ⟨rfl, ha7⟩
              obtain ⟨S7, hg7, _, _⟩ := HK3.out _ _ _ ha7 HPP.out.2 (by have := HKP.out.2; omega) (by rw [HKP.out.1]; exact HG6.out.l1)
              have HG7 := hid hg7
              have HZ2 := hid HPP.out.1
              clear hg7 ha7 HK3 HKP HPP
              have HBG2 : Hid (∀ h2 : (askS s6 i sync).1 = 0, (0 ≤ i ∧ i < 3) ∧ HoldsAt i.toNat nm dt (askD r6 i syncR).2) := hid fun h2 => by
                have := HBG.out HZ1.out (HZ2.out.trans h2)
                rw [HLL.out] at this
                exact this
              clear HBG HZ1 HZ2 HG6 hkc6 HLL
              generalize (askD r6 i syncR).2 = r7 at *
              generalize (askS s6 i sync).2 = s7 at *
              generalize (askS s6 i sync).1 = z2 at *
              by_cases hp : z2 = 0
              case neg =>
                have p3 : (z2 != 0) = true := by simpa using hp
                clear hp
                go_wp2_with fail
                go_ret
                exact ⟨rfl, HFIN.out _ HG7.out.bw⟩
              subst hp
              obtain ⟨hi3, hhold⟩ := HBG2.out rfl
              have HH0 := hid hhold
              clear hhold HBG2
              go_wp2_with fail
              have hL62 : L2 ≤ 60 := by have := HF2.out.1; rw [HL2.out] at this; exact this
              go_loopg [17, 18] L2 (fun gk s17 s18 wx => ∃ (k N : Nat) (S : Nat → Prop) (s : Wd) (r : Rd) (s0 : Wd) (r0 : Rd), k + gk = L2 ∧ s17 = .int .i64 (k : Int) ∧ N ≤ 100 + k ∧ Hid (GI wa wx N S b c (g, g2, u2) s r s0 r0 ∧ HoldsAt i.toNat nm dt r0))
              case atStart => exact ⟨0, _, _, _, _, _, _, by omega, rfl, by omega, hid ⟨HG7.out, HH0.out⟩⟩
              case round =>
                clear HG7 HH0
                obtain ⟨k2, N, S8, s8, r8, s08, r08, hk2, rfl, hN8, HG⟩ := hrel
                cases gk with
                | zero =>
                  have q2 : ¬ ((k2 : Int) < (L2 : Int)) := by omega
                  obtain ⟨S9, k1, ku, k3⟩ := HG.out.1.call
                  have HCR := wcrash_any k1 (by rw [HG.out.1.l1]; omega) HG.out.1.p1.fit2 (by omega) HG.out.1.bw (fun i hi => HG.out.1.up i (ku i hi)) _ sv HLV.out (by rw [HL3.out]; exact HSL.out)
                  have HK3 := hid k3
                  unfold ptr er at HCR
                  clear k1 k3 ku
                  go_wp2_with fail
                  refine HCR.mono ?_
                  clear HCR
                  rintro y w8 ⟨rfl, ha8⟩
                  obtain ⟨S10, hg8, _, _⟩ := HK3.out _ _ _ ha8 (HG.out.1.p1.crash sv) (Nat.le_trans HG.out.1.c1 (Nat.le_succ _)) (by simpa [crashW] using HG.out.1.l1)
                  have hh8 : HoldsAt i.toNat nm dt (crashD r08 sv) := HG.out.2.did (x := ⟨6, 0, nm, dt, .nilFunc, sv, 0, 0, 0, 0, 0⟩) (fun h => by cases h) (fun h => by rcases h with h | h <;> cases h)
                  have hget := hg8.p1.get i nm
                  have hget2 := hh8.get rfl rfl
                  rw [show ((i.toNat : Nat) : Int) = i by omega, hget] at hget2
                  obtain ⟨S11, k1, _, k3⟩ := hg8.call
                  have hc8 := hg8.c1
                  have HGE := wget_any k1 (by omega) hg8.p1.wl i nm (by have := HNS.out; omega)
                  rw [hget2] at HGE
                  have HB8 := hid hg8.bw
                  have HFI : Hid (∀ w', AfterW w8 w' S11 b g (askW (crashW s8 sv) i) → Below wa.heap.size wa w') := hid fun w' ha => by
                    have hk := askW_keeps (crashW s8 sv) i
                    obtain ⟨_, hg9, _⟩ := k3 _ _ _ ha ((hg8.p1.asked i).more (Nat.le_succ _)) (by omega) (by rw [hk.1]; exact hg8.l1)
                    exact hg9.bw
                  have o0 : w8.cell? ⟨w.heap.size, 0, none⟩ = some (.string nm) := by rw [HB8.out.cell (p := ⟨w.heap.size, 0, none⟩) HLT.out]; exact HBX.out.cell 0
                  unfold ptr er at HGE
                  clear k1 k3 hget hget2 hh8 hg8 ha8 HK3 hc8
                  go_wp2_with fail
                  refine HGE.mono ?_
                  clear HGE o0
                  rintro y w9 ⟨rfl, ha9⟩
                  have HB9 := hid (HFI.out _ ha9)
                  have o1 : w9.cell? ⟨w.heap.size, 1, none⟩ = some (.string dt) := by rw [HB9.out.cell (p := ⟨w.heap.size, 1, none⟩) HLT.out]; exact HBX.out.cell 1
                  have q9 : (dt.toList == dt.toList) = true := by simp
                  clear ha9 HFI
                  go_wp2_with fail
                  go_ret
                  exact ⟨rfl, HFIN.out _ HB9.out⟩
                | succ g2 =>
                  have q2 : (k2 : Int) < (L2 : Int) := by omega
                  have hk1 : k2 < L2 := by omega
                  obtain ⟨x, hx⟩ : ∃ x, l2[k2]? = some x := ⟨_, List.getElem?_eq_getElem (by rw [HL2.out]; exact hk1)⟩
                  obtain ⟨sg, so, rfl, hx0, hcell⟩ := HS2.out.at HG.out.1.bw hx
                  have HOK : Hid (SpOk wa x) := hid (hx0.ok (HF2.out.2 x (List.mem_of_getElem? hx)))
                  obtain ⟨kd, ix, xn, xd, xl, xs, fk, ft, fn, fa, fc⟩ := x
                  have c0 := hcell 0 _ rfl
                  have c1 := hcell 1 _ rfl
                  have c2 := hcell 2 _ rfl
                  have c3 := hcell 3 _ rfl
                  have c4 := hcell 4 _ rfl
                  have c5 := hcell 5 _ rfl
                  have c6 := hcell 6 _ rfl
                  have c7 := hcell 7 _ rfl
                  have c8 := hcell 8 _ rfl
                  have c9 := hcell 9 _ rfl
                  simp only [Nat.add_zero] at c0 c1 c2 c3 c4 c5 c6 c7 c8 c9
                  clear hx hx0 hcell
                  obtain ⟨xa, xc, exl⟩ := HOK.out.lv.form
                  simp only at exl
                  subst exl
                  by_cases k7 : kd = 7
                  · subst k7
                    have HGB := hid (HG.out.1.below (boxed wr (.cells #[.int .u8 7, .int .i64 ix, .string xn, .string xd, .slice xa xs.length xc, .int .u8 fk, .int .i64 ft, .int .i64 fn, .int .i64 fa, .int .i64 fc] 40)))
                    have o0 : ∀ o, (wr.alloc o).cell? ⟨w.heap.size, 0, none⟩ = some (.string nm) := fun o => by rw [(HG.out.1.below (boxed wr o)).bw.cell (p := ⟨w.heap.size, 0, none⟩) HLT.out]; exact HBX.out.cell 0
                    by_cases kf : ft = i
                    · have e7 : (ft == i) = true := by simpa using kf
                      clear kf
                      go_wp2_with fail
                      go_roundg g2
                      case measure => omega
                      case rel => exact ⟨k2 + 1, N, _, _, _, _, _, by omega, by first | rfl | simp, by omega, hid ⟨HGB.out, HG.out.2⟩⟩
                    · have e7 : (ft == i) = false := by simpa using kf
                      have HDO := HGB.out.did (by omega) HOK.out
                      unfold spcells ptr at HDO
                      simp only at HDO
                      go_wp2_with fail
                      refine HDO _ fun z w6 S6 hg6 _ _ => ?_
                      have HG6 := hid hg6
                      clear hg6 HDO HGB o0 c0 c1 c2 c3 c4 c5 c6 c7 c8 c9
                      go_wp2_with fail
                      go_roundg g2
                      case measure => omega
                      case rel => exact ⟨k2 + 1, N + 1, _, _, _, _, _, by omega, by first | rfl | simp, by omega, hid ⟨HG6.out, HG.out.2.did (fun _ => by show ft.toNat ≠ i.toNat ∨ ft < 0; omega) (fun h => by rcases h with h | h <;> cases h)⟩⟩
                  have e7 : ((kd : Int) == 7) = false := beq_eq_false_iff_ne.2 (by omega)
                  by_cases k0 : kd = 0
                  · subst k0
                    have HGB := hid (HG.out.1.below (boxed wr (.cells #[.int .u8 0, .int .i64 ix, .string xn, .string xd, .slice xa xs.length xc, .int .u8 fk, .int .i64 ft, .int .i64 fn, .int .i64 fa, .int .i64 fc] 40)))
                    have o0 : ∀ o, (wr.alloc o).cell? ⟨w.heap.size, 0, none⟩ = some (.string nm) := fun o => by rw [(HG.out.1.below (boxed wr o)).bw.cell (p := ⟨w.heap.size, 0, none⟩) HLT.out]; exact HBX.out.cell 0
                    clear e7
                    by_cases kf : xn.toList = nm.toList
                    · have e8 : (xn.toList == nm.toList) = true := by rw [kf]; simp
                      clear kf
                      go_wp2_with fail
                      go_roundg g2
                      case measure => omega
                      case rel => exact ⟨k2 + 1, N, _, _, _, _, _, by omega, by first | rfl | simp, by omega, hid ⟨HGB.out, HG.out.2⟩⟩
                    · have e8 : (xn.toList == nm.toList) = false := beq_eq_false_iff_ne.2 kf
                      have HDO := HGB.out.did (by omega) HOK.out
                      unfold spcells ptr at HDO
                      simp only at HDO
                      go_wp2_with fail
                      refine HDO _ fun z w6 S6 hg6 _ _ => ?_
                      have HG6 := hid hg6
                      clear hg6 HDO HGB o0 c0 c1 c2 c3 c4 c5 c6 c7 c8 c9
                      go_wp2_with fail
                      go_roundg g2
                      case measure => omega
                      case rel => exact ⟨k2 + 1, N + 1, _, _, _, _, _, by omega, by first | rfl | simp, by omega, hid ⟨HG6.out, HG.out.2.did (fun h => by cases h) (fun _ h => kf (by rw [show xn = nm from h]))⟩⟩
                  have e0 : ((kd : Int) == 0) = false := beq_eq_false_iff_ne.2 (by omega)
                  by_cases k2' : kd = 2
                  · subst k2'
                    have HGB := hid (HG.out.1.below (boxed wr (.cells #[.int .u8 2, .int .i64 ix, .string xn, .string xd, .slice xa xs.length xc, .int .u8 fk, .int .i64 ft, .int .i64 fn, .int .i64 fa, .int .i64 fc] 40)))
                    have o0 : ∀ o, (wr.alloc o).cell? ⟨w.heap.size, 0, none⟩ = some (.string nm) := fun o => by rw [(HG.out.1.below (boxed wr o)).bw.cell (p := ⟨w.heap.size, 0, none⟩) HLT.out]; exact HBX.out.cell 0
                    clear e7
                    by_cases kf : xn.toList = nm.toList
                    · have e8 : (xn.toList == nm.toList) = true := by rw [kf]; simp
                      clear kf
                      go_wp2_with fail
                      go_roundg g2
                      case measure => omega
                      case rel => exact ⟨k2 + 1, N, _, _, _, _, _, by omega, by first | rfl | simp, by omega, hid ⟨HGB.out, HG.out.2⟩⟩
                    · have e8 : (xn.toList == nm.toList) = false := beq_eq_false_iff_ne.2 kf
                      have HDO := HGB.out.did (by omega) HOK.out
                      unfold spcells ptr at HDO
                      simp only at HDO
                      go_wp2_with fail
                      refine HDO _ fun z w6 S6 hg6 _ _ => ?_
                      have HG6 := hid hg6
                      clear hg6 HDO HGB o0 c0 c1 c2 c3 c4 c5 c6 c7 c8 c9
                      go_wp2_with fail
                      go_roundg g2
                      case measure => omega
                      case rel => exact ⟨k2 + 1, N + 1, _, _, _, _, _, by omega, by first | rfl | simp, by omega, hid ⟨HG6.out, HG.out.2.did (fun h => by cases h) (fun _ h => kf (by rw [show xn = nm from h]))⟩⟩
                  have e2 : ((kd : Int) == 2) = false := beq_eq_false_iff_ne.2 (by omega)
                  have HGB := hid (HG.out.1.below (boxed wr (.cells #[.int .u8 (kd : Int), .int .i64 ix, .string xn, .string xd, .slice xa xs.length xc, .int .u8 fk, .int .i64 ft, .int .i64 fn, .int .i64 fa, .int .i64 fc] 40)))
                  have o0 : ∀ o, (wr.alloc o).cell? ⟨w.heap.size, 0, none⟩ = some (.string nm) := fun o => by rw [(HG.out.1.below (boxed wr o)).bw.cell (p := ⟨w.heap.size, 0, none⟩) HLT.out]; exact HBX.out.cell 0
                  have HDO := HGB.out.did (by omega) HOK.out
                  unfold spcells ptr at HDO
                  simp only at HDO
                  go_wp2_with fail
                  refine HDO _ fun z w6 S6 hg6 _ _ => ?_
                  have HG6 := hid hg6
                  clear hg6 HDO HGB o0 c0 c1 c2 c3 c4 c5 c6 c7 c8 c9
                  go_wp2_with fail
                  go_roundg g2
                  case measure => omega
                  case rel => exact ⟨k2 + 1, N + 1, _, _, _, _, _, by omega, by first | rfl | simp, by omega, hid ⟨HG6.out, HG.out.2.did (fun h => absurd h k7) (fun h => h.elim (fun h => absurd h k0) fun h => absurd h k2')⟩⟩
end Go.Proofs.YtgdiaflikfdnaaaGreat
