/- StripeWorse: the walk. -/
import Derived.Test.YtffhobkoagnhhaaGreatDoorOpn2
namespace Go.Proofs.YtffhobkoagnhhaaGreatDoor
open Go.RowKit Go.Maps
open W
set_option linter.unusedVariables false
variable {w0 w w' : World} {b : Nat} {V V' : Wd} {T : Nat → Prop} {K N : Int} {bl : List Nat}
/-- what is read behind the crash -/
theorem worse_read {n k : Nat} {lose : List Bool} {a : Int} (h : WI n (lostS K N bl lose k) V) (hm : C.Mx.mayC K N = true) (hN : N = (n : Int)) (hb : bl.length ≤ 32768) (hlt : ∀ x ∈ bl, x < 256) (hk : k = lose.length ∧ k ≤ n ∨ k = n) (sv : List Sv) {o : ByteArray} {z : Int} {V' : Wd} (hr : ReadIs (crashW (wrG { V with cut := true, left := a.toNat } K N bl).2 sv) K N (dig bl) o z V') : (o = C.ofBs bl ∧ z = 0) ∨ (N - (goneN lose k : Int) < K ∧ z = 54) := by
  have hG : ∀ (m : Nat) (x : Kp), V.l[m]? = some x → x.st = held K N bl m ∨ (¬ (lose.getD m false = false) ∧ x.st = st0) := fun m x hx => by
    have := h.st m x hx
    unfold lostS at this
    by_cases c : m < k ∧ lose.getD m false = true
    · rw [if_pos c] at this
      exact .inr ⟨by rw [c.2]; decide, this⟩
    · rw [if_neg c] at this
      exact .inl this
  have hM := write_mid (V := { V with cut := true, left := a.toNat }) (G := fun m => lose.getD m false = false) hm (by show N = (V.l.length : Int); rw [h.len]; exact hN) hb hG
  obtain ⟨V3, hV3⟩ : ∃ V3, V3 = (wrG { V with cut := true, left := a.toNat } K N bl).2 := ⟨_, rfl⟩
  rw [← hV3] at hM hr
  have hl3 : V3.l.length = n := by rw [hM.1]; exact h.len
  have hC : ∀ (m : Nat) (y : Kp), (crashW V3 sv).l[m]? = some y → Left K N bl m y.st ∧ (lose.getD m false = false → y.st = held K N bl m) := fun m y hy => by
    obtain ⟨x, hx, e⟩ := crashW_at hy
    have hmn : m < n := by rw [← hl3]; exact (List.getElem?_eq_some_iff.1 hx).1
    rw [e]
    exact (hM.2 m x hx).crash hm hb (by omega) _
  have hlc : (crashW V3 sv).l.length = n := by rw [crashW_len]; exact hl3
  have hR := left_read (V := crashW V3 sv) ⟨rfl, rfl⟩ hm (by rw [hlc]; exact hN) hb hlt (fun m y hy => (hC m y hy).1) hr
  have hg := left_gone (K := K) (N := N) (bl := bl) lose (l := (crashW V3 sv).l) (fun m y hy h2 => (hC m y hy).2 h2) n (by omega)
  have hgn := goneN_min lose n k hk
  rw [hlc] at hR
  rcases hR with ⟨_, h1, h2⟩ | ⟨h1, h2⟩
  · exact .inl ⟨h1, h2⟩
  · exact .inr ⟨by omega, h2⟩
theorem worse_fit {n k : Nat} {lose : List Bool} {a : Int} (h : WI n (lostS K N bl lose k) V) (hm : C.Mx.mayC K N = true) (hN : N = (n : Int)) (hb : bl.length ≤ 32768) : ∀ x ∈ (wrG { V with cut := true, left := a.toNat } K N bl).2.l, x.st.writes ≠ [] → x.st.live = true := fun x hx hw => by
  have hM := write_mid (V := { V with cut := true, left := a.toNat }) (G := fun m => lose.getD m false = false) hm (by show N = (V.l.length : Int); rw [h.len]; exact hN) hb (fun m x hx => by
    have := h.st m x hx
    unfold lostS at this
    by_cases c : m < k ∧ lose.getD m false = true
    · rw [if_pos c] at this
      exact .inr ⟨by rw [c.2]; decide, this⟩
    · rw [if_neg c] at this
      exact .inl this)
  obtain ⟨m, hml, e⟩ := List.getElem_of_mem hx
  rcases hM.2 m x (List.getElem?_eq_some_iff.2 ⟨hml, e⟩) with h | ⟨_, h | h⟩
  · rw [h]; rfl
  · rw [h] at hw; exact absurd rfl hw
  · rw [h]; rfl
set_option maxHeartbeats 8000000 in
set_option maxRecDepth 20000 in
theorem worse_walk (hl : H.Lay w) (s : ByteArray) {vl vc : Value} {lose : List Bool} {sv : List Sv} (hlo : RdB w vl lose) (hsv : RdS w vc sv) (hsl : sv.length ≤ 9223372036854775807) (cut : Int) : Calls Tryz.prog 6 #[.agg #[.int .i64 K, .int .i64 N], .string s, vl, .int .i64 cut, vc] w fun e w' => e = .returned (.bool true) ∧ Below w.heap.size w w' := by
  have HL := hid hl
  have HLO := hid hlo
  have HSV := hid hsv
  have HSL := hid hsl
  obtain ⟨al, cl, rfl⟩ := hlo.form
  obtain ⟨ac, cc, rfl⟩ := hsv.form
  obtain ⟨hb1, hb2, hb3⟩ := bl_of s
  obtain ⟨bl, hbl⟩ : ∃ bl, bl = H.bs s := ⟨_, rfl⟩
  rw [← hbl] at hb1 hb2 hb3
  have HB1 := hid hb1
  have HB2 := hid hb2
  have HB3 := hid hb3
  clear hl hlo hsv hsl hbl hb1 hb2 hb3
  generalize hL1 : lose.length = L1 at *
  generalize hL2 : sv.length = L2 at *
  have HL1 := hid hL1
  have HL2 := hid hL2
  clear hL1 hL2
  obtain ⟨q, hqq⟩ : ∃ q, q = w.heap.size := ⟨_, rfl⟩
  obtain ⟨wa, hwa⟩ : ∃ wa, wa = w.alloc (.cells #[.int .i64 K, .int .i64 N] 25) := ⟨_, rfl⟩
  have HB := hid (boxed w (.cells #[.int .i64 K, .int .i64 N] 25))
  have HX := hid (Has.new w w.heap.size #[.int .i64 K, .int .i64 N] 25 rfl)
  rw [← hwa] at HB HX
  rw [← hqq] at HX
  have HQ0 : Hid (q = w.heap.size) := hid hqq
  go_enter Tryz.func6, Tryz.ntmps6
  go_wp2_with fail
  rw [← hwa, ← hqq]
  clear hwa hqq
  refine works_true _ (HL.out.below HB.out) _ ?_
  intro w1 hw1
  have HBw := hid (HB.out.trans (hw1.mono HB.out.size))
  have HX1 := hid (HX.out.below hw1 HX.out.lt)
  clear hw1 HB HX
  have big : ∀ w2, Below w.heap.size w w2 → Calls Tryz.prog 7 #[] w2 fun e w' => e = .returned (.bool true) ∧ Below w.heap.size w w' := fun w2 h2 => works_true _ (HL.out.below h2) _ fun w3 h3 => ⟨rfl, h2.trans (h3.mono h2.size)⟩
  have HBIG := hid big
  clear big
  by_cases n1 : 2000 < s.size
  · have p1 : (2000 : Int) < (s.size : Int) := by omega
    clear n1
    go_wp2_with fail
    refine (HBIG.out w1 HBw.out).mono ?_
    rintro _ w2 ⟨rfl, hb⟩
    go_wp2_with fail
    go_ret
    exact ⟨rfl, hb⟩
  have p1 : ¬ (2000 : Int) < (s.size : Int) := by omega
  by_cases n2 : 50 < L1
  · have p2 : (50 : Int) < (L1 : Int) := by omega
    clear n2
    go_wp2_with fail
    refine (HBIG.out w1 HBw.out).mono ?_
    rintro _ w2 ⟨rfl, hb⟩
    go_wp2_with fail
    go_ret
    exact ⟨rfl, hb⟩
  have p2 : ¬ (50 : Int) < (L1 : Int) := by omega
  by_cases n3 : 50 < L2
  · have p3 : (50 : Int) < (L2 : Int) := by omega
    clear n3
    go_wp2_with fail
    refine (HBIG.out w1 HBw.out).mono ?_
    rintro _ w2 ⟨rfl, hb⟩
    go_wp2_with fail
    go_ret
    exact ⟨rfl, hb⟩
  have p3 : ¬ (50 : Int) < (L2 : Int) := by omega
  have HBL : Hid (bl.length ≤ 32768) := hid (by rw [HB3.out]; omega)
  clear n1 n2 n3 HBIG
  obtain ⟨c0, c1, f0, f1⟩ := two_cells HX1.out
  go_wp2_with fail
  clear p1 p2 p3
  refine wnew_any w1 N _ (fun hn => ?_) (fun hn b g S lk w2 hI hlk hx hS hb2 => ?_)
  · clear c0 c1 f0 f1
    go_wp2_with fail
    go_ret
    exact ⟨rfl, HBw.out⟩
  obtain ⟨n, hnN⟩ : ∃ n : Nat, N = (n : Int) := ⟨N.toNat, by omega⟩
  have hn12 : n ≤ 12 := by omega
  have hn1 : 1 ≤ n := by omega
  have HN := hid hnN
  clear hnN
  have HN12 := hid hn12
  have HX2 := hid (HX1.out.below hb2 HX1.out.lt)
  have HW2 := hid (show WT w w2 b (newW lk) (fun i => i = q) from ⟨S, g, hI, fun i hi => Nat.le_trans HBw.out.size (hS i hi), HBw.out.trans (hb2.mono HBw.out.size), fun i hi => by
    rw [hi]
    refine ⟨fun hs => ?_, HX2.out.lt⟩
    have := hS _ hs
    have := HX1.out.lt
    omega⟩)
  have HI2 := hid (WI.fresh (n := n) (by rw [hlk]; have := HN.out; omega) hx)
  clear hI hlk hx hS hb2 c0 c1 f0 f1 HX1 HBw
  obtain ⟨c0, c1, f0, f1⟩ := two_cells HX2.out
  go_wp2_with fail
  refine writeX HW2.out HL.out (HI2.out.ok fun m s _ h => by rw [h]; exact fit_st) (by decide) HB1.out HB2.out _ ?_
  intro w3 h3 k3 _
  cases hm : C.Mx.mayC K N with
  | false =>
    rw [wrG_bad hm] at h3 ⊢
    have HX3 := hid (k3.has rfl HX2.out)
    have HE := hid h3.base
    clear h3 k3 c0 c1 f0 f1
    obtain ⟨c0, c1, f0, f1⟩ := two_cells HX3.out
    have hKN : K < 1 ∨ N < K := by
      unfold C.Mx.mayC at hm
      have := of_decide_eq_false hm
      omega
    by_cases k1 : K < 1
    · clear hKN hn hn1 hn12 hm
      go_wp2_with fail
      go_ret
      exact ⟨rfl, HE.out⟩
    · have k2 : N < K := by omega
      clear hKN hn hn1 hn12 hm
      go_wp2_with fail
      go_ret
      exact ⟨rfl, HE.out⟩
  | true =>
    have HM := hid hm
    obtain ⟨V3, hw3, hI3, _⟩ := HI2.out.write rfl hn12 hm HN.out HBL.out
    rw [hw3] at h3 ⊢
    have HX3 := hid (k3.has rfl HX2.out)
    have HW3 := hid h3
    have HI3 := hid (show WI n (lostS K N bl lose 0) V3 from ⟨hI3.lit, hI3.len, fun m x hx => by unfold lostS; rw [if_neg (fun e => by omega)]; exact hI3.st m x hx, hI3.calls, hI3.left⟩)
    clear h3 k3 c0 c1 f0 f1 hw3 hI3 hm HX2 HW2 HI2
    go_wp2_with fail
    go_loopg [14, 15] (min L1 n) (fun gk s14 s15 wx => ∃ (k : Nat) (V : Wd), k + gk = min L1 n ∧ s15 = .int .i64 (k : Int) ∧ s14 = .int .i64 (goneN lose k : Int) ∧ Hid (WT w wx b V (fun i => i = q)) ∧ Hid (Has wx q #[.int .i64 K, .int .i64 N] 25) ∧ Hid (WI n (lostS K N bl lose k) V))
    case atStart => exact ⟨0, V3, by omega, rfl, rfl, HW3, HX3, HI3⟩
    case round =>
      clear HW3 HX3 HI3
      obtain ⟨k, V, hk, rfl, rfl, HW, HX, HI⟩ := hrel
      obtain ⟨c0, c1, f0, f1⟩ := two_cells HX.out
      have hg := goneN_le lose k
      cases gk with
      | zero =>
        have HKE : Hid (k = lose.length ∧ k ≤ n ∨ k = n) := hid (by rw [HL1.out]; omega)
        have hc40 := mod40 cut
        obtain ⟨a, ha⟩ : ∃ a, a = wrap64 ((IntKind.u64.wrap cut).tmod 40) := ⟨_, rfl⟩
        have HCU := HW.out.cut a
        rw [show cutW V a = (0, { V with cut := true, left := a.toNat }) from by unfold cutW; rw [if_neg (by rw [ha]; omega)]] at HCU
        rw [← ha] at hc40
        have HA := hid ha
        unfold ptr er at HCU
        simp only at HCU
        have HOK : Hid (Ok 100 ({ V with cut := true, left := a.toNat } : Wd).l.length { V with cut := true, left := a.toNat }) := hid ⟨rfl, (HI.out.ok (lost_fit HM.out HBL.out HN.out)).fit, HI.out.calls, by show a.toNat < _; omega⟩
        have fin : ∀ w4, WT w w4 b { V with cut := true, left := a.toNat } (fun i => i = q) → Kpt (fun i => i = q) wr w4 → True := fun _ _ _ => trivial
        clear fin ha
        have q1 : (k : Int) < (L1 : Int) ∧ ¬ ((k : Int) < N) ∨ ¬ ((k : Int) < (L1 : Int)) := by have := HN.out; omega
        have wg : IntKind.i64.wrap (N - (goneN lose k : Int)) = N - (goneN lose k : Int) := by
          have := HN.out
          have := HN12.out
          rw [IntKind.wrap_i64]
          omega
        obtain ⟨gn, hgn⟩ : ∃ gn : Int, gn = (goneN lose k : Int) := ⟨_, rfl⟩
        have HGN := hid hgn
        rw [← hgn] at wg ⊢
        have HWG := hid wg
        clear wg hgn hg hn hn12 hn1
        have rest : ∀ (Q' : Prop), Q' → Q' := fun _ h => h
        clear rest
        rcases q1 with ⟨q1, q2⟩ | q1
        all_goals
          go_wp2_with fail
          rw [← HA.out]
          refine HCU.mono ?_
          rintro _ w4 ⟨rfl, h4, k4⟩
          have HX4 := hid (k4.has rfl HX.out)
          have HW4 := hid h4
          clear h4 k4 c0 c1 f0 f1 HCU
          obtain ⟨c0, c1, f0, f1⟩ := two_cells HX4.out
          go_wp2_with fail
          refine writeX HW4.out HL.out HOK.out (by decide) HB1.out HB2.out _ ?_
          intro w5 h5 k5 ok5
          have HX5 := hid (k5.has rfl HX4.out)
          have HW5 := hid h5
          have HK5 := hid ok5
          clear h5 k5 ok5 c0 c1 f0 f1 HX4 HW4
          have HCR := HW5.out.crash (by rw [HK5.out.len]; show V.l.length ≤ 1000; rw [HI.out.len]; have := HN12.out; omega) (fun x hx => ⟨HK5.out.fit x hx, worse_fit HI.out HM.out HN.out HBL.out x hx⟩) (by decide) _ sv HSV.out (by have := HSL.out; have := HL2.out; omega)
          unfold ptr er at HCR
          go_wp2_with fail
          refine HCR.mono ?_
          clear HCR
          rintro _ w6 ⟨rfl, h6, k6⟩
          have HX6 := hid (k6.has rfl HX5.out)
          have HW6 := hid h6
          clear h6 k6 HX5 HW5
          obtain ⟨c0, c1, f0, f1⟩ := two_cells HX6.out
          go_wp2_with fail
          refine read_any HW6.out HL.out K N (dig bl) (by show (wrG _ K N bl).2.calls ≤ _; exact Nat.le_trans HK5.out.calls (by decide)) (by show (0 : Nat) < _; decide) _ ?_
          intro w7 o z V7 hr h7 k7
          have HX7 := hid (k7.has rfl HX6.out)
          have HE := hid h7.base
          have hres := worse_read HI.out HM.out HN.out HBL.out HB1.out HKE.out sv hr
          rw [HB2.out, ← HGN.out] at hres
          clear hr h7 k7 c0 c1 f0 f1
          obtain ⟨c0, c1, f0, f1⟩ := two_cells HX7.out
          have wg := HWG.out
          rcases hres with ⟨rfl, rfl⟩ | ⟨hlt, rfl⟩
          · by_cases t1 : K ≤ N - gn
            · go_wp2_with fail
              go_ret
              exact ⟨rfl, HE.out⟩
            · go_wp2_with fail
              go_ret
              exact ⟨rfl, HE.out⟩
          · have t1 : ¬ (K ≤ N - gn) := by omega
            go_wp2_with fail
            go_ret
            exact ⟨rfl, HE.out⟩
      | succ g1 =>
        have q1 : (k : Int) < (L1 : Int) := by omega
        have q2 : (k : Int) < N := by have := HN.out; omega
        have hkn : k < n := by omega
        obtain ⟨z, hz⟩ : ∃ z, lose[k]? = some z := ⟨_, List.getElem?_eq_getElem (by rw [HL1.out]; omega)⟩
        have hgd : lose.getD k false = z := by rw [List.getD_eq_getElem?_getD, hz]; rfl
        rcases HLO.out with ⟨A, c, e1, e2⟩ | ⟨gl, ol, capl, _, e1, hgl, hcl⟩
        · rw [e2] at hz; simp at hz
        rw [HL1.out] at e1
        cases e1
        have d0 : wr.cell? ⟨gl, ol + k, none⟩ = some (.bool z) := by rw [HW.out.base.cell (p := ⟨gl, ol + k, none⟩) hgl]; exact hcl k z hz
        have hgs := goneN_succ lose k
        rw [hgd] at hgs
        have HZ := hid hz
        clear hcl hz
        cases z with
        | false =>
          have HI2 := hid (HI.out.spare hgd)
          have HGS := hid hgs
          clear hgs hgd
          go_wp2_with fail
          go_roundg g1
          case measure => omega
          case rel => exact ⟨k + 1, V, by omega, by first | rfl | simp, by rw [HGS.out]; simp, HW, HX, HI2⟩
        | true =>
          obtain ⟨V4, hs4, hI4⟩ := HI.out.wipe hkn hgd
          have HI4 := hid hI4
          have HGS := hid hgs
          have wG : IntKind.i64.wrap ((goneN lose k : Int) + 1) = ((goneN lose k + 1 : Nat) : Int) := wrapN (b := 1) (by omega)
          clear hgs hgd hI4
          go_wp2_with fail
          refine strikeB HW.out (HI.out.ok (lost_fit HM.out HBL.out HN.out)).fit (by decide) hs4 _ ?_
          intro w4 h4 k4
          have HX4 := hid (k4.has rfl HX.out)
          have HW4 := hid h4
          clear h4 k4 hs4 c0 c1 f0 f1 d0
          go_wp2_with fail
          go_roundg g1
          case measure => omega
          case rel => exact ⟨k + 1, V4, by omega, by first | rfl | simp, by rw [HGS.out]; first | rfl | simp, HW4, HX4, HI4⟩
end Go.Proofs.YtffhobkoagnhhaaGreatDoor
