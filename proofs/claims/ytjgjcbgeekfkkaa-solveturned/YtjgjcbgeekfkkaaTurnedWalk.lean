/- The walk of SolveTurned. -/
import Derived.Test.YtjgjcbgeekfkkaaAwake
import Derived.Test.YtjgjcbgeekfkkaaLaw2
namespace Go.Proofs.Ytjgjcbgeekfkkaa
open Go.RowKit
theorem at2_rowsOf (R : Nat) (W : Nat) (f : El.M) (i j : Nat) (hi : i < R) (hj : j < W) : at2 (rowsOf R (fun _ => W) f) i j = f i j := by
  show ((rowsOf R (fun _ => W) f).getD i []).getD j 0 = _
  rw [rowsOf_row _ _ _ _ hi, range_getD _ _ _ hj]
theorem rect_rowsOf (R W : Nat) (f : El.M) : Rect (rowsOf R (fun _ => W) f) R W := ⟨rowsOf_length _ _ _, fun i hi => by rw [rowsOf_row _ _ _ _ hi]; simp⟩
theorem byt_at2_rowsOf (R W : Nat) (f : El.M) (h : El.Byt f) : El.Byt (at2 (rowsOf R (fun _ => W) f)) := fun i j => by
  show ((rowsOf R (fun _ => W) f).getD i []).getD j 0 < 256
  refine getD_lt (fun x hx => ?_) j
  by_cases hi : i < R
  · rw [rowsOf_row _ _ _ _ hi] at hx
    simp only [List.mem_map] at hx
    obtain ⟨q, _, rfl⟩ := hx
    exact h i q
  · rw [List.getD_eq_getElem?_getD, List.getElem?_eq_none (by rw [rowsOf_length]; omega)] at hx
    simp at hx
theorem mayM_rect {m : List (List Nat)} {R W : Nat} (h : Rect m R W) (h1 : 1 ≤ R) (h2 : R ≤ 255) (h3 : 1 ≤ W) (h4 : W ≤ 255) : mayM m = true := by
  unfold mayM
  obtain ⟨k1, k2⟩ := h
  rw [decide_eq_true_iff, k1, k2 0 (by omega)]
  exact ⟨h1, h2, h3, h4, fun j hj => k2 j hj⟩
theorem sqM_rect {m : List (List Nat)} {n : Nat} (h : Rect m n n) (h1 : 1 ≤ n) (h2 : n ≤ 255) : sqM m = true := by
  unfold sqM
  rw [mayM_rect h h1 h2 h1 h2, h.1, h.2 0 (by omega), decide_eq_true rfl]; rfl
theorem rowsOf_rect {m : List (List Nat)} {R W : Nat} (h : Rect m R W) : rowsOf R (fun _ => W) (at2 m) = m := by
  obtain ⟨k1, k2⟩ := h
  apply ext_getD []
  · rw [rowsOf_length, k1]
  · intro i hi
    rw [rowsOf_length] at hi
    rw [rowsOf_row _ _ _ _ hi]
    apply ext_getD 0
    · simp only [List.length_map, List.length_range]; rw [k2 i hi]
    · intro j hj
      simp only [List.length_map, List.length_range] at hj
      rw [range_getD _ _ _ hj]; rfl
/-- turned about twice -/
theorem twice {m : List (List Nat)} {n : Nat} (hr : Rect m n n) (hb : El.Byt (at2 m)) (h1 : 1 ≤ n) (h2 : n ≤ 255) (hk : El.rank n n (at2 m) = n) : errT (rowsOf n (fun _ => n) (El.inve n (at2 m))) = 0 ∧ ansT (rowsOf n (fun _ => n) (El.inve n (at2 m))) = m := by
  have hrt := rect_rowsOf n n (El.inve n (at2 m))
  have hbt := byt_at2_rowsOf n n _ (El.byt_inve n hb)
  have hs := sqM_rect hrt h1 h2
  have hI := El.has_inve hbt hb (fun i hi j hj => by
    rw [← El.inve_mul hb hk hi hj]
    exact El.xs_congr n fun k hk' => by rw [at2_rowsOf n n _ i k hi hk'])
  have hrk : rankM (rowsOf n (fun _ => n) (El.inve n (at2 m))) = n := by unfold rankM; rw [hrt.1]; exact hI.1
  constructor
  · unfold errT; rw [hs, if_pos rfl, hrk, hrt.1, if_pos rfl]
  · unfold ansT okT; rw [hs, hrk, hrt.1, decide_eq_true rfl]
    show rowsOf n (fun _ => n) (El.inve n (at2 (rowsOf n (fun _ => n) (El.inve n (at2 m))))) = m
    rw [rowsOf_congr (f' := at2 m) (Wd' := fun _ => n) (fun _ _ => rfl) (fun i hi j hj => hI.2 i hi j hj)]
    exact rowsOf_rect hr
set_option maxRecDepth 20000 in
set_option maxHeartbeats 4000000 in
theorem turned_walk (v vl : Value) (m : List (List Nat)) (l : List Nat) (w : World) (hm : Mat w v m) (hl : RowC w vl l) :
    Calls Try.prog 5 #[v, vl] w fun e w' => e = .returned (.bool true) ∧ Below w.heap.size w w' := by
  have HM := hid hm
  have HL := hid hl
  have hby := hm.byt
  have HMr := hid hm.rows
  obtain ⟨⟨al, cl, hvl, hl63, hlx, hlc⟩, _⟩ := hl
  subst hvl
  have HLC := hid hlc
  have HLX := hid hlx
  clear hlc hlx
  go_enter Try.func5, Try.ntmps5
  go_wp2_with fail
  refine (long_any _ m w HM.out).mono ?_
  rintro e w1 ⟨b, rfl, hb, rfl⟩
  cases b with
  | true =>
    go_wp2_with fail
    refine (awake_any _).mono ?_
    rintro e w2 ⟨rfl, b2⟩
    go_wp2_with fail
    go_ret
    exact ⟨rfl, b2⟩
  | false =>
  clear hb
  go_wp2_with fail
  refine (awake_any _).mono ?_
  rintro e w2 ⟨rfl, b2⟩
  go_wp2_with fail
  refine (turn_any v m w2 (HM.out.below b2)).mono ?_
  rintro e w3 ⟨vt, rfl, hT, b3⟩
  have B3 := belowCall b2 b3
  cases hs : sqM m with
  | false =>
    have E1 : errT m = 4 := by unfold errT; rw [hs]; rfl
    rw [E1]
    clear hT
    cases hmm : mayM m with
    | false =>
      go_wp2_with fail
      refine (refMay_any v m w3 (HM.out.below B3)).mono ?_
      rintro e w4 ⟨rfl, b4⟩
      rw [hmm]
      go_wp2_with fail
      go_ret
      exact ⟨rfl, belowCall B3 b4⟩
    | true =>
      have hne : m.length ≠ (m.getD 0 []).length := fun hh => by
        unfold sqM at hs; rw [hmm, decide_eq_true hh] at hs; cases hs
      have hmf := mayM_facts hmm
      obtain ⟨g, o, cap, rfl, hg, ⟨a0, c0, k0⟩, _⟩ := HM.out.first hmm
      have hrm := hid (refMay_any _ m w3 (HM.out.below B3))
      generalize (m.getD 0 []).length = n0 at *
      have b0 : (0 : Int) < (m.length : Int) := by omega
      have en : ((m.length : Int) != (n0 : Int)) = true := by simp; omega
      have k3 := cell_below B3 hg k0
      clear hmf
      go_wp2_with fail
      refine hrm.out.mono ?_
      rintro e w4 ⟨rfl, b4⟩
      rw [hmm]
      have k4 := cell_below (belowCall B3 b4) hg k0
      go_wp2_with fail
      go_ret
      exact ⟨rfl, belowCall B3 b4⟩
  | true =>
  have hs' := hs
  unfold sqM at hs'
  simp only [Bool.and_eq_true, decide_eq_true_eq] at hs'
  obtain ⟨hmm, hsq⟩ := hs'
  obtain ⟨f1, f2, f3, f4, f5⟩ := mayM_facts hmm
  have hrect : Rect m m.length m.length := ⟨rfl, fun i hi => (f5 i hi).trans hsq.symm⟩
  have hed : errD m = 0 := by unfold errD; rw [hmm]; rfl
  have hak : ansK m = rankM m := by unfold ansK rankM stepsM El.rank; rw [hmm, if_pos rfl, ← hsq]
  obtain ⟨am, cm, hvm, _, _⟩ := hm
  subst hvm
  by_cases hrk : rankM m = m.length
  · have E1 : errT m = 0 := by unfold errT; rw [hs, if_pos rfl, if_pos hrk]
    have E2 : ansT m = rowsOf m.length (fun _ => m.length) (El.inve m.length (at2 m)) := by unfold ansT okT; rw [hs, decide_eq_true hrk]; rfl
    have hrk' : El.rank m.length m.length (at2 m) = m.length := hrk
    have htw := twice hrect hby f1 f2 hrk'
    have HTT : Hid (errT (rowsOf m.length (fun _ => m.length) (El.inve m.length (at2 m))) = 0 ∧ ansT (rowsOf m.length (fun _ => m.length) (El.inve m.length (at2 m))) = m) := htw
    have hrt := rect_rowsOf m.length m.length (El.inve m.length (at2 m))
    obtain ⟨tt, htt⟩ : ∃ tt, Hid (tt = rowsOf m.length (fun _ => m.length) (El.inve m.length (at2 m))) := ⟨_, rfl⟩
    have hatt : ∀ i, i < m.length → ∀ j, j < m.length → at2 tt i j = El.inve m.length (at2 m) i j := fun i hi j hj => by rw [htt.out, at2_rowsOf _ _ _ _ _ hi hj]
    rw [E2, ← htt.out] at hT
    rw [← htt.out] at HTT hrt
    rw [E1]
    have HMT := hid hT.mat
    -- what the products are
    have hP1 : ∀ i, i < m.length → ∀ j, j < m.length → mulF m.length (at2 m) (at2 tt) i j = if i = j then 1 else 0 := fun i hi j hj => by
      rw [← El.mul_inve hby hrk' hi hj]
      exact El.xs_congr _ fun k hk => by rw [hatt k hk j hj]
    have hP2 : ∀ i, i < m.length → ∀ j, j < m.length → mulF m.length (at2 tt) (at2 m) i j = if i = j then 1 else 0 := fun i hi j hj => by
      rw [← El.inve_mul hby hrk' hi hj]
      exact El.xs_congr _ fun k hk => by rw [hatt i hi k hk]
    have HP1 := hid hP1
    have HP2 := hid hP2
    have HRt := hid hrt
    have HRm := hid hrect
    have er : (((rankM m : Nat) : Int) == (m.length : Int)) = true := by rw [beq_iff_eq]; omega
    have hrr : Hid (∀ W, Below w1.heap.size w1 W → _) := fun W hW => rank_any _ m W (HM.out.below hW)
    have HSv : Hid (l.length = m.length → errS m l = 0 ∧ ansS m l = (List.range m.length).map (El.prod m.length (El.inve m.length (at2 m)) (fun k => l.getD k 0))) := fun hll => by
      have hok : okS m l = true := by unfold okS; rw [hs, decide_eq_true hll]; rfl
      unfold errS ansS; rw [hok, if_pos rfl, if_pos hrk, decide_eq_true hrk]; exact ⟨rfl, rfl⟩
    have HVb : Hid (El.B1 (fun k => l.getD k 0)) := fun k => getD_lt HLX.out k
    have HPS : Hid (∀ i, i < m.length → El.prod m.length (at2 m) (El.prod m.length (El.inve m.length (at2 m)) (fun k => l.getD k 0)) i = l.getD i 0) := fun i hi => El.prod_solved hby HVb.out hrk' hi
    have HHA := hid hak
    have HED := hid hed
    clear hT htw hrt hatt hP1 hP2 hsq f5 hrect hrk hrk' E1 E2 f3 f4 hak hed hs hmm
    generalize hn : m.length = n at *
    go_wp2_with fail
    refine (hrr.out w3 B3).mono ?_
    rintro e w4 ⟨rfl, b4⟩
    rw [HED.out, HHA.out]
    have B4 := belowCall B3 b4
    go_wp2_with fail
    refine (turn_any vt tt w4 (HMT.out.below b4)).mono ?_
    rintro e w5 ⟨vu, rfl, hU, b5⟩
    rw [HTT.out.1]
    have hU' := hU.mat
    rw [HTT.out.2] at hU'
    have HU := hid hU'
    have B5 := belowCall B4 b5
    have D5 := belowCall b4 b5
    clear hU hU'
    go_wp2_with fail
    refine (refSame_any vu _ m m w5 HU.out (HM.out.below B5)).mono ?_
    rintro e w6 ⟨rfl, b6⟩
    rw [decide_eq_true rfl]
    have B6 := belowCall B5 b6
    have D6 := belowCall D5 b6
    clear HU
    go_wp2_with fail
    refine (times_any _ vt m tt n n n w6 (HM.out.below B6) (HMT.out.below D6) HRm.out HRt.out (by omega) (by omega) (by omega) (by omega) (by omega) (by omega)).mono ?_
    rintro e w7 ⟨r7, rfl, hr7, b7⟩
    have h7 := hid (one_any r7 _ n n w7 hr7 (rect_rowsOf _ _ _) (by omega) (by omega) (by omega) (by omega) (fun i hi j hj => by rw [at2_rowsOf _ _ _ _ _ hi hj]; exact HP1.out i hi j hj))
    clear hr7
    go_wp2_with fail
    refine h7.out.mono ?_
    rintro e w8 ⟨rfl, rfl⟩
    have B8 := belowCall B6 b7
    have D8 := belowCall D6 b7
    clear h7
    go_wp2_with fail
    refine (times_any vt _ tt m n n n w8 (HMT.out.below D8) (HM.out.below B8) HRt.out HRm.out (by omega) (by omega) (by omega) (by omega) (by omega) (by omega)).mono ?_
    rintro e w9 ⟨r9, rfl, hr9, b9⟩
    have h9 := hid (one_any r9 _ n n w9 hr9 (rect_rowsOf _ _ _) (by omega) (by omega) (by omega) (by omega) (fun i hi j hj => by rw [at2_rowsOf _ _ _ _ _ hi hj]; exact HP2.out i hi j hj))
    clear hr9
    go_wp2_with fail
    refine h9.out.mono ?_
    rintro e w10 ⟨rfl, rfl⟩
    have B10 := belowCall B8 b9
    clear h9 HMT
    by_cases hll : l.length = n
    · have e0 : ((l.length : Int) != (n : Int)) = false := by rw [hll]; simp
      obtain ⟨S1, S2⟩ := HSv.out hll
      have HS2 := hid S2
      have HLL := hid hll
      have elx : ((n : Int) != (l.length : Int)) = false := by rw [hll]; simp
      clear hll
      go_wp2_with fail
      refine (solve_any _ _ m l w10 (HM.out.below B10) (HL.out.below B10)).mono ?_
      rintro e w11 ⟨vx, rfl, hX, b11⟩
      rw [S1]
      obtain ⟨xf, hxf⟩ : ∃ xf, Hid (xf = El.prod n (El.inve n (at2 m)) (fun k => l.getD k 0)) := ⟨_, rfl⟩
      rw [HS2.out, ← hxf.out] at hX
      have hxl : ((List.range n).map xf).length = n := by simp
      have hx256 : ∀ x ∈ (List.range n).map xf, x < 256 := fun x hx => by
        simp only [List.mem_map] at hx
        obtain ⟨i, _, rfl⟩ := hx
        rw [hxf.out]
        exact El.xs_lt (fun _ => Fld.mul_lt _ _) _
      have HXb : Hid (∀ i, xf i < 256) := fun i => by rw [hxf.out]; exact El.xs_lt (fun _ => Fld.mul_lt _ _) _
      have hXr := hX.row hx256 (by rw [hxl]; omega)
      obtain ⟨gx, ox, cx, hvx, _, _, hgx, hxc⟩ := hXr.some (by rw [hxl]; omega)
      rw [hxl] at hvx hxc
      have HXC : Hid (∀ j, j < n → w11.cell? ⟨gx, ox + j, none⟩ = some (.int .u8 (xf j : Int))) := fun j hj => by
        have := hxc j hj; rw [range_getD _ _ _ hj] at this; exact this
      rw [← hxf.out] at HPS
      have B11 := belowCall B10 b11
      clear hX hXr hxc S2 hxl hx256 HS2 HSv
      subst hvx
      go_wp2_with fail
      generalize hbs : w11.heap.size = base at *
      go_loopg [11, 12] n (fun g1 s11 s12 wx => ∃ k : Nat, k + g1 = n ∧ s12 = .int .i64 (k : Int) ∧ Hid (OW base s11 k (fun _ => 1) (fun i _ => xf i) wx) ∧ Below base w11 wx)
      case atStart => exact ⟨0, by omega, rfl, OW.nil _ _ _ _, by rw [← hbs]; exact Below.refl _ _⟩
      case round =>
        obtain ⟨k, hkg, rfl, hO, hb⟩ := hrel
        have hsz : base ≤ wr.heap.size := by rw [← hbs]; exact hb.size
        cases gk with
        | zero =>
          have hz : ¬ ((k : Int) < (n : Int)) := by omega
          have hkn : k = n := by omega
          have hcol := (hO.out.newM (by omega)).mat
          rw [hkn] at hcol
          have B12 : Below w1.heap.size w1 wr := B11.trans (hb.mono (by rw [← hbs]; exact B11.size))
          have htm := hid (times_any _ _ m (rowsOf n (fun _ => 1) (fun i _ => xf i)) n n 1 wr (HM.out.below B12) hcol HRm.out (rect_rowsOf _ _ _) (by omega) (by omega) (by omega) (by omega) (by omega) (by omega))
          have HPv : Hid (∀ i, i < n → mulF n (at2 m) (at2 (rowsOf n (fun _ => 1) (fun i _ => xf i))) i 0 = l.getD i 0) := fun i hi => by
            rw [← HPS.out i hi]
            exact El.xs_congr n fun q hq => by rw [at2_rowsOf _ _ _ _ _ hq (by omega)]
          clear hO hcol
          go_wp2_with fail
          refine htm.out.mono ?_
          rintro e w13 ⟨vp, rfl, hp, b13⟩
          obtain ⟨gp, op, cpp, hvp, hgp, hpr⟩ := hp.rect (rect_rowsOf _ _ _) (by omega : 0 < n) (by omega : 0 < 1)
          have HPR : Hid (∀ i, i < n → ∃ gi oi ci, gi < w13.heap.size ∧ w13.cell? ⟨gp, op + i, none⟩ = some (.slice (some ⟨gi, oi, none⟩) 1 ci) ∧ w13.cell? ⟨gi, oi, none⟩ = some (.int .u8 ((l.getD i 0 : Nat) : Int))) := fun i hi => by
            obtain ⟨gi, oi, ci, q1, q2, q3⟩ := hpr i hi
            have := (q3 0 (by omega)).1
            rw [at2_rowsOf _ _ _ _ _ hi (by omega), HPv.out i hi, Nat.add_zero] at this
            exact ⟨gi, oi, ci, q1, q2, this⟩
          have B13 := belowCall B12 b13
          clear hp hpr htm HPv
          subst hvp
          obtain ⟨gl, ol, hal, hgl, hld⟩ := HLC.out (by have := HLL.out; omega)
          subst hal
          have HLD := hid hld
          clear hld
          go_wp2_with fail
          generalize hbs3 : w13.heap.size = base3 at *
          go_loopg [14] n (fun g2 s14 wx => ∃ q : Nat, q + g2 = n ∧ s14 = .int .i64 (q : Int) ∧ Below base3 w13 wx)
          case atStart => exact ⟨0, by omega, rfl, by rw [← hbs3]; exact Below.refl _ _⟩
          case round =>
            obtain ⟨q, hqg, rfl, hb3⟩ := hrel
            cases gk with
            | zero =>
              have hz2 : ¬ ((q : Int) < (n : Int)) := by omega
              have hz3 : ¬ ((q : Int) < (l.length : Int)) := by have := HLL.out; omega
              go_wp2_with fail
              go_ret
              exact ⟨rfl, belowCall B13 (by rw [hbs3]; exact hb3)⟩
            | succ g2 =>
              have hz2 : (q : Int) < (n : Int) := by omega
              have hz3 : (q : Int) < (l.length : Int) := by have := HLL.out; omega
              obtain ⟨gi, oi, ci, q1, q2, q3⟩ := HPR.out q (by omega)
              have p1 := cell_below hb3 hgp q2
              have p2 := cell_below hb3 q1 q3
              have p3 := cell_below (belowCall B13 (by rw [hbs3]; exact hb3)) hgl (HLD.out q (by have := HLL.out; omega))
              have e1 : (((l.getD q 0 : Nat) : Int) != ((l.getD q 0 : Nat) : Int)) = false := by simp
              clear q2 q3
              generalize l.getD q 0 = x at *
              go_wp2_with fail
              go_quiet (fail)
              go_wp2_with fail
              go_roundg g2
              case measure => omega
              case rel => exact ⟨q + 1, by omega, by first | rfl | simp, below_drewN hb3 _⟩
        | succ g1 =>
          have hz : (k : Int) < (n : Int) := by omega
          have hk : k < n := by omega
          have c1 := cell_below hb hgx (HXC.out k hk)
          have hxk := HXb.out k
          have hH1 := Has.new wr wr.heap.size #[.int .u8 (xf k : Int)] 5 rfl
          have ho1 : Hid (Owns 5 wr.heap.size (.slice (some ⟨wr.heap.size, 0, none⟩) 1 1) (U8s [xf k]).toList (wr.alloc (.cells #[.int .u8 (xf k : Int)] 5))) := Owns.ofHas (l := [xf k]) hH1 (Nat.le_refl _) (by simp)
          have hBA : Below wr.heap.size wr ((wr.alloc (.cells #[.int .u8 (xf k : Int)] 5)).alloc (.cells #[.slice (some ⟨wr.heap.size, 0, none⟩) 1 1] 23)) := _root_.Go.Proofs.Ytjgjcbgeekfkkaa.b11 (Below.refl _ _) _ _
          have hxx : Hid (∀ x ∈ [xf k], x < 256) := fun x hx => by simp only [List.mem_singleton] at hx; subst hx; exact hxk
          have hff : Hid (∀ j, j < [xf k].length → (fun i _ => xf i : El.M) k j = [xf k].getD j 0) := fun j hj => by
            obtain rfl : j = 0 := by have : j < 1 := hj; omega
            rfl
          clear hH1
          go_wp2_with (refine wpList_push (w0 := wr) rfl (.tmp 119) (.tmp 125) rfl base _ k (fun _ => 1) (fun i _ => xf i) rfl hO.out hBA hsz _ [xf k] (by exact ho1.out.alloc _) hxx.out (by simp) rfl hff.out (by omega) (wr.heap.size + 1) 1 rfl (by exact Has.new _ _ _ _ (by simp)) ?_; intro v6 w7 hO7 hb7)
          go_roundg g1
          case measure => omega
          case rel => exact ⟨k + 1, by omega, by first | rfl | simp, hO7, (hb.trans (hBA.mono hsz)).trans hb7⟩
    · have e0 : ((l.length : Int) != (n : Int)) = true := by simp; omega
      go_wp2_with fail
      go_ret
      exact ⟨rfl, B10⟩
  · have E1 : errT m = 5 := by unfold errT; rw [hs, if_pos rfl, if_neg hrk]
    have E2 : ansT m = [] := by unfold ansT okT; rw [hs, decide_eq_false hrk]; rfl
    rw [E1]
    rw [E2] at hT
    obtain ⟨at0, ct0, hvt⟩ := hT.mat.zero rfl
    subst hvt
    have er : (((rankM m : Nat) : Int) == (m.length : Int)) = false := by rw [beq_eq_false_iff_ne]; omega
    have hrr := hid (rank_any _ m w3 (HM.out.below B3))
    rw [hed, hak] at hrr
    clear hT hsq f5 hrect hak hed
    go_wp2_with fail
    refine hrr.out.mono ?_
    rintro e w4 ⟨rfl, b4⟩
    go_wp2_with fail
    go_ret
    exact ⟨rfl, belowCall B3 b4⟩
end Go.Proofs.Ytjgjcbgeekfkkaa
