/- StoreSame: which stores are the same is what the document says. -/
import Derived.Test.YtpeeelnkelnlkaaPlays
namespace Go.Proofs.Ytpeeelnkelnlkaa
open Go.RowKit Go.Maps
/-- two pairs of stores, apart from one another -/
def D4 (w0 w : World) (b c b' c' N N' : Nat) : Prop := ∃ S T s r t y, D2 w S b c s r ∧ D2 w T b' c' t y ∧ Twin N s r ∧ Twin N' t y ∧ (∀ i, S i → ¬ T i) ∧ (∀ i, S i → w0.heap.size ≤ i) ∧ (∀ i, T i → w0.heap.size ≤ i) ∧ Below w0.heap.size w0 w
variable {w0 w w' : World} {b c b' c' N N' : Nat}
theorem D4.swap (h : D4 w0 w b c b' c' N N') : D4 w0 w b' c' b c N' N := by
  obtain ⟨S, T, s, r, t, y, h1, h2, h3, h4, h5, h6, h7, h8⟩ := h
  exact ⟨T, S, t, y, s, r, h2, h1, h4, h3, fun i hi hS => h5 i hS hi, h7, h6, h8⟩
theorem D4.base (h : D4 w0 w b c b' c' N N') : Below w0.heap.size w0 w := by
  obtain ⟨S, T, s, r, t, y, h1, h2, h3, h4, h5, h6, h7, h8⟩ := h; exact h8
/-- an act is done to the first pair -/
theorem D4.act (h : D4 w0 w b c b' c' N N') (hN : N ≤ 100000) {x : Ac} (hx : AcOk w0 x) (hnm : x.name.size ≤ 1000000) : Calls Try.prog 24 #[ptr b, ptr c, .agg (acells x).toArray] w fun e w' => e = .returned (.bool true) ∧ D4 w0 w' b c b' c' (N + 1) N' := by
  obtain ⟨S, T, s, r, t, y, h1, h2, h3, h4, h5, h6, h7, h8⟩ := h
  refine (act_any h1 h3 hN (hx.below h8) hnm (fun g o n c' e1 e2 hS => ?_)).mono ?_
  · have := RdI.lt hx.keep e1 e2
    have := h6 g hS
    omega
  · rintro e w' ⟨rfl, s', r', ⟨S', d1, d2, d3⟩, ht⟩
    refine ⟨rfl, S', T, s', r', t, y, d1, h2.only d3 (fun i hi hS => h5 i hS hi), ht, h4, fun i hi hT => ?_, fun i hi => ?_, h7, h8.trans (d3.below h8.size h6)⟩
    · rcases d2 i hi with h | h
      · exact h5 i h hT
      · obtain ⟨_, _, _, _, _, _, _, hb⟩ := h2
        have := hb i hT
        omega
    · rcases d2 i hi with h | h
      · exact h6 i h
      · exact Nat.le_trans h8.size h
theorem D4.below (h : D4 w0 w b c b' c' N N') (hb : Below w.heap.size w w') : D4 w0 w' b c b' c' N N' := by
  obtain ⟨S, T, s, r, t, y, h1, h2, h3, h4, h5, h6, h7, h8⟩ := h
  exact ⟨S, T, s, r, t, y, h1.below hb, h2.below hb, h3, h4, h5, h6, h7, h8.trans (hb.mono h8.size)⟩
/-- a row of acts, and one of them -/
theorem Acts.nine {W W' : World} {a : Option Addr} {l : List Ac} {c : Nat} (h : Acts W (.slice a l.length c) l) (hb : Below W.heap.size W W') {k : Nat} {x : Ac} (hx : l[k]? = some x) : ∃ g o, a = some ⟨g, o, none⟩ ∧ AcOk W x ∧ ∀ i u, (acells x)[i]? = some u → W'.cell? ⟨g, o + k * 9 + i, none⟩ = some u := by
  rcases h.1 with ⟨_, _, _, h0⟩ | ⟨g, o, cap, e, _, hg, hc⟩
  · rw [h0] at hx; simp at hx
  · cases e
    exact ⟨g, o, rfl, h.2 x (List.mem_of_getElem? hx), fun i u hu => by rw [hb.cell (p := ⟨g, o + k * 9 + i, none⟩) hg]; exact hc k x hx i u hu⟩
theorem Acts.form {W : World} {v : Value} {l : List Ac} (h : Acts W v l) : ∃ va vc, v = .slice va l.length vc := by
  rcases h.1 with ⟨A0, c0, rfl, rfl⟩ | ⟨g, o, cap, rfl, _⟩
  · exact ⟨_, _, rfl⟩
  · exact ⟨_, _, rfl⟩
set_option maxHeartbeats 8000000 in
set_option maxRecDepth 20000 in
theorem same_walk {w : World} {v1 v2 : Value} {l m : List Ac} (h1 : Acts w v1 l) (h2 : Acts w v2 m) (bh : Bool) : Calls Try.prog 5 #[v1, v2, .bool bh] w fun e w' => e = .returned (.bool true) ∧ Below w.heap.size w w' := by
  obtain ⟨va, vc, rfl⟩ := h1.form
  obtain ⟨ua, uc, rfl⟩ := h2.form
  have HA := hid h1
  have HA2 := hid h2
  have HL := large_any h1
  clear h1
  by_cases hbig : 20000 ≤ acS l
  · rw [decide_eq_true hbig] at HL
    clear hbig h2
    generalize l.length = L at *
    generalize m.length = L2 at *
    go_enter Try.func5, Try.ntmps5
    go_wp2_with fail
    refine HL.mono ?_
    clear HL
    rintro x w1 ⟨rfl, hb1⟩
    have H1 := hid hb1
    clear hb1
    go_wp2_with fail
    go_ret
    exact ⟨rfl, H1.out⟩
  rw [decide_eq_false hbig] at HL
  have HS := hid hbig
  have hlen := acS_len l
  have hl1 : l.length ≤ 1000 := by omega
  have HL2 : Hid (∀ W, Below w.heap.size w W → Calls Try.prog 20 #[.slice ua m.length uc] W fun e w' => e = .returned (.bool (decide (20000 ≤ acS m))) ∧ Below W.heap.size W w') := hid fun W hW => large_any (h2.below hW)
  clear hbig hlen h2
  by_cases hbig : 20000 ≤ acS m
  · rw [decide_eq_true hbig] at HL2
    clear hbig
    generalize l.length = L at *
    generalize m.length = L2 at *
    go_enter Try.func5, Try.ntmps5
    go_wp2_with fail
    refine HL.mono ?_
    clear HL
    rintro x w1 ⟨rfl, hb1⟩
    have H1 := hid hb1
    clear hb1
    go_wp2_with fail
    refine (HL2.out w1 H1.out).mono ?_
    rintro x w2 ⟨rfl, hb2⟩
    have H2 := hid (H1.out.trans (hb2.mono H1.out.size))
    clear hb2
    go_wp2_with fail
    go_ret
    exact ⟨rfl, H2.out⟩
  rw [decide_eq_false hbig] at HL2
  have HS2 := hid hbig
  have hlen := acS_len m
  have hl2 : m.length ≤ 1000 := by omega
  clear hbig hlen
  go_enter Try.func5, Try.ntmps5
  go_wp2_with fail
  refine HL.mono ?_
  clear HL
  rintro x w1 ⟨rfl, hb1⟩
  have H1 := hid hb1
  clear hb1
  go_wp2_with fail
  refine (HL2.out w1 H1.out).mono ?_
  clear HL2
  rintro x w2 ⟨rfl, hb2⟩
  have H2 := hid (H1.out.trans (hb2.mono H1.out.size))
  clear hb2 H1
  go_wp2_with fail
  refine (new_any w2).mono ?_
  rintro x w3 ⟨b, S1, rfl, hs1, hS1, hb3⟩
  have HP := hid (show IsSt w3 S1 b st0 ∧ (∀ i, S1 i → w2.heap.size ≤ i) ∧ Below w2.heap.size w2 w3 from ⟨hs1, hS1, hb3⟩)
  clear hs1 hS1 hb3
  unfold ptr
  go_wp2_with fail
  refine (refNew_any w3).mono ?_
  rintro x w4 ⟨c, T1, rfl, ht1, hT1, hb4⟩
  have HP2 := hid (show ∃ S, D2 w4 S b c st0 rf0 ∧ (∀ i, S i → w.heap.size ≤ i) ∧ Below w.heap.size w w4 from by
    obtain ⟨p1, p2, p3⟩ := HP.out
    obtain ⟨f1, f2⟩ := D2.fresh p1 p2 p3 ht1 hT1 hb4
    exact ⟨_, f1, fun i hi => Nat.le_trans H2.out.size (f2 i hi), (H2.out.trans (p3.mono H2.out.size)).trans (hb4.mono (Nat.le_trans H2.out.size p3.size))⟩)
  clear ht1 hT1 hb4 HP H2
  unfold ptr
  go_wp2_with fail
  refine (new_any w4).mono ?_
  rintro x w5 ⟨b', S2, rfl, hs2, hS2, hb5⟩
  have HP := hid (show IsSt w5 S2 b' st0 ∧ (∀ i, S2 i → w4.heap.size ≤ i) ∧ Below w4.heap.size w4 w5 from ⟨hs2, hS2, hb5⟩)
  clear hs2 hS2 hb5
  unfold ptr
  go_wp2_with fail
  refine (refNew_any w5).mono ?_
  rintro x w6 ⟨c', T2, rfl, ht2, hT2, hb6⟩
  have HD := hid (show D4 w w6 b c b' c' 0 0 from by
    obtain ⟨p1, p2, p3⟩ := HP.out
    obtain ⟨f1, f2⟩ := D2.fresh p1 p2 p3 ht2 hT2 hb6
    obtain ⟨S, e1, e2, e3⟩ := HP2.out
    have hb46 := p3.trans (hb6.mono p3.size)
    refine ⟨S, _, st0, rf0, st0, rf0, e1.below hb46, f1, twin0, twin0, fun i hi hT => ?_, e2, fun i hi => Nat.le_trans e3.size (f2 i hi), e3.trans (hb46.mono e3.size)⟩
    obtain ⟨_, _, _, _, _, _, _, hb⟩ := e1
    have := hb i hi
    have := f2 i hT
    omega)
  clear ht2 hT2 hb6 HP HP2
  unfold ptr
  go_wp2_with fail
  go_loopg [11] l.length (fun gk s11 wx => ∃ k N' : Nat, k + gk = l.length ∧ s11 = .int .i64 (k : Int) ∧ N' ≤ k ∧ D4 w wx b c b' c' k N')
  case atStart => exact ⟨0, 0, by omega, rfl, by omega, HD.out⟩
  case round =>
    clear HD
    obtain ⟨k, N', hk, rfl, hN', hD⟩ := hrel
    have HD := hid hD
    clear hD
    cases gk with
    | zero =>
      have q1 : ¬ ((k : Int) < (l.length : Int)) := by omega
      go_wp2_with fail
      go_loopg [12] m.length (fun gk s12 wx => ∃ j N2 : Nat, j + gk = m.length ∧ s12 = .int .i64 (j : Int) ∧ N2 ≤ k + j ∧ D4 w wx b c b' c' k N2)
      case atStart => exact ⟨0, N', by omega, rfl, by omega, HD.out⟩
      case round =>
        clear HD
        obtain ⟨j, N2, hj, rfl, hN2, hD⟩ := hrel
        have HD := hid hD
        clear hD
        cases gk with
        | zero =>
          have p1 : ¬ ((j : Int) < (m.length : Int)) := by omega
          have HBS := hid HD.out.base
          obtain ⟨S, T, s, r, t, y, d1, d2, d3, d4, _⟩ := HD.out
          obtain ⟨S1, i1, _, _⟩ := d1.st
          obtain ⟨T1, i2, _, _⟩ := d1.rf
          obtain ⟨S2, j1, _, _⟩ := d2.st
          obtain ⟨T2, j2, _, _⟩ := d2.rf
          have HSM := same_any i1 j1
          have HSR : Hid (∀ W, Below wr.heap.size wr W → Calls Try.prog 27 #[.pointer (some ⟨c, 0, none⟩), .pointer (some ⟨c', 0, none⟩)] W fun e w' => e = .returned (.bool (sameS s t)) ∧ Below W.heap.size W w') := hid fun W hW => by
            have := refSame_any (i2.below hW) (j2.below hW) (by have := d3.many; omega)
            rw [← d3.same d4] at this
            exact this
          have HCP : Hid (∀ W, Below wr.heap.size wr W → Calls Try.prog 22 #[.pointer (some ⟨b, 0, none⟩)] W fun e w' => ∃ q S', e = .returned (.pointer (some ⟨q, 0, none⟩)) ∧ IsSt w' S' q s ∧ Below W.heap.size W w') := hid fun W hW => (copy_any (i1.below hW) (Nat.le_trans d3.fit.writes (by omega))).mono fun e w' ⟨q, S', e1, e2, _, e3⟩ => ⟨q, S', e1, e2, e3⟩
          have HI1 := hid i1
          unfold ptr at HSM
          clear d1 d2 d3 d4 i1 i2 j1 j2 HD
          generalize hz : sameS s t = z at *
          clear hz
          go_wp2_with fail
          refine HSM.mono ?_
          clear HSM
          rintro x7 w7 ⟨rfl, hb7⟩
          have HB7 := hid hb7
          clear hb7
          go_wp2_with fail
          refine (HSR.out w7 HB7.out).mono ?_
          clear HSR
          rintro x8 w8 ⟨rfl, hb8⟩
          have HB8 := hid (HB7.out.trans (hb8.mono HB7.out.size))
          clear hb8 HB7
          have p2 : (z == z) = true := by simp
          go_wp2_with fail
          refine (HCP.out w8 HB8.out).mono ?_
          clear HCP
          rintro x9 w9 ⟨q, S', rfl, hq, hb9⟩
          have HB9 := hid (HB8.out.trans (hb9.mono HB8.out.size))
          have HSM := same_any (HI1.out.below HB9.out) hq
          rw [sameS_self] at HSM
          unfold ptr at HSM
          clear hb9 HB8 hq
          go_wp2_with fail
          refine HSM.mono ?_
          clear HSM
          rintro x10 w10 ⟨rfl, hb10⟩
          have HB10 := hid (HBS.out.trans ((HB9.out.trans (hb10.mono HB9.out.size)).mono HBS.out.size))
          clear hb10 HB9
          go_wp2_with fail
          go_ret
          exact ⟨rfl, HB10.out⟩
        | succ g1 =>
          have p1 : (j : Int) < (m.length : Int) := by omega
          obtain ⟨x, hx⟩ : ∃ x, m[j]? = some x := ⟨_, List.getElem?_eq_getElem (by omega)⟩
          have hW := acW_le (List.mem_of_getElem? hx)
          have hsm := HS2.out
          have hnm : x.name.size ≤ 1000000 := by unfold acW at hW; omega
          obtain ⟨g, o, rfl, hok, hcc⟩ := HA2.out.nine HD.out.base hx
          have c0 : wr.cell? ⟨g, o + j * 9, none⟩ = some (.int .u8 (x.kind : Int)) := hcc 0 _ rfl
          have c1 := hcc 1 _ rfl
          have c2 := hcc 2 _ rfl
          have c3 := hcc 3 _ rfl
          have c4 := hcc 4 _ rfl
          have c5 := hcc 5 _ rfl
          have c6 := hcc 6 _ rfl
          have c7 := hcc 7 _ rfl
          have c8 := hcc 8 _ rfl
          have HAC := HD.out.swap.act (by omega) hok hnm
          unfold ptr at HAC
          unfold acells at HAC
          clear hcc hx hW hsm hok hnm HD
          go_wp2_with fail
          refine HAC.mono ?_
          clear HAC
          rintro x4 w7 ⟨rfl, hD7⟩
          have HD7 := hid hD7.swap
          clear hD7 c0 c1 c2 c3 c4 c5 c6 c7 c8
          go_wp2_with fail
          go_roundg g1
          case measure => omega
          case rel => exact ⟨j + 1, N2 + 1, by omega, by first | rfl | simp, by omega, HD7.out⟩
    | succ g1 =>
      have q1 : (k : Int) < (l.length : Int) := by omega
      obtain ⟨x, hx⟩ : ∃ x, l[k]? = some x := ⟨_, List.getElem?_eq_getElem (by omega)⟩
      have hW := acW_le (List.mem_of_getElem? hx)
      have hsm := HS.out
      have hnm : x.name.size ≤ 1000000 := by unfold acW at hW; omega
      obtain ⟨g, o, rfl, hok, hcc⟩ := HA.out.nine HD.out.base hx
      have c0 : wr.cell? ⟨g, o + k * 9, none⟩ = some (.int .u8 (x.kind : Int)) := hcc 0 _ rfl
      have c1 := hcc 1 _ rfl
      have c2 := hcc 2 _ rfl
      have c3 := hcc 3 _ rfl
      have c4 := hcc 4 _ rfl
      have c5 := hcc 5 _ rfl
      have c6 := hcc 6 _ rfl
      have c7 := hcc 7 _ rfl
      have c8 := hcc 8 _ rfl
      have HAC := HD.out.act (by omega) hok hnm
      have HNX := hid (fun (W : World) (hD : D4 w W b c b' c' (k + 1) N') => hD.swap.act (by omega) hok hnm)
      have HCC := hid (fun (W : World) (hW : Below w.heap.size w W) => (show ∀ i u, (acells x)[i]? = some u → W.cell? ⟨g, o + k * 9 + i, none⟩ = some u from by
        obtain ⟨g', o', e, _, hcc'⟩ := HA.out.nine hW hx
        cases e
        exact hcc'))
      unfold ptr at HAC HNX
      unfold acells at HAC HNX
      clear hcc hx hW hsm hok hnm
      go_wp2_with fail
      refine HAC.mono ?_
      clear HAC
      rintro x4 w7 ⟨rfl, hD7⟩
      have HD7 := hid hD7
      clear hD7 c0 c1 c2 c3 c4 c5 c6 c7 c8 HD
      cases bh with
      | false =>
        go_wp2_with fail
        go_roundg g1
        case measure => omega
        case rel => exact ⟨k + 1, N', by omega, by first | rfl | simp, by omega, HD7.out⟩
      | true =>
        have hcc := HCC.out w7 HD7.out.base
        have c0 : w7.cell? ⟨g, o + k * 9, none⟩ = some (.int .u8 (x.kind : Int)) := hcc 0 _ rfl
        have c1 := hcc 1 _ rfl
        have c2 := hcc 2 _ rfl
        have c3 := hcc 3 _ rfl
        have c4 := hcc 4 _ rfl
        have c5 := hcc 5 _ rfl
        have c6 := hcc 6 _ rfl
        have c7 := hcc 7 _ rfl
        have c8 := hcc 8 _ rfl
        have HAC := HNX.out w7 HD7.out
        clear hcc HNX HCC
        go_wp2_with fail
        refine HAC.mono ?_
        clear HAC
        rintro x5 w8 ⟨rfl, hD8⟩
        have HD8 := hid hD8.swap
        clear hD8 HD7
        go_wp2_with fail
        go_roundg g1
        case measure => omega
        case rel => exact ⟨k + 1, N' + 1, by omega, by first | rfl | simp, by omega, HD8.out⟩
end Go.Proofs.Ytpeeelnkelnlkaa
