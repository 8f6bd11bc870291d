/- WorldPlays: the walk. -/
import Derived.Test.YtgdiaflikfdnaaaGreatE9
namespace Go.Proofs.YtgdiaflikfdnaaaGreat
open Go.RowKit Go.Maps
theorem Steps.form {w : World} {v : Value} {l : List Sp} (h : Steps w v l) : ∃ a c, v = .slice a l.length c := by
  rcases h.1 with ⟨A, c, rfl, rfl⟩ | ⟨g, o, cap, rfl, _⟩
  · exact ⟨A, c, rfl⟩
  · exact ⟨_, _, rfl⟩
/-- the cells of a step, in any world that kept what was handed in -/
theorem Steps.at {w w' : World} {a : Option Addr} {n c : Nat} {l : List Sp} (h : Steps w (.slice a n c) l) (hb : Below w.heap.size w w') {k : Nat} {x : Sp} (hx : l[k]? = some x) : ∃ g o, a = some ⟨g, o, none⟩ ∧ Sp0 w x ∧ ∀ (i : Nat) (u : Value), (spcells x)[i]? = some u → w'.cell? ⟨g, o + k * 10 + i, none⟩ = some u := by
  obtain ⟨h1, h2⟩ := h
  rcases h1 with ⟨A, c0, e, rfl⟩ | ⟨g, o, cap, e, _, hg, hc⟩
  · simp at hx
  · cases e
    refine ⟨g, o, rfl, h2 x (List.mem_of_getElem? hx), fun i u hu => ?_⟩
    rw [hb.cell (p := ⟨g, o + k * 10 + i, none⟩) hg]
    exact hc k x hx i u hu
set_option maxHeartbeats 8000000 in
set_option maxRecDepth 20000 in
theorem plays_walk {w : World} {v : Value} {l : List Sp} (n : Int) (h : Steps w v l) : Calls Tryz.prog 3 #[.int .i64 n, v] w fun e w' => e = .returned (.bool true) ∧ Below w.heap.size w w' := by
  have HST := hid h
  have HLG := long_any h
  obtain ⟨sa, sc, rfl⟩ := h.form
  clear h
  generalize hL : l.length = L at *
  have HL := hid hL
  clear hL
  go_enter Tryz.func3, Tryz.ntmps3
  go_wp2_with fail
  refine HLG _ (fun w1 hb => ?_) (fun hf z w1 hb => ?_)
  · have HB := hid hb
    clear hb HLG
    go_wp2_with fail
    refine (awake_true w1).mono ?_
    rintro x w2 ⟨rfl, hb2⟩
    go_wp2_with fail
    go_ret
    exact ⟨rfl, HB.out.trans (hb2.mono HB.out.size)⟩
  have HB := hid hb
  have HF := hid hf
  clear hb hf HLG
  cases z with
  | true =>
    go_wp2_with fail
    refine (awake_true w1).mono ?_
    rintro x w2 ⟨rfl, hb2⟩
    go_wp2_with fail
    go_ret
    exact ⟨rfl, HB.out.trans (hb2.mono HB.out.size)⟩
  | false =>
    go_wp2_with fail
    refine wnew_any w1 n _ (fun hn => ?_) (fun hn b g S lk w2 hI hl hx hS hb2 => ?_)
    · have HN := hid hn
      clear hn
      go_wp2_with fail
      refine dnew_any w1 n _ (fun _ => ?_) (fun hn2 => absurd hn2 HN.out)
      go_wp2_with fail
      refine (awake_true w1).mono ?_
      rintro x w2 ⟨rfl, hb2⟩
      go_wp2_with fail
      go_ret
      exact ⟨rfl, HB.out.trans (hb2.mono HB.out.size)⟩
    have HN := hid hn
    have HI := hid (show IsWd w2 S b g (newW lk) ∧ lk.length = n.toNat ∧ (∀ x ∈ lk, x.st = st0 ∧ x.sus = false) ∧ (∀ i, S i → w1.heap.size ≤ i) ∧ Below w1.heap.size w1 w2 from ⟨hI, hl, hx, hS, hb2⟩)
    clear hn hI hl hx hS hb2
    go_wp2_with fail
    refine dnew_any w2 n _ (fun h => absurd HN.out h) (fun _ c g2 u2 T lr w3 hI3 hl3 hx3 hS3 hb3 => ?_)
    obtain ⟨i1, i2, i3, i4, i5⟩ := HI.out
    have hbn := DP.born i1 i4 i5 hI3 hS3 hb3
    have HD0 := hid hbn.1
    have HS0 : Hid (∀ i, (S i ∨ T i) → w.heap.size ≤ i) := hid fun i hi => Nat.le_trans HB.out.size (hbn.2 i hi)
    have HP0 := hid (Pair.new i2 hl3 i3 hx3)
    have HB3 := hid (show Below w.heap.size w w3 from HB.out.trans ((i5.trans (hb3.mono i5.size)).mono HB.out.size))
    have hm12 : 0 < n.toNat ∧ n.toNat ≤ 12 := by have := HN.out; omega
    have HLN : Hid ((newW lk).l.length = n.toNat) := hid i2
    generalize n.toNat = m at *
    clear i1 i2 i3 i4 i5 hbn hI3 hl3 hx3 hS3 hb3 HI
    go_wp2_with fail
    have HL60 : Hid (L ≤ 60) := hid HF.out.1
    go_loopg [9, 10, 11] L (fun gk s9 s10 s11 wx => ∃ (k : Nat) (S : Nat → Prop) (s : Wd) (r : Rd), k + gk = L ∧ s9 = .int .i64 (k : Int) ∧ Hid (DP wx S b c (g, g2, u2) s r ∧ Pair k s r ∧ s.calls ≤ k ∧ s.l.length = m ∧ (∀ i, S i → w.heap.size ≤ i) ∧ Below w.heap.size w wx))
    case atStart => exact ⟨0, _, _, _, by omega, rfl, hid ⟨HD0.out, HP0.out, Nat.le_refl _, HLN.out, HS0.out, HB3.out⟩⟩
    case round =>
      clear HD0 HS0 HP0 HB3 HLN
      obtain ⟨k, S1, s, r, hk, rfl, HH⟩ := hrel
      cases gk with
      | zero =>
        have q1 : ¬ ((k : Int) < (L : Int)) := by omega
        go_wp2_with fail
        refine (awake_true _).mono ?_
        rintro x w4 ⟨rfl, hb4⟩
        have hbb := HH.out.2.2.2.2.2
        go_wp2_with fail
        go_ret
        exact ⟨rfl, hbb.trans (hb4.mono hbb.size)⟩
      | succ g1 =>
        have q1 : (k : Int) < (L : Int) := by omega
        have hk1 : k < L := by omega
        have hk60 : k < 60 := by have := HL60.out; omega
        obtain ⟨x, hx⟩ : ∃ x, l[k]? = some x := ⟨_, List.getElem?_eq_getElem (by rw [HL.out]; exact hk1)⟩
        obtain ⟨sg, so, rfl, hx0, _⟩ := HST.out.at (Below.refl _ _) hx
        have HX := hid hx
        have HOK : Hid (SpOk w x) := hid (hx0.ok (HF.out.2 x (List.mem_of_getElem? hx)))
        clear hx hx0
        obtain ⟨d1, d2, d3, d4, d5, d6⟩ := HH.out
        have HD := hid d1
        obtain ⟨Sa, Ta, j1, j2, j3, j4, j5, j6⟩ := d1
        have HC1 := wcopy_any j1 (by rw [d4]; omega) (d2.writeslen (by omega))
        have HJ := hid (show IsRd wr Ta c g2 u2 r from j2)
        unfold ptr at *
        clear d2 d3 d4 d5 d6 j1 j2 j3 j4 j5 j6
        go_wp2_with fail
        refine HC1.mono ?_
        clear HC1
        rintro y w4 ⟨b', rfl, g', S', l', a1, a2, a3, a4⟩
        have HC2 := dcopy_any (HJ.out.below a4) (by rw [← HH.out.2.1.len, HH.out.2.2.2.1]; omega) (fun x hx => (HH.out.2.1.small (by omega) x hx).1)
        have HA := hid (show IsWd w4 S' b' g' { s with l := l' } ∧ sameK l' s.l ∧ (∀ i, S' i → wr.heap.size ≤ i) ∧ Below wr.heap.size wr w4 from ⟨a1, a2, a3, a4⟩)
        unfold ptr at *
        clear a1 a2 a3 a4
        go_wp2_with fail
        refine HC2.mono ?_
        clear HC2
        rintro y w5 ⟨c', rfl, g2', u2', T', l2', e1, e2, e3, e4⟩
        obtain ⟨a1, a2, a3, a4⟩ := HA.out
        have hb := DP.born a1 a3 a4 e1 e3 e4
        have HCD := hid hb.1
        have HCS := hid hb.2
        have HCP := hid (HH.out.2.1.copy a2 e2)
        have HLC : Hid (l'.length = m) := hid (by have := congrArg List.length a2; simpa [HH.out.2.2.2.1] using this)
        have hb5 : Below wr.heap.size wr w5 := a4.trans (e4.mono a4.size)
        have HD5 := hid (HH.out.1.below hb5)
        have HB5 := hid (show Below w.heap.size w w5 from HH.out.2.2.2.2.2.trans (hb5.mono HH.out.2.2.2.2.2.size))
        obtain ⟨sg', so', ee, _, hcell⟩ := HST.out.at HB5.out HX.out
        cases ee
        have c0 := hcell 0 _ rfl
        have c1 := hcell 1 _ rfl
        have c2 := hcell 2 _ rfl
        have c3 := hcell 3 _ rfl
        have c4 := hcell 4 _ rfl
        have c5 := hcell 5 _ rfl
        have c6 := hcell 6 _ rfl
        have c7 := hcell 7 _ rfl
        have c8 := hcell 8 _ rfl
        have c9 := hcell 9 _ rfl
        simp only [Nat.add_zero] at c0
        have HDO := do_any HD5.out HH.out.2.1 (by omega) (Nat.le_trans HH.out.2.2.1 (by omega)) (by rw [HH.out.2.2.2.1]; omega) HOK.out HB5.out HH.out.2.2.2.2.1
        unfold ptr spcells at HDO
        clear a1 a2 a3 a4 e1 e2 e3 e4 hb hb5 hcell HA HJ
        go_wp2_with fail
        refine HDO.mono ?_
        clear HDO c0 c1 c2 c3 c4 c5 c6 c7 c8 c9
        rintro y w6 ⟨rfl, ha6⟩
        have HC6 := hid (HCD.out.apart ha6 fun i hi hS => by
          have := HCS.out i hi
          have := HH.out.1.bound i hS
          omega)
        have HB6 := hid (ha6.low HB5.out HH.out.2.2.2.2.1)
        obtain ⟨S6, d6, u6, _⟩ := ha6
        have HD6 := hid d6
        have HS6 : Hid (∀ i, S6 i → w.heap.size ≤ i) := hid fun i hi => (u6 i hi).elim (HH.out.2.2.2.2.1 i) fun h => Nat.le_trans HB5.out.size h
        have hkeep := doW_keeps s x
        have hcc := HH.out.2.2.1
        have HK6 : Hid (Pair (k + 1) (doW s x) (doD r x) ∧ (doW s x).calls ≤ k + 1 ∧ (doW s x).l.length = m) := hid ⟨HH.out.2.1.did HOK.out, by omega, by rw [hkeep.1]; exact HH.out.2.2.2.1⟩
        clear d6 u6 hkeep hcc
        have HLK := like_any HD6.out HK6.out.1 (by omega) (by rw [HK6.out.2.2]; omega)
        unfold ptr at HLK
        go_wp2_with fail
        refine HLK.mono ?_
        clear HLK
        rintro y w7 ⟨rfl, hb7⟩
        have HC7 := hid (HC6.out.below hb7)
        have HD7 := hid (HD6.out.below hb7)
        have HB7 := hid (HB6.out.trans (hb7.mono HB6.out.size))
        clear hb7 HC6 HD6 HB6
        have HLK := like_any HC7.out HCP.out (by omega) (by show l'.length ≤ 1000; rw [HLC.out]; omega)
        unfold ptr at HLK
        go_wp2_with fail
        refine HLK.mono ?_
        clear HLK
        rintro y w8 ⟨rfl, hb8⟩
        have HD8 := hid (HD7.out.below hb8)
        have HB8 := hid (HB7.out.trans (hb8.mono HB7.out.size))
        clear hb8 HC7 HD7 HB7
        go_wp2_with fail
        go_roundg g1
        case measure => omega
        case rel => exact ⟨k + 1, S6, doW s x, doD r x, by omega, by first | rfl | simp, hid ⟨HD8.out, HK6.out.1, HK6.out.2.1, HK6.out.2.2, HS6.out, HB8.out⟩⟩
end Go.Proofs.YtgdiaflikfdnaaaGreat
/- Two worlds that go their own ways: what is kept; what was synced. -/
namespace Go.Proofs.YtgdiaflikfdnaaaGreat
open Go.RowKit Go.Maps
/-- the program's world s and the document's r, each with a world beside it that tells the same -/
structure GI (w0 w : World) (k : Nat) (S : Nat → Prop) (b c : Nat) (p : Nat × Nat × Nat) (s : Wd) (r : Rd) (s0 : Wd) (r0 : Rd) : Prop where
  dp : DP w S b c p s r
  p1 : Pair k s r0
  p2 : Pair k s0 r
  c1 : s.calls ≤ k
  c2 : s0.calls ≤ k
  l1 : s.l.length = 3
  l2 : s0.l.length = 3
  up : ∀ i, S i → w0.heap.size ≤ i
  bw : Below w0.heap.size w0 w
variable {w0 w w' : World} {k : Nat} {S : Nat → Prop} {b c : Nat} {p : Nat × Nat × Nat} {s s0 : Wd} {r r0 : Rd}
theorem GI.below (h : GI w0 w k S b c p s r s0 r0) (hb : Below w.heap.size w w') : GI w0 w' k S b c p s r s0 r0 := { h with dp := h.dp.below hb, bw := h.bw.trans (hb.mono h.bw.size) }
theorem GI.more (h : GI w0 w k S b c p s r s0 r0) {m : Nat} (hm : k ≤ m) : GI w0 w m S b c p s r s0 r0 := { h with p1 := h.p1.more hm, p2 := h.p2.more hm, c1 := Nat.le_trans h.c1 hm, c2 := Nat.le_trans h.c2 hm }
theorem GI.did (h : GI w0 w k S b c p s r s0 r0) (hk : k ≤ 90000) {x : Sp} (hx : SpOk w0 x) (Q : Ending → World → Prop) (hq : ∀ z w' S', GI w0 w' (k + 1) S' b c p (doW s x) (doD r x) (doW s0 x) (doD r0 x) → (∀ i, S' i → S i ∨ w.heap.size ≤ i) → Only S w w' → Q (.returned (.bool z)) w') : Calls Tryz.prog 12 #[.agg (spcells x).toArray, ptr b, ptr c] w Q := by
  have e1 := h.c1
  have e2 := h.c2
  refine do_any2 h.dp h.p1 h.p2 (by omega) (by omega) (by rw [← h.p2.calls]; omega) (by rw [h.l1]; omega) (by rw [← h.p2.len, h.l2]; omega) hx h.bw h.up Q fun z w' ha => ?_
  have hlow := ha.low h.bw h.up
  obtain ⟨S', d, u, o⟩ := ha
  have f1 := doW_keeps s x
  have f2 := doW_keeps s0 x
  exact hq z w' S' ⟨d, h.p1.did hx, h.p2.did hx, by omega, by omega, by rw [f1.1]; exact h.l1, by rw [f2.1]; exact h.l2, fun i hi => (u i hi).elim (h.up i) fun h' => Nat.le_trans h.bw.size h', hlow⟩ u o
theorem GI.call (h : GI w0 w k S b c p s r s0 r0) : ∃ S1, IsWd w S1 b p.1 s ∧ (∀ i, S1 i → S i) ∧ ∀ w' s' r0', AfterW w w' S1 b p.1 s' → Pair (k + 1) s' r0' → s'.calls ≤ k + 1 → s'.l.length = 3 → ∃ S', GI w0 w' (k + 1) S' b c p s' r s0 r0' ∧ (∀ i, S' i → S i ∨ w.heap.size ≤ i) ∧ Only S w w' := by
  obtain ⟨S1, k1, k2, k3⟩ := h.dp.st
  refine ⟨S1, k1, k2, fun w' s' r0' ha hp hc hl => ?_⟩
  have ha2 := k3 _ _ ha
  have hlow := ha2.low h.bw h.up
  obtain ⟨S', d, u, o⟩ := ha2
  exact ⟨S', ⟨d, hp, h.p2.more (Nat.le_succ k), hc, Nat.le_trans h.c2 (Nat.le_succ k), hl, h.l2, fun i hi => (u i hi).elim (h.up i) fun h' => Nat.le_trans h.bw.size h', hlow⟩, u, o⟩
theorem long_any3 {v : Value} {l : List Sp} (h : Steps w v l) (Q : Ending → World → Prop) (hq : ∀ z w', Below w.heap.size w w' → (z = false → l.length ≤ 60 ∧ ∀ x ∈ l, x.nm.size ≤ 200) → Q (.returned (.bool z)) w') : Calls Tryz.prog 6 #[v] w Q :=
  long_any h Q (fun w' hb => hq true w' hb fun h => by cases h) fun hf z w' hb => hq z w' hb fun _ => hf
theorem RdS.low {v : Value} {l : List Sv} (h : RdS w v l) (hb : Below w.heap.size w w') : RdS w' v l := by
  have hI : ∀ {v : Value} {ks : List Int}, RdI w v ks → RdI w' v ks := fun {v ks} h => by
    rcases h with h | ⟨g, o, cap, h0, e, hg, hc⟩
    · exact .inl h
    · exact .inr ⟨g, o, cap, h0, e, Nat.lt_of_lt_of_le hg hb.size, fun j z hz => by rw [hb.cell (p := ⟨g, o + j, none⟩) hg]; exact hc j z hz⟩
  obtain ⟨h1, h2⟩ := h
  refine ⟨?_, fun x hx => ⟨hI (h2 x hx).1, (h2 x hx).2⟩⟩
  rcases h1 with h | ⟨g, o, cap, h0, e, hg, hc⟩
  · exact .inl h
  · exact .inr ⟨g, o, cap, h0, e, Nat.lt_of_lt_of_le hg hb.size, fun j z hz => by rw [hb.cell (p := ⟨g, o + j, none⟩) hg]; exact hc j z hz⟩
theorem Steps.low {v : Value} {l : List Sp} (h : Steps w v l) (hb : Below w.heap.size w w') : Steps w' v l := by
  obtain ⟨h1, h2⟩ := h
  refine ⟨?_, fun x hx => { h2 x hx with lv := (h2 x hx).lv.low hb }⟩
  rcases h1 with h | ⟨g, o, cap, e, hl, hg, hc⟩
  · exact .inl h
  · exact .inr ⟨g, o, cap, e, hl, Nat.lt_of_lt_of_le hg hb.size, fun j x hx i u hu => by rw [hb.cell (p := ⟨g, o + j * 10 + i, none⟩) hg]; exact hc j x hx i u hu⟩
theorem GI.born {w1 w2 w3 : World} {S T : Nat → Prop} {g g2 u2 : Nat} {lk : List Kp} {lr : List Kr} (hb : Below w0.heap.size w0 w1) (i1 : IsWd w2 S b g (newW lk)) (i2 : lk.length = 3) (i3 : ∀ x ∈ lk, x.st = st0 ∧ x.sus = false) (i4 : ∀ i, S i → w1.heap.size ≤ i) (i5 : Below w1.heap.size w1 w2) (k1 : IsRd w3 T c g2 u2 (newD lr)) (k2 : lr.length = 3) (k3 : ∀ x ∈ lr, x.rf = rf0 ∧ x.sus = false) (k4 : ∀ i, T i → w2.heap.size ≤ i) (k5 : Below w2.heap.size w2 w3) : GI w0 w3 0 (fun i => S i ∨ T i) b c (g, g2, u2) (newW lk) (newD lr) (newW lk) (newD lr) := by
  have hbn := DP.born i1 i4 i5 k1 k4 k5
  have hp := Pair.new i2 k2 i3 k3
  exact ⟨hbn.1, hp, hp, Nat.le_refl _, Nat.le_refl _, i2, i2, fun i hi => Nat.le_trans hb.size (hbn.2 i hi), hb.trans ((i5.trans (k5.mono i5.size)).mono hb.size)⟩
theorem askD_zero {R : Rd} {i : Int} {f : Rf → Int × Rf} (h : (askD R i f).1 = 0) : (0 ≤ i ∧ i < (R.l.length : Int)) ∧ ∃ x, R.l[i.toNat]? = some x ∧ (f x.rf).1 = 0 ∧ (askD R i f).2.l = R.l.set i.toNat { x with rf := (f x.rf).2 } := by
  unfold askD at h ⊢
  by_cases he : eD R i = 0
  · have hin := eD_in he
    obtain ⟨x, hx⟩ : ∃ x, R.l[i.toNat]? = some x := ⟨_, List.getElem?_eq_getElem (by omega)⟩
    have hx' : (wD R i).l[i.toNat]? = some x := by rw [wD_l]; exact hx
    rw [if_pos he, hx'] at h ⊢
    exact ⟨hin, x, hx, h, by simp [wD_l]⟩
  · rw [if_neg he] at h
    exact absurd h he
theorem HoldsAt.begin {N : Nat} {W : Wd} {R : Rd} (h : Pair N W R) {i : Int} {n d : ByteArray} (hp : (askD R i (fun r => putR r n d)).1 = 0) (hs : (askD (askD R i (fun r => putR r n d)).2 i syncR).1 = 0) : (0 ≤ i ∧ i < (W.l.length : Int)) ∧ HoldsAt i.toNat n d (askD (askD R i fun r => putR r n d).2 i syncR).2 := by
  obtain ⟨hin, x, hx, h1, e1⟩ := askD_zero hp
  obtain ⟨_, y, hy, h2, e2⟩ := askD_zero hs
  rw [e1, List.getElem?_set_self (by omega)] at hy
  cases hy
  simp only at h2 e2
  obtain ⟨xs, _, ht, _⟩ := h.ours hx
  refine ⟨by rw [h.len]; exact hin, _, by rw [e2, List.getElem?_set_self (by rw [e1, List.length_set]; omega)], ?_⟩
  exact Holds.begin (by rw [ht.seen]; exact ht.rising) h1 h2
theorem askS_zero {W : Wd} {i : Int} {f : St → Int × St} (h : (askS W i f).1 = 0) : ∃ x : Kp, (f x.st).1 = 0 := by
  unfold askS at h
  split at h
  · split at h
    · cases h
    · split at h
      · rename_i x hx
        exact ⟨x, h⟩
      · cases h
  · cases h
theorem put_small {s : St} {n d : ByteArray} (h : (putS s n d).1 = 0) : n.size ≤ 80 := by
  unfold putS at h
  split at h
  · cases h
  · rename_i hb
    simp [badName] at hb
    omega
end Go.Proofs.YtgdiaflikfdnaaaGreat
