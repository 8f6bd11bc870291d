/- The contract of the document's Add. -/
import Derived.Test.YtknddbmnciodaaaPast
import Derived.Test.YtknddbmnciodaaaCom
import Derived.Deep.CutRange
import Derived.Deep.RegionWith
namespace Go.Proofs.Ytknddbmnciodaaa
open Go.RowKit
open Ix
set_option linter.unusedVariables false
theorem addR_form {C : List ByteArray} {P : List Pl} {D : List ByteArray} {Q : List Pl} (h : mayS C P = false) : addR C P D Q = 4 := by
  have : adE C P D Q = 4 := by unfold adE; rw [h]; rfl
  unfold addR; rw [this]; rfl
theorem addR_bad {C : List ByteArray} {P : List Pl} {D : List ByteArray} {Q : List Pl} (h : mayS C P = true) (hb : badA D Q = true) : addR C P D Q = 1 := by
  have : adE C P D Q = 1 := by unfold adE; rw [h, hb]; rfl
  unfold addR; rw [this]; rfl
theorem addR_twice {C : List ByteArray} {P : List Pl} {D : List ByteArray} {Q : List Pl} (h : mayS C P = true) (hb : badA D Q = false) (hf : frN C D D.length = false) : addR C P D Q = 6 := by
  have : adE C P D Q = 6 := by unfold adE; rw [h, hb, hf]; rfl
  unfold addR; rw [this]; rfl
theorem addR_large {C : List ByteArray} {P : List Pl} {D : List ByteArray} {Q : List Pl} (h : mayS C P = true) (hb : badA D Q = false) (hf : frN C D D.length = true) (hl : 400 < C.length + D.length) : addR C P D Q = 40 := by
  have : adE C P D Q = 40 := by unfold adE; rw [h, hb, hf]; simp [hl]
  unfold addR; rw [this]; rfl
theorem addR_fits {C : List ByteArray} {P : List Pl} {D : List ByteArray} {Q : List Pl} (h : mayS C P = true) (hb : badA D Q = false) (hf : frN C D D.length = true) (hl : ¬ 400 < C.length + D.length) : addR C P D Q = if comN ((addL C P D Q).map Prod.snd) (addL C P D Q).length = true then 1 else 0 := by
  have : adE C P D Q = 0 := by unfold adE; rw [h, hb, hf]; simp [hl]
  unfold addR; rw [if_pos this]
theorem badA_yes {D : List ByteArray} {Q : List Pl} (h : ¬ (D.length = Q.length ∧ 0 < D.length ∧ (∀ d ∈ D, d.size = 32) ∧ ∀ p ∈ Q, mayP p)) : badA D Q = true := by
  cases hb : badA D Q with
  | true => rfl
  | false => exact absurd (badA_no.1 hb) h
set_option maxRecDepth 20000 in
set_option maxHeartbeats 16000000 in
theorem refAdd_any (s : St) (a0 a1 a2 b1 b2 : Option Addr) (c0 c1 c2 d1 d2 : Nat) (D : List ByteArray) (Q : List Pl) (hn : s.C.length ≤ 100000) (hn2 : s.P.length ≤ 100000) (hm : D.length ≤ 10000) (hm2 : Q.length ≤ 10000)
    (w : World) (hS : Sn w a0 s.sn) (hC : Tx w a1 s.C) (hP : Ps w a2 s.P) (hD : Tx w b1 D) (hQ : Ps w b2 Q) :
    Calls Try.prog 8 #[.agg (stV s a0 a1 a2 c0 c1 c2), .slice b1 D.length d1, .slice b2 Q.length d2] w fun e w' => ∃ v, e = .returned (.tuple #[.agg v, .int .i64 (addR s.C s.P D Q)]) ∧ Comes w v (addS s D Q) (addR s.C s.P D Q) w' := by
  obtain ⟨b, hb⟩ : ∃ b, b = w.heap.size := ⟨_, rfl⟩
  obtain ⟨w1, hw1⟩ : ∃ w1, w1 = (w.alloc (.cells (stV s a0 a1 a2 c0 c1 c2) 28)).alloc (.cells stZ 28) := ⟨_, rfl⟩
  have hB : RowKit.Below w.heap.size w w1 := by rw [hw1]; exact ((RowKit.Below.refl _ w).alloc (Nat.le_refl _) _).alloc (by simp) _
  have n1 : Has w1 b (stV s a0 a1 a2 c0 c1 c2) 28 := by rw [hw1]; exact (Has.new w _ _ _ hb).alloc _
  have n2 : Has w1 (b + 1) stZ 28 := by rw [hw1]; exact Has.new _ _ _ _ (by simp [hb])
  have C0 := refMay_any s a0 a1 a2 c0 c1 c2 hn hn2 w1 (hC.below hB) (hP.below hB)
  have HS := hid (fun W (hW : RowKit.Below w.heap.size w W) => hS.below hW)
  have HC := hid hC
  have HP := hid hP
  have HD := hid hD
  have HQr := hid hQ
  have HB := hid hB
  have HBW := hid hb
  have HK := hid (fun W (hW : Has W b (stV s a0 a1 a2 c0 c1 c2) 28) => (show (W.cell? ⟨b, 0, none⟩ = some (.int .i64 s.k) ∧ W.cell? ⟨b, 1, none⟩ = some (.int .i64 s.n) ∧ W.cell? ⟨b, 2, none⟩ = some (.int .i64 s.nx) ∧ W.cell? ⟨b, 3, none⟩ = some (.slice a0 s.sn.length c0) ∧ W.cell? ⟨b, 4, none⟩ = some (.slice a1 s.C.length c1) ∧ W.cell? ⟨b, 5, none⟩ = some (.slice a2 s.P.length c2)) from
    ⟨by rw [hW.cell]; rfl, by rw [hW.cell]; rfl, by rw [hW.cell]; rfl, by rw [hW.cell]; rfl, by rw [hW.cell]; rfl, by rw [hW.cell]; rfl⟩))
  have HF := hid (fun W (hW : Has W (b + 1) stZ 28) => (show (W.cell? ⟨b + 1, 0, none⟩ = some (.int .i64 0) ∧ W.cell? ⟨b + 1, 1, none⟩ = some (.int .i64 0) ∧ W.cell? ⟨b + 1, 2, none⟩ = some (.int .i64 0) ∧ W.cell? ⟨b + 1, 3, none⟩ = some (.slice none 0 0) ∧ W.cell? ⟨b + 1, 4, none⟩ = some (.slice none 0 0) ∧ W.cell? ⟨b + 1, 5, none⟩ = some (.slice none 0 0)) from
    ⟨by rw [hW.cell]; rfl, by rw [hW.cell]; rfl, by rw [hW.cell]; rfl, by rw [hW.cell]; rfl, by rw [hW.cell]; rfl, by rw [hW.cell]; rfl⟩))
  have HFZ := hid (fun W (hW : Has W (b + 1) stZ 28) => (show (W.frozen? ⟨b + 1, 0, none⟩ = false ∧ W.frozen? ⟨b + 1, 1, none⟩ = false ∧ W.frozen? ⟨b + 1, 2, none⟩ = false ∧ W.frozen? ⟨b + 1, 3, none⟩ = false ∧ W.frozen? ⟨b + 1, 4, none⟩ = false ∧ W.frozen? ⟨b + 1, 5, none⟩ = false) from
    ⟨hW.frozen 0, hW.frozen 1, hW.frozen 2, hW.frozen 3, hW.frozen 4, hW.frozen 5⟩))
  have HZERO := hid (fun (er : Int) (he : er ≠ 0) (hE : addR s.C s.P D Q = er) W (h2 : Has W (b + 1) stZ 28) (hbW : RowKit.Below w.heap.size w W) (v : Value) (hv : v = .int .i64 er) => (show ∃ v', (Ending.returned (.tuple #[.agg #[.int .i64 0, .int .i64 0, .int .i64 0, .slice none 0 0, .slice none 0 0, .slice none 0 0], v])) = .returned (.tuple #[.agg v', .int .i64 (addR s.C s.P D Q)]) ∧ Comes w v' (addS s D Q) (addR s.C s.P D Q) ((((((W.setCell ⟨b + 1, 0, none⟩ (.int .i64 0)).setCell ⟨b + 1, 1, none⟩ (.int .i64 0)).setCell ⟨b + 1, 2, none⟩ (.int .i64 0)).setCell ⟨b + 1, 3, none⟩ (.slice none 0 0)).setCell ⟨b + 1, 4, none⟩ (.slice none 0 0)).setCell ⟨b + 1, 5, none⟩ (.slice none 0 0)) from
    ⟨_, by rw [hE, hv]; rfl, fun h => absurd (hE ▸ h) he, fun _ => rfl, below_put6 hbW (by have := HBW.out; omega) _ _ _ _ _ _⟩))
  obtain ⟨k0, k1, k2, k3, k4, k5⟩ := HK.out w1 n1
  have HN1 := hid n1
  have HN2 := hid n2
  clear hB n1 n2 hC hP hS hD hQ
  change w1 = (w.alloc (.cells #[.int .i64 s.k, .int .i64 s.n, .int .i64 s.nx, .slice a0 s.sn.length c0, .slice a1 s.C.length c1, .slice a2 s.P.length c2] 28)).alloc (.cells #[.int .i64 0, .int .i64 0, .int .i64 0, .slice none 0 0, .slice none 0 0, .slice none 0 0] 28) at hw1
  show Calls Try.prog 8 #[.agg #[.int .i64 s.k, .int .i64 s.n, .int .i64 s.nx, .slice a0 s.sn.length c0, .slice a1 s.C.length c1, .slice a2 s.P.length c2], .slice b1 D.length d1, .slice b2 Q.length d2] w _
  change Calls Try.prog 21 #[.agg #[.int .i64 s.k, .int .i64 s.n, .int .i64 s.nx, .slice a0 s.sn.length c0, .slice a1 s.C.length c1, .slice a2 s.P.length c2]] w1 _ at C0
  obtain ⟨n, hnn⟩ : ∃ n, n = D.length := ⟨_, rfl⟩
  have HN := hid hnn
  obtain ⟨m, hmm⟩ : ∃ m, m = Q.length := ⟨_, rfl⟩
  have HM := hid hmm
  rw [← hnn] at hm ⊢
  rw [← hmm] at hm2 ⊢
  clear hnn hmm
  go_enter Try.func8, Try.ntmps8
  go_upto_region 1 with fail
  rw [← hw1, ← hb]
  clear hw1 hb
  go_wp2_with fail
  refine C0.mono ?_
  rintro e w2 ⟨rfl, b2'⟩
  have HB2 := hid (HB.out.trans (b2'.mono HB.out.size))
  have N1 := hid (HN1.out.below b2' HN1.out.lt)
  have N2 := hid (HN2.out.below b2' HN2.out.lt)
  clear C0 b2' k0 k1 k2 k3 k4 k5 HN1 HN2 HB
  cases hmay : mayS s.C s.P with
  | false =>
    obtain ⟨f0, f1, f2, f3, f4, f5⟩ := HFZ.out _ N2.out
    obtain ⟨l0, l1, l2, l3, l4, l5⟩ := HF.out _ N2.out
    have HE := hid (addR_form (D := D) (Q := Q) hmay)
    clear hmay
    go_wp2_with fail
    have hp6 := put6 N2.out (.int .i64 0) (.int .i64 0) (.int .i64 0) (.slice none 0 0) (.slice none 0 0) (.slice none 0 0)
    exact ret_state Try.results8 rfl rfl rfl hp6 rfl (HZERO.out 4 (by decide) HE.out _ N2.out HB2.out _ rfl)
  | true =>
    have HMAY := hid hmay
    clear hmay
    by_cases hlen : n = m
    · by_cases h0 : n < 1
      · have q1 : ((n : Int) != (m : Int)) = false := by simp; omega
        have q2 : (n : Int) < 1 := by omega
        obtain ⟨f0, f1, f2, f3, f4, f5⟩ := HFZ.out _ N2.out
        obtain ⟨l0, l1, l2, l3, l4, l5⟩ := HF.out _ N2.out
        have HE := hid (addR_bad (D := D) (Q := Q) HMAY.out (badA_yes (by have := HN.out; omega)))
        clear hlen h0
        go_wp2_with fail
        have hp6 := put6 N2.out (.int .i64 0) (.int .i64 0) (.int .i64 0) (.slice none 0 0) (.slice none 0 0) (.slice none 0 0)
        exact ret_state Try.results8 rfl rfl rfl hp6 rfl (HZERO.out 1 (by decide) HE.out _ N2.out HB2.out _ rfl)
      · have q1 : ((n : Int) != (m : Int)) = false := by simp; omega
        have q2 : ¬ (n : Int) < 1 := by omega
        have q3 : decide ((n : Int) < 1) = false := decide_eq_false q2
        have HLM := hid hlen
        have HN0 := hid h0
        clear hlen h0
        go_wp2_with fail
        go_loopw [8] (fun v8 wr => ∃ k : Nat, k ≤ n ∧ v8 = .int .i64 (k : Int) ∧ Hid (Has wr b (stV s a0 a1 a2 c0 c1 c2) 28) ∧ Hid (Has wr (b + 1) stZ 28) ∧ Hid (∀ j, j < k → (D.getD j ⟨#[]⟩).size = 32 ∧ mayP (Q.getD j default)) ∧ Hid (RowKit.Below w.heap.size w wr)) (fun v8 _ => n - (intOf v8).toNat)
        case atStart => exact ⟨0, Nat.zero_le _, rfl, N1, N2, hid (fun j h => absurd h (Nat.not_lt_zero _)), HB2⟩
        case round =>
          obtain ⟨k, hk, rfl, H1, H2, HOK, HBr⟩ := hrel
          clear N1 N2 HB2 q1 q2 q3
          by_cases hlt : k < n
          · have hkD : k < D.length := by rw [← HN.out]; exact hlt
            have hkQ : k < Q.length := by rw [← HM.out, ← HLM.out]; exact hlt
            obtain ⟨g, o, rfl, hg, e0⟩ := tx_cell HD.out HBr.out hkD
            obtain ⟨g', o', rfl, hg', p1, p2, p3⟩ := ps_cell HQr.out HBr.out hkQ
            have i1 : (k : Int) < (n : Int) := by omega
            have i0 : (0 : Int) ≤ (k : Int) := by omega
            have i2 : (k : Int) < (m : Int) := by rw [← HLM.out]; omega
            have wk : IntKind.i64.wrap ((k : Int) + 1) = ((k + 1 : Nat) : Int) := by rw [IntKind.wrap_i64]; omega
            have HDM := hid (getD_mem hkD)
            have HQM := hid (getP_mem hkQ)
            have HX := hid (rfl : D.getD k ⟨#[]⟩ = D.getD k ⟨#[]⟩)
            obtain ⟨x, hx⟩ : ∃ x, x = D.getD k ⟨#[]⟩ := ⟨_, rfl⟩
            obtain ⟨y, hy⟩ : ∃ y, y = Q.getD k default := ⟨_, rfl⟩
            rw [← hx] at HDM e0
            rw [← hy] at HQM p1 p2 p3
            have HXX := hid hx
            have HYY := hid hy
            clear hx hy HX
            by_cases hsz : x.size = 32
            · have z1 : ((x.size : Int) != 32) = false := by rw [hsz]; rfl
              have C9 := mayPlace_any y wr
              change Calls Try.prog 29 #[.agg #[.string y.pack, .int .i64 y.at_, .int .i64 y.len]] wr _ at C9
              have HSZ := hid hsz
              clear hsz
              go_wp2_with fail
              refine C9.mono ?_
              rintro e w3 ⟨rfl, b3⟩
              have HB3 := hid (HBr.out.trans (b3.mono HBr.out.size))
              have H13 := hid (H1.out.below b3 H1.out.lt)
              have H23 := hid (H2.out.below b3 H2.out.lt)
              clear C9 b3 H1 H2 HBr
              by_cases hmp : mayP y
              · have HOK2 : Hid (∀ j, j < k + 1 → (D.getD j ⟨#[]⟩).size = 32 ∧ mayP (Q.getD j default)) := hid (fun j hj => by
                  rcases Nat.lt_or_ge j k with h | h
                  · exact HOK.out j h
                  · obtain rfl : j = k := by omega
                    rw [← HXX.out, ← HYY.out]; exact ⟨HSZ.out, hmp⟩)
                rw [decide_eq_true hmp]
                clear hmp
                go_wp2_with fail
                go_roundw
                case rel => exact ⟨k + 1, by omega, by rfl, H13, H23, HOK2, HB3⟩
                case measure => first | (simp [intOf]; done) | (simp [intOf]; omega)
              · have HE := hid (addR_bad (D := D) (Q := Q) HMAY.out (badA_yes (fun h => hmp (h.2.2.2 _ HQM.out))))
                obtain ⟨f0, f1, f2, f3, f4, f5⟩ := HFZ.out _ H23.out
                obtain ⟨l0, l1, l2, l3, l4, l5⟩ := HF.out _ H23.out
                rw [decide_eq_false hmp]
                clear hmp
                go_wp2_with fail
                have hp6 := put6 H23.out (.int .i64 0) (.int .i64 0) (.int .i64 0) (.slice none 0 0) (.slice none 0 0) (.slice none 0 0)
                exact ret_state Try.results8 rfl rfl rfl hp6 rfl (HZERO.out 1 (by decide) HE.out _ H23.out HB3.out _ rfl)
            · have z1 : ((x.size : Int) != 32) = true := by simp; omega
              have HE := hid (addR_bad (D := D) (Q := Q) HMAY.out (badA_yes (fun h => hsz (h.2.2.1 _ HDM.out))))
              obtain ⟨f0, f1, f2, f3, f4, f5⟩ := HFZ.out _ H2.out
              obtain ⟨l0, l1, l2, l3, l4, l5⟩ := HF.out _ H2.out
              clear hsz
              go_wp2_with fail
              have hp6 := put6 H2.out (.int .i64 0) (.int .i64 0) (.int .i64 0) (.slice none 0 0) (.slice none 0 0) (.slice none 0 0)
              exact ret_state Try.results8 rfl rfl rfl hp6 rfl (HZERO.out 1 (by decide) HE.out _ H2.out HBr.out _ rfl)
          · obtain rfl : n = k := by omega
            have j1 : ¬ ((n : Int) < (n : Int)) := by omega
            have hbad : badA D Q = false := badA_no.2 ⟨by have := HN.out; have := HM.out; have := HLM.out; omega, by have := HN.out; have := HN0.out; omega, fun d hd => by
              obtain ⟨j, hj, e⟩ := List.mem_iff_getElem.1 hd
              have := (HOK.out j (by have := HN.out; omega)).1
              rw [List.getD_eq_getElem?_getD, List.getElem?_eq_getElem hj] at this
              rw [← e]; exact this, fun p hp => by
              obtain ⟨j, hj, e⟩ := List.mem_iff_getElem.1 hp
              have := (HOK.out j (by have := HM.out; have := HLM.out; omega)).2
              rw [List.getD_eq_getElem?_getD, List.getElem?_eq_getElem hj] at this
              rw [← e]; exact this⟩
            have HBAD := hid hbad
            have hM := mayS_iff.1 HMAY.out
            have hzC : (s.C.zip s.P).length = s.C.length := zip_len _ _ (by omega)
            have hzN : (D.zip Q).length = n := by rw [zip_len _ _ (by have := HN.out; have := HM.out; have := HLM.out; omega), ← HN.out]
            have HFN : Hid (frN s.C D D.length = true ↔ newN (s.C.zip s.P) (D.zip Q) (D.zip Q).length = true) := hid (by
              rw [newN_all, frN_fresh (P := s.P) (Q := Q) hM.1 (by have := HN.out; have := HM.out; have := HLM.out; omega)])
            have HFN2 : Hid (∀ i, newN (s.C.zip s.P) (D.zip Q) i = false → i ≤ n → frN s.C D D.length = false) := hid (fun i hi hin => by
              cases hf : frN s.C D D.length with
              | false => rfl
              | true =>
                have h1 := HFN.out.1 hf
                rw [newN_mono hi (by rw [hzN]; exact hin)] at h1
                exact absurd h1 (by decide))
            have HGET := hid (fun i (h : i < n) => zip_get (C := D) (P := Q) (i := i) (by have := HN.out; omega) (by have := HM.out; have := HLM.out; omega))
            have HLEN := hid (fun i (h : i ≤ n) => (show (adds (s.C.zip s.P) ((D.zip Q).take i)).length = s.C.length + i from by
              rw [length_adds, List.length_take, hzC, hzN]; omega))
            have HZN := hid hzN
            have hT0 : Tx wr a1 ((s.C.zip s.P).map Prod.fst) := by rw [zip_fst hM.1]; exact HC.out.below HBr.out
            have hP0 : Ps wr a2 ((s.C.zip s.P).map Prod.snd) := by rw [zip_snd hM.1]; exact HP.out.below HBr.out
            obtain ⟨k0, k1, k2, k3, k4, k5⟩ := HK.out wr H1.out
            obtain ⟨q, hq⟩ : ∃ q, q = wr.heap.size := ⟨_, rfl⟩
            obtain ⟨w4, hw4⟩ : ∃ w4, w4 = wr.alloc (.cells #[.int .i64 s.k, .int .i64 s.n, .int .i64 s.nx, .slice a0 s.sn.length c0, .slice a1 s.C.length c1, .slice a2 s.P.length c2] 28) := ⟨_, rfl⟩
            have bb4 : RowKit.Below wr.heap.size wr w4 := by rw [hw4]; exact (RowKit.Below.refl _ wr).alloc (Nat.le_refl _) _
            have HW4 := hid (HBr.out.trans (bb4.mono HBr.out.size))
            have M1 := hid (H1.out.below bb4 H1.out.lt)
            have M2 := hid (H2.out.below bb4 H2.out.lt)
            have M3 : Hid (Has w4 q #[.int .i64 s.k, .int .i64 s.n, .int .i64 s.nx, .slice a0 s.sn.length c0, .slice a1 (s.C.zip s.P).length c1, .slice a2 (s.C.zip s.P).length c2] 28) := hid (by rw [hw4, hzC, show s.P.length = s.C.length from hM.1.symm]; exact Has.new _ _ _ _ hq)
            have M4 := hid (hT0.below bb4)
            have M5 := hid (hP0.below bb4)
            have HQB : Hid (b ≠ q ∧ b + 1 ≠ q) := hid (by have := H2.out.lt; rw [hq]; omega)
            have HQW : Hid (w.heap.size ≤ q) := hid (by rw [hq]; exact HBr.out.size)
            have hmost := hM.2.most
            rw [hzC] at hmost
            have HCL := hid (And.intro hzC hM.1)
            clear hM hzC hzN hT0 hP0 hbad
            go_upto_region 11 with fail
            rw [← hw4, ← hq]
            clear hw4 hq bb4 H1 H2 HBr k0 k1 k2 k3 k4 k5 HOK
            generalize hMM : s.C.zip s.P = M at *
            have HMM := hid hMM
            clear hMM
            generalize hNN : D.zip Q = N at *
            have HNN := hid hNN
            clear hNN
            go_wp2_with fail
            go_loopw [10] (fun v10 wr => ∃ (i : Nat) (L : List En) (AC AP : Option Addr) (cC cP : Nat), i ≤ n ∧ v10 = .int .i64 (i : Int) ∧ Hid (L = adds M (N.take i)) ∧ Hid (L.length = s.C.length + i) ∧ Hid (newN M N i = true) ∧ Hid (Has wr b (stV s a0 a1 a2 c0 c1 c2) 28) ∧ Hid (Has wr (b + 1) stZ 28) ∧ Hid (Has wr q #[.int .i64 s.k, .int .i64 s.n, .int .i64 s.nx, .slice a0 s.sn.length c0, .slice AC L.length cC, .slice AP L.length cP] 28) ∧ Hid (Tx wr AC (L.map Prod.fst)) ∧ Hid (Ps wr AP (L.map Prod.snd)) ∧ Hid (RowKit.Below w.heap.size w wr)) (fun v10 _ => n - (intOf v10).toNat)
            case atStart => exact ⟨0, M, a1, a2, c1, c2, Nat.zero_le _, rfl, hid rfl, hid HCL.out.1, hid rfl, M1, M2, M3, M4, M5, HW4⟩
            case round =>
              obtain ⟨i, L, AC, AP, cC, cP, hi, rfl, HL, hLl, HNW, H1, H2, HQ, HT, HPs, HBr⟩ := hrel
              clear M1 M2 M3 M4 M5 HW4
              by_cases hlt : i < n
              · have hkD : i < D.length := by rw [← HN.out]; exact hlt
                have hkQ : i < Q.length := by rw [← HM.out, ← HLM.out]; exact hlt
                have HXY := hid (HGET.out i hlt)
                obtain ⟨g, o, rfl, hg, e0⟩ := tx_cell HD.out HBr.out hkD
                obtain ⟨g', o', rfl, hg', p1, p2, p3⟩ := ps_cell HQr.out HBr.out hkQ
                have HDC := hid (fun W (hW : RowKit.Below w.heap.size w W) => (show W.cell? ⟨g, o + i, none⟩ = some (.string (D.getD i ⟨#[]⟩)) from by
                  obtain ⟨g9, o9, e9, _, h⟩ := tx_cell HD.out hW hkD
                  cases e9; exact h))
                have HQC := hid (fun W (hW : RowKit.Below w.heap.size w W) => (show W.cell? ⟨g', o' + i * 3, none⟩ = some (.string (Q.getD i default).pack) ∧ W.cell? ⟨g', o' + i * 3 + 1, none⟩ = some (.int .i64 (Q.getD i default).at_) ∧ W.cell? ⟨g', o' + i * 3 + 2, none⟩ = some (.int .i64 (Q.getD i default).len) from by
                  obtain ⟨g9, o9, e9, _, h⟩ := ps_cell HQr.out hW hkQ
                  cases e9; exact h))
                have i1 : (i : Int) < (n : Int) := by omega
                have i0 : (0 : Int) ≤ (i : Int) := by omega
                have i2 : (i : Int) < (m : Int) := by rw [← HLM.out]; omega
                have wk : IntKind.i64.wrap ((i : Int) + 1) = ((i + 1 : Nat) : Int) := by rw [IntKind.wrap_i64]; omega
                generalize D.getD i ⟨#[]⟩ = d at *
                generalize Q.getD i default = y at *
                clear p1 p2 p3
                have x4 : wr.cell? ⟨q, 4, none⟩ = some (.slice AC L.length cC) := by rw [HQ.out.cell]; rfl
                have HATL := hid (fun W (hT : Tx W AC (L.map Prod.fst)) => (show Calls Try.prog 30 #[.slice AC L.length cC, .string d] W fun e w' => e = .returned (.int .i64 (atV (L.map Prod.fst) d)) ∧ w' = W from by
                  have := at_val (L.map Prod.fst) AC cC d (by rw [List.length_map, hLl.out]; omega) W hT
                  rwa [List.length_map] at this))
                have hbd : RowKit.Below wr.heap.size wr wr.drew := (RowKit.Below.refl _ wr).drew
                have HTD := hid (HT.out.below hbd)
                by_cases hin : d ∈ L.map Prod.fst
                · have hneg : ¬ atV (L.map Prod.fst) d < 0 := fun h => atV_neg.1 h hin
                  have hge : (0 : Int) ≤ atV (L.map Prod.fst) d := by omega
                  have HE := hid (addR_twice (D := D) (Q := Q) HMAY.out HBAD.out (HFN2.out (i + 1) (by
                    rw [newN_succ HXY.out, ← HL.out]
                    obtain ⟨p, hp, hpd⟩ := List.mem_map.1 hin
                    rw [hasK_iff.2 ⟨p, hp, hpd⟩]; simp) hlt))
                  obtain ⟨f0, f1, f2, f3, f4, f5⟩ := HFZ.out _ H2.out
                  obtain ⟨l0, l1, l2, l3, l4, l5⟩ := HF.out _ H2.out
                  clear hin hbd HGET
                  go_wp2_with fail
                  go_region_with ((go_at_call 30; refine (HATL.out _ (by first | exact HT.out | exact HTD.out)).mono ?_; rintro e w' ⟨rfl, rfl⟩))
                  all_goals go_wp2_with fail
                  all_goals have hp6 := put6 H2.out (.int .i64 0) (.int .i64 0) (.int .i64 0) (.slice none 0 0) (.slice none 0 0) (.slice none 0 0)
                  all_goals obtain ⟨v', h1, h2⟩ := HZERO.out 6 (by decide) HE.out _ H2.out HBr.out _ rfl
                  all_goals exact ret_state Try.results8 rfl rfl rfl (hp6.below (RowKit.Below.refl _ _).drew hp6.lt) rfl ⟨v', h1, ⟨fun h => absurd (HE.out ▸ h) (by decide), h2.no, h2.below.drew⟩⟩
                · have hneg : atV (L.map Prod.fst) d < 0 := atV_neg.2 hin
                  have hge : ¬ (0 : Int) ≤ atV (L.map Prod.fst) d := by omega
                  have HNI := hid hin
                  have HBD := hid HBr.out.drew
                  have H1D := hid (H1.out.below hbd H1.out.lt)
                  have H2D := hid (H2.out.below hbd H2.out.lt)
                  have HQD := hid (HQ.out.below hbd HQ.out.lt)
                  have HPD := hid (HPs.out.below hbd)
                  clear hin hbd HGET
                  go_upto_region 14 with fail
                  go_cut [65] from 52 to 137 (fun v65 wx => v65 = .bool false ∧ Hid (Has wx b (stV s a0 a1 a2 c0 c1 c2) 28) ∧ Hid (Has wx (b + 1) stZ 28) ∧ Hid (Has wx q #[.int .i64 s.k, .int .i64 s.n, .int .i64 s.nx, .slice a0 s.sn.length c0, .slice AC L.length cC, .slice AP L.length cP] 28) ∧ Hid (Tx wx AC (L.map Prod.fst)) ∧ Hid (Ps wx AP (L.map Prod.snd)) ∧ Hid (RowKit.Below w.heap.size w wx))
                  case first =>
                    go_region_with ((go_at_call 30; refine (HATL.out _ (by first | exact HT.out | exact HTD.out)).mono ?_; rintro e w' ⟨rfl, rfl⟩))
                    all_goals (go_wp2_with fail; go_meet)
                    all_goals exact ⟨by simp; omega, H1D, H2D, HQD, HTD, HPD, HBD⟩
                  case rest =>
                    obtain ⟨rfl, G1, G2, GQ, GT, GP, GB⟩ := hcut
                    clear H1 H2 HQ HT HPs HBr x4 e0 HTD HBD H1D H2D HQD HPD hneg hge HATL
                    generalize wc = wo at *
                    generalize hLz : L.length = z at *
                    have HLZ := hid hLz
                    clear hLz
                    have hz9 : z ≤ 10400 := by have := hLl.out; have := HLZ.out; omega
                    have HINS := hid (fun k (h : L.length ≤ k) => insK_all (d, y) L h)
                    go_wp2_with fail
                    go_loopw [11, 12, 13, 14] (fun v11 v12 v13 v14 wr => ∃ (k t : Nat) (A1 A2 : Option Addr) (e1 e2 : Nat), k ≤ z ∧ v14 = .int .i64 (k : Int) ∧ v13 = .bool (insD (d, y) L k) ∧ v11 = .slice A1 t e1 ∧ v12 = .slice A2 t e2 ∧ t ≤ 2 * k ∧ Hid (t = (insK (d, y) L k).length) ∧ Hid (wr.ownsRow wo.heap.size 9 1 (.slice A1 t e1) t (((insK (d, y) L k).map Prod.fst).map Value.string)) ∧ Hid (wr.ownsRow wo.heap.size 37 3 (.slice A2 t e2) t (((insK (d, y) L k).map Prod.snd).flatMap pl3)) ∧ Hid (RowKit.Below wo.heap.size wo wr)) (fun _ _ _ v14 _ => z - (intOf v14).toNat)
                    case atStart => exact ⟨0, 0, none, none, 0, 0, Nat.zero_le _, rfl, by rw [(insK_zero (d, y) L).2], rfl, rfl, by omega, by rw [(insK_zero (d, y) L).1]; exact hid rfl, by rw [(insK_zero (d, y) L).1]; exact hid (World.ownsRow_nil _ _ _ _), by rw [(insK_zero (d, y) L).1]; exact hid (World.ownsRow_nil _ _ _ _), hid (RowKit.Below.refl _ _)⟩
                    case round =>
                      obtain ⟨k, t, A1, A2, e1, e2, hk, rfl, rfl, rfl, rfl, htk, HTL, HO1, HO2, HZ⟩ := hrel
                      have HK2 := hid (fun W (hW : RowKit.Below wo.heap.size wo W) => (show W.cell? ⟨q, 4, none⟩ = some (.slice AC z cC) ∧ W.cell? ⟨q, 5, none⟩ = some (.slice AP z cP) ∧ W.cell? ⟨g, o + i, none⟩ = some (.string d) ∧ W.cell? ⟨g', o' + i * 3, none⟩ = some (.string y.pack) ∧ W.cell? ⟨g', o' + i * 3 + 1, none⟩ = some (.int .i64 y.at_) ∧ W.cell? ⟨g', o' + i * 3 + 2, none⟩ = some (.int .i64 y.len) from by
                        have m := GQ.out.below hW GQ.out.lt
                        have hbw := GB.out.trans (hW.mono GB.out.size)
                        obtain ⟨r1, r2, r3⟩ := HQC.out W hbw
                        exact ⟨by rw [m.cell]; rfl, by rw [m.cell]; rfl, HDC.out W hbw, r1, r2, r3⟩))
                      obtain ⟨x4, x5, x6, x7, x8, x9⟩ := HK2.out wr HZ.out
                      by_cases hkz : k < z
                      · have hkl : k < L.length := by rw [HLZ.out]; exact hkz
                        obtain ⟨e, he⟩ : ∃ e, L[k]? = some e := ⟨_, List.getElem?_eq_getElem hkl⟩
                        have g1 : (L.map Prod.fst).getD k ⟨#[]⟩ = e.1 := by rw [List.getD_eq_getElem?_getD, List.getElem?_map, he]; rfl
                        have g2 : (L.map Prod.snd).getD k default = e.2 := by rw [List.getD_eq_getElem?_getD, List.getElem?_map, he]; rfl
                        obtain ⟨gc, oc, rfl, hgc, t1⟩ := tx_cell GT.out HZ.out (j := k) (by rw [List.length_map]; exact hkl)
                        obtain ⟨gp, op, rfl, hgp, t2, t3, t4⟩ := ps_cell GP.out HZ.out (j := k) (by rw [List.length_map]; exact hkl)
                        rw [g1] at t1
                        rw [g2] at t2 t3 t4
                        have HKE := hid (fun W (hW : RowKit.Below wo.heap.size wo W) => (show W.cell? ⟨gc, oc + k, none⟩ = some (.string e.1) ∧ W.cell? ⟨gp, op + k * 3, none⟩ = some (.string e.2.pack) ∧ W.cell? ⟨gp, op + k * 3 + 1, none⟩ = some (.int .i64 e.2.at_) ∧ W.cell? ⟨gp, op + k * 3 + 2, none⟩ = some (.int .i64 e.2.len) from by
                          obtain ⟨g8, o8, e8, _, h1⟩ := tx_cell GT.out hW (j := k) (by rw [List.length_map]; exact hkl)
                          cases e8
                          obtain ⟨g9, o9, e9, _, h2, h3, h4⟩ := ps_cell GP.out hW (j := k) (by rw [List.length_map]; exact hkl)
                          cases e9
                          rw [g1] at h1
                          rw [g2] at h2 h3 h4
                          exact ⟨h1, h2, h3, h4⟩))
                        have HE := hid he
                        have y1 : (k : Int) < (z : Int) := by omega
                        have y0 : (0 : Int) ≤ (k : Int) := by omega
                        have yk : IntKind.i64.wrap ((k : Int) + 1) = ((k + 1 : Nat) : Int) := by rw [IntKind.wrap_i64]; omega
                        have hgt := gtr_eq e.1 d
                        have htz : t ≤ 20800 := by omega
                        obtain ⟨dn, hdn⟩ : ∃ dn, dn = insD (d, y) L k := ⟨_, rfl⟩
                        obtain ⟨lb, hlb⟩ : ∃ lb, lb = lt d e.1 := ⟨_, rfl⟩
                        rw [← hdn]
                        rw [← hlb] at hgt
                        have HDN := hid hdn
                        have HLB := hid hlb
                        clear g1 g2 he hdn hlb
                        go_upto_region 22 with fail
                        go_cut [87] from 67 to 117 (fun v87 wx => v87 = .bool (!dn && lb) ∧ Hid (wx.ownsRow wo.heap.size 9 1 (.slice A1 t e1) t (((insK (d, y) L k).map Prod.fst).map Value.string)) ∧ Hid (wx.ownsRow wo.heap.size 37 3 (.slice A2 t e2) t (((insK (d, y) L k).map Prod.snd).flatMap pl3)) ∧ Hid (RowKit.Below wo.heap.size wo wx))
                        case first =>
                          cases dn with
                          | true =>
                            clear hgt
                            go_wp2_with fail
                            go_quiet (fail)
                            go_wp2_with fail
                            go_meet
                            exact ⟨by simp, hid (own_below HO1.out (below_draws' (RowKit.Below.refl _ _) _) (Nat.le_refl _)), hid (own_below HO2.out (below_draws' (RowKit.Below.refl _ _) _) (Nat.le_refl _)), hid (below_draws' HZ.out _)⟩
                          | false =>
                            go_wp2_with fail
                            go_quiet (fail)
                            go_wp2_with fail
                            go_meet
                            exact ⟨by simp, hid (own_below HO1.out (below_draws' (RowKit.Below.refl _ _) _) (Nat.le_refl _)), hid (own_below HO2.out (below_draws' (RowKit.Below.refl _ _) _) (Nat.le_refl _)), hid (below_draws' HZ.out _)⟩
                        case rest =>
                          obtain ⟨rfl, HO1', HO2', HZ'⟩ := hcut
                          clear HO1 HO2 HZ hgt x4 x5 x6 x7 x8 x9 t1 t2 t3 t4
                          have hwcs := HZ'.out.size
                          obtain ⟨x4, x5, x6, x7, x8, x9⟩ := HK2.out wc HZ'.out
                          obtain ⟨t1, t2, t3, t4⟩ := HKE.out wc HZ'.out
                          clear hwcs
                          cases hcb : (!dn && lb) with
                          | true =>
                            have hdl : dn = false ∧ lb = true := by cases dn <;> cases lb <;> simp_all
                            have HI := hid (insK_here HE.out (by rw [← HDN.out]; exact hdl.1) (by rw [← HLB.out]; exact hdl.2))
                            clear hcb hdl
                            obtain ⟨A9, c9, w9, hr9, ho9, hb9, hk9⟩ := grow_tx HO1'.out d (by omega) HZ'.out.size
                            have HZ9 := hid (HZ'.out.trans hb9)
                            have HP9 := hid (hk9 _ _ _ HO2'.out)
                            have HG9 := hid ho9
                            clear ho9 hk9 hb9
                            go_upto_region 24 with (at_builtin; go_loud (refine wpList_val rfl (rn_app25 rfl rfl rfl rfl hr9) ?_))
                            clear hr9 x4 x5 x6 x7 x8 x9 t1 t2 t3 t4
                            obtain ⟨x4, x5, x6, x7, x8, x9⟩ := HK2.out w9 HZ9.out
                            obtain ⟨t1, t2, t3, t4⟩ := HKE.out w9 HZ9.out
                            have HO1x := HG9
                            have HO2x := HP9
                            have HZx := HZ9
                            clear HO1' HO2' HZ' HG9 HP9 HZ9
                            have HO1' := HO1x
                            have HO2' := HO2x
                            have HZ' := HZx
                            clear HO1x HO2x HZx
                            obtain ⟨A9, c9, w9, hr9, ho9, hb9, hk9⟩ := grow_ps HO2'.out y (by omega) HZ'.out.size
                            have HZ9 := hid (HZ'.out.trans hb9)
                            have HP9 := hid (hk9 _ _ _ HO1'.out)
                            have HG9 := hid ho9
                            clear ho9 hk9 hb9
                            go_upto_region 26 with (at_builtin; go_loud (refine wpList_val rfl (rn_app26 rfl rfl rfl rfl hr9) ?_))
                            clear hr9 x4 x5 x6 x7 x8 x9 t1 t2 t3 t4
                            obtain ⟨x4, x5, x6, x7, x8, x9⟩ := HK2.out w9 HZ9.out
                            obtain ⟨t1, t2, t3, t4⟩ := HKE.out w9 HZ9.out
                            have HO1x := HP9
                            have HO2x := HG9
                            have HZx := HZ9
                            clear HO1' HO2' HZ' HG9 HP9 HZ9
                            have HO1' := HO1x
                            have HO2' := HO2x
                            have HZ' := HZx
                            clear HO1x HO2x HZx
                            obtain ⟨A9, c9, w9, hr9, ho9, hb9, hk9⟩ := grow_tx HO1'.out e.1 (by omega) HZ'.out.size
                            have HZ9 := hid (HZ'.out.trans hb9)
                            have HP9 := hid (hk9 _ _ _ HO2'.out)
                            have HG9 := hid ho9
                            clear ho9 hk9 hb9
                            go_upto_region 27 with (at_builtin; go_loud (refine wpList_val rfl (rn_app25 rfl rfl rfl rfl hr9) ?_))
                            clear hr9 x4 x5 x6 x7 x8 x9 t1 t2 t3 t4
                            obtain ⟨x4, x5, x6, x7, x8, x9⟩ := HK2.out w9 HZ9.out
                            obtain ⟨t1, t2, t3, t4⟩ := HKE.out w9 HZ9.out
                            have HO1x := HG9
                            have HO2x := HP9
                            have HZx := HZ9
                            clear HO1' HO2' HZ' HG9 HP9 HZ9
                            have HO1' := HO1x
                            have HO2' := HO2x
                            have HZ' := HZx
                            clear HO1x HO2x HZx
                            obtain ⟨A9, c9, w9, hr9, ho9, hb9, hk9⟩ := grow_ps HO2'.out e.2 (by omega) HZ'.out.size
                            have HZ9 := hid (HZ'.out.trans hb9)
                            have HP9 := hid (hk9 _ _ _ HO1'.out)
                            have HG9 := hid ho9
                            clear ho9 hk9 hb9
                            go_wp2_with (at_builtin; go_loud (refine wpList_val rfl (rn_app26 rfl rfl rfl rfl hr9) ?_))
                            clear hr9 x4 x5 x6 x7 x8 x9 t1 t2 t3 t4
                            obtain ⟨x4, x5, x6, x7, x8, x9⟩ := HK2.out w9 HZ9.out
                            obtain ⟨t1, t2, t3, t4⟩ := HKE.out w9 HZ9.out
                            have HO1x := HP9
                            have HO2x := HG9
                            have HZx := HZ9
                            clear HO1' HO2' HZ' HG9 HP9 HZ9
                            have HO1' := HO1x
                            have HO2' := HO2x
                            have HZ' := HZx
                            clear HO1x HO2x HZx
                            go_roundw
                            case rel => exact ⟨k + 1, t + 2, _, _, _, _, hkz, by rfl, by rw [HI.out.2], rfl, rfl, by omega, hid (by rw [HI.out.1]; have := HTL.out; simp; omega), by rw [HI.out.1]; simpa using HO1', by rw [HI.out.1]; simpa using HO2', HZ'⟩
                            case measure => first | (simp [intOf]; done) | (simp [intOf]; omega)
                          | false =>
                            have hdl : dn = true ∨ lb = false := by cases dn <;> cases lb <;> simp_all
                            have HI := hid (insK_not HE.out (by rw [← HDN.out, ← HLB.out]; exact hdl))
                            have HD2 := hid HDN.out
                            clear hcb hdl
                            obtain ⟨A9, c9, w9, hr9, ho9, hb9, hk9⟩ := grow_tx HO1'.out e.1 (by omega) HZ'.out.size
                            have HZ9 := hid (HZ'.out.trans hb9)
                            have HP9 := hid (hk9 _ _ _ HO2'.out)
                            have HG9 := hid ho9
                            clear ho9 hk9 hb9
                            go_upto_region 27 with (at_builtin; go_loud (refine wpList_val rfl (rn_app25 rfl rfl rfl rfl hr9) ?_))
                            clear hr9 x4 x5 x6 x7 x8 x9 t1 t2 t3 t4
                            obtain ⟨x4, x5, x6, x7, x8, x9⟩ := HK2.out w9 HZ9.out
                            obtain ⟨t1, t2, t3, t4⟩ := HKE.out w9 HZ9.out
                            have HO1x := HG9
                            have HO2x := HP9
                            have HZx := HZ9
                            clear HO1' HO2' HZ' HG9 HP9 HZ9
                            have HO1' := HO1x
                            have HO2' := HO2x
                            have HZ' := HZx
                            clear HO1x HO2x HZx
                            obtain ⟨A9, c9, w9, hr9, ho9, hb9, hk9⟩ := grow_ps HO2'.out e.2 (by omega) HZ'.out.size
                            have HZ9 := hid (HZ'.out.trans hb9)
                            have HP9 := hid (hk9 _ _ _ HO1'.out)
                            have HG9 := hid ho9
                            clear ho9 hk9 hb9
                            go_wp2_with (at_builtin; go_loud (refine wpList_val rfl (rn_app26 rfl rfl rfl rfl hr9) ?_))
                            clear hr9 x4 x5 x6 x7 x8 x9 t1 t2 t3 t4
                            obtain ⟨x4, x5, x6, x7, x8, x9⟩ := HK2.out w9 HZ9.out
                            obtain ⟨t1, t2, t3, t4⟩ := HKE.out w9 HZ9.out
                            have HO1x := HP9
                            have HO2x := HG9
                            have HZx := HZ9
                            clear HO1' HO2' HZ' HG9 HP9 HZ9
                            have HO1' := HO1x
                            have HO2' := HO2x
                            have HZ' := HZx
                            clear HO1x HO2x HZx
                            go_roundw
                            case rel => exact ⟨k + 1, t + 1, _, _, _, _, hkz, by rfl, by rw [HI.out.2, ← HD2.out], rfl, rfl, by omega, hid (by rw [HI.out.1]; have := HTL.out; simp; omega), by rw [HI.out.1]; simpa using HO1', by rw [HI.out.1]; simpa using HO2', HZ'⟩
                            case measure => first | (simp [intOf]; done) | (simp [intOf]; omega)
                      · obtain rfl : z = k := by omega
                        have y2 : ¬ ((z : Int) < (z : Int)) := by omega
                        have HI := hid (HINS.out z (by rw [HLZ.out]; exact Nat.le_refl _))
                        have htz : t ≤ 20800 := by omega
                        have HNX : Hid (newN M N (i + 1) = true) := hid (by
                          rw [newN_succ HXY.out, HNW.out, ← HL.out, Bool.true_and, Bool.not_eq_true']
                          rw [hasK_no]
                          exact fun p hp e => HNI.out (by have e2 : p.1 = d := e; rw [← e2]; exact List.mem_map_of_mem hp))
                        have HLX : Hid (ins (d, y) L = adds M (N.take (i + 1))) := hid (by rw [adds_take HXY.out, ← HL.out])
                        have HEND := hid (fun (W : World) (B1 B2 : Option Addr) (r f1 f2 : Nat) (L' : List En) (hr : r = L'.length) (hW : RowKit.Below wo.heap.size wo W) (h1 : W.ownsRow wo.heap.size 9 1 (.slice B1 r f1) r ((L'.map Prod.fst).map Value.string)) (h2 : W.ownsRow wo.heap.size 37 3 (.slice B2 r f2) r ((L'.map Prod.snd).flatMap pl3)) => (show Hid (Has ((W.setCell ⟨q, 4, none⟩ (.slice B1 r f1)).setCell ⟨q, 5, none⟩ (.slice B2 r f2)) b (stV s a0 a1 a2 c0 c1 c2) 28) ∧ Hid (Has ((W.setCell ⟨q, 4, none⟩ (.slice B1 r f1)).setCell ⟨q, 5, none⟩ (.slice B2 r f2)) (b + 1) stZ 28) ∧ Hid (Has ((W.setCell ⟨q, 4, none⟩ (.slice B1 r f1)).setCell ⟨q, 5, none⟩ (.slice B2 r f2)) q #[.int .i64 s.k, .int .i64 s.n, .int .i64 s.nx, .slice a0 s.sn.length c0, .slice B1 r f1, .slice B2 r f2] 28) ∧ Hid (Tx ((W.setCell ⟨q, 4, none⟩ (.slice B1 r f1)).setCell ⟨q, 5, none⟩ (.slice B2 r f2)) B1 (L'.map Prod.fst)) ∧ Hid (Ps ((W.setCell ⟨q, 4, none⟩ (.slice B1 r f1)).setCell ⟨q, 5, none⟩ (.slice B2 r f2)) B2 (L'.map Prod.snd)) ∧ Hid (RowKit.Below w.heap.size w ((W.setCell ⟨q, 4, none⟩ (.slice B1 r f1)).setCell ⟨q, 5, none⟩ (.slice B2 r f2))) from by
                          have mq := GQ.out.below hW GQ.out.lt
                          have mb := G1.out.below hW G1.out.lt
                          have mz := G2.out.below hW G2.out.lt
                          have mq1 := mq.set 4 (.slice B1 r f1)
                          subst hr
                          refine ⟨hid ((mb.other ⟨q, 4, none⟩ _ HQB.out.1).other ⟨q, 5, none⟩ _ HQB.out.1), hid ((mz.other ⟨q, 4, none⟩ _ HQB.out.2).other ⟨q, 5, none⟩ _ HQB.out.2), hid (mq1.set 5 _), ?_, ?_, hid (below_set (below_set (GB.out.trans (hW.mono GB.out.size)) HQW.out _) HQW.out _)⟩
                          · obtain ⟨A, cap, e, -, h⟩ := own_tx (own_set (o := 5) (u := .slice B2 L'.length f2) (own_set (o := 4) (u := .slice B1 L'.length f1) h1 mq (by decide)) mq1 (by decide))
                            rw [List.length_map] at e
                            cases e; exact hid h
                          · obtain ⟨A, cap, e, -, h⟩ := own_ps (own_set (o := 5) (u := .slice B2 L'.length f2) (own_set (o := 4) (u := .slice B1 L'.length f1) h2 mq (by decide)) mq1 (by decide))
                            rw [List.length_map] at e
                            cases e; exact hid h))
                        have HIL : Hid ((ins (d, y) L).length = s.C.length + (i + 1)) := hid (by rw [length_ins]; have := hLl.out; have := HLZ.out; omega)
                        have mq := GQ.out.below HZ.out GQ.out.lt
                        have f4 := mq.frozen 4
                        have f5 := mq.frozen 5
                        cases hd : insD (d, y) L z with
                        | true =>
                          have hL' : insK (d, y) L z = ins (d, y) L := by have := HI.out; rw [hd] at this; simpa using this
                          rw [hL'] at HTL HO1 HO2
                          have HR := hid (HEND.out wr A1 A2 t e1 e2 _ HTL.out HZ.out HO1.out HO2.out)
                          have HTI := hid HTL.out
                          clear hL' hd mq HEND HI HO1 HO2 HTL x6 x7 x8 x9
                          go_wp2_with fail
                          go_roundw
                          case rel =>
                            obtain ⟨r1, r2, r3, r4, r5, r6⟩ := HR.out
                            exact ⟨i + 1, ins (d, y) L, A1, A2, e1, e2, hlt, by rfl, HLX, HIL, HNX, r1, r2, by rw [← HTI.out]; exact r3, r4, r5, r6⟩
                          case measure => first | (simp [intOf]; done) | (simp [intOf]; omega)
                        | false =>
                          have hL' : insK (d, y) L z ++ [(d, y)] = ins (d, y) L := by have := HI.out; rw [hd] at this; simpa using this
                          have HO1' := HO1
                          have HO2' := HO2
                          have HZ' := HZ
                          have HLL := hid hL'
                          clear hL' hd mq f4 f5 HO1 HO2 HZ HI
                          obtain ⟨A9, c9, w9, hr9, ho9, hb9, hk9⟩ := grow_tx HO1'.out d (by omega) HZ'.out.size
                          have HZ9 := hid (HZ'.out.trans hb9)
                          have HP9 := hid (hk9 _ _ _ HO2'.out)
                          have HG9 := hid ho9
                          clear ho9 hk9 hb9
                          go_upto_region 30 with (at_builtin; go_loud (refine wpList_val rfl (rn_app25 rfl rfl rfl rfl hr9) ?_))
                          clear hr9 x4 x5 x6 x7 x8 x9
                          obtain ⟨x4, x5, x6, x7, x8, x9⟩ := HK2.out w9 HZ9.out
                          have HO1x := HG9
                          have HO2x := HP9
                          have HZx := HZ9
                          clear HO1' HO2' HZ' HG9 HP9 HZ9
                          have HO1' := HO1x
                          have HO2' := HO2x
                          have HZ' := HZx
                          clear HO1x HO2x HZx
                          obtain ⟨A9, c9, w9, hr9, ho9, hb9, hk9⟩ := grow_ps HO2'.out y (by omega) HZ'.out.size
                          have HZ9 := hid (HZ'.out.trans hb9)
                          have HP9 := hid (hk9 _ _ _ HO1'.out)
                          have HG9 := hid ho9
                          clear ho9 hk9 hb9
                          go_upto_region 31 with (at_builtin; go_loud (refine wpList_val rfl (rn_app26 rfl rfl rfl rfl hr9) ?_))
                          clear hr9 x4 x5 x6 x7 x8 x9
                          obtain ⟨x4, x5, x6, x7, x8, x9⟩ := HK2.out w9 HZ9.out
                          have HO1x := HP9
                          have HO2x := HG9
                          have HZx := HZ9
                          clear HO1' HO2' HZ' HG9 HP9 HZ9
                          have HO1' := HO1x
                          have HO2' := HO2x
                          have HZ' := HZx
                          clear HO1x HO2x HZx
                          have HTI : Hid (t + 1 = (ins (d, y) L).length) := hid (by rw [← HLL.out, List.length_append, ← HTL.out]; rfl)
                          have o1 := HO1'.out
                          have o2 := HO2'.out
                          rw [show ((insK (d, y) L z).map Prod.fst) ++ [d] = (ins (d, y) L).map Prod.fst by rw [← HLL.out]; simp] at o1
                          rw [show ((insK (d, y) L z).map Prod.snd) ++ [y] = (ins (d, y) L).map Prod.snd by rw [← HLL.out]; simp] at o2
                          have HR := hid (HEND.out _ _ _ (t + 1) _ _ _ HTI.out HZ'.out o1 o2)
                          have mq := GQ.out.below HZ'.out GQ.out.lt
                          have f4 := mq.frozen 4
                          have f5 := mq.frozen 5
                          clear mq o1 o2 HEND HO1' HO2' HTL HLL x6 x7 x8 x9
                          go_wp2_with fail
                          go_roundw
                          case rel =>
                            obtain ⟨r1, r2, r3, r4, r5, r6⟩ := HR.out
                            exact ⟨i + 1, ins (d, y) L, _, _, _, _, hlt, by rfl, HLX, HIL, HNX, r1, r2, by rw [← HTI.out]; exact r3, r4, r5, r6⟩
                          case measure => first | (simp [intOf]; done) | (simp [intOf]; omega)
              · obtain rfl : n = i := by omega
                have j9 : ¬ ((n : Int) < (n : Int)) := by omega
                have hta : N.take n = N := by rw [← HZN.out, List.take_length]
                rw [hta] at HL
                have hFT : frN s.C D D.length = true := HFN.out.2 (by rw [HZN.out]; exact HNW.out)
                have HLA : Hid (L = addL s.C s.P D Q) := hid (by unfold addL; rw [HMM.out, HNN.out]; exact HL.out)
                have y0 : wr.cell? ⟨q, 0, none⟩ = some (.int .i64 s.k) := by rw [HQ.out.cell]; rfl
                have y1 : wr.cell? ⟨q, 1, none⟩ = some (.int .i64 s.n) := by rw [HQ.out.cell]; rfl
                have y2 : wr.cell? ⟨q, 2, none⟩ = some (.int .i64 s.nx) := by rw [HQ.out.cell]; rfl
                have y3 : wr.cell? ⟨q, 3, none⟩ = some (.slice a0 s.sn.length c0) := by rw [HQ.out.cell]; rfl
                have y4 : wr.cell? ⟨q, 4, none⟩ = some (.slice AC L.length cC) := by rw [HQ.out.cell]; rfl
                have y5 : wr.cell? ⟨q, 5, none⟩ = some (.slice AP L.length cP) := by rw [HQ.out.cell]; rfl
                by_cases hbig : 400 < s.C.length + D.length
                · have HE := hid (addR_large (D := D) (Q := Q) HMAY.out HBAD.out hFT hbig)
                  have i3 : (400 : Int) < (L.length : Int) := by have := hLl.out; have := HN.out; omega
                  obtain ⟨f0, f1, f2, f3, f4, f5⟩ := HFZ.out _ H2.out
                  obtain ⟨l0, l1, l2, l3, l4, l5⟩ := HF.out _ H2.out
                  clear hbig hFT hta HGET
                  generalize L.length = z at *
                  go_wp2_with fail
                  have hp6 := put6 H2.out (.int .i64 0) (.int .i64 0) (.int .i64 0) (.slice none 0 0) (.slice none 0 0) (.slice none 0 0)
                  exact ret_state Try.results8 rfl rfl rfl hp6 rfl (HZERO.out 40 (by decide) HE.out _ H2.out HBr.out _ rfl)
                · have hE := addR_fits (D := D) (Q := Q) HMAY.out HBAD.out hFT hbig
                  have hA : adE s.C s.P D Q = 0 := by unfold adE; rw [HMAY.out, HBAD.out, hFT]; simp; omega
                  have i3 : ¬ (400 : Int) < (L.length : Int) := by have := hLl.out; have := HN.out; omega
                  have hmp : ∀ p ∈ L.map Prod.snd, mayP p := fun p hp => by
                    obtain ⟨e, he, rfl⟩ := List.mem_map.1 hp
                    rw [HLA.out] at he
                    exact ((adE_ok hA).mem e he).2
                  have HCO := hid (fun W (hW : Ps W AP (L.map Prod.snd)) => (show Calls Try.prog 31 #[.slice AP L.length cP] W fun e w' => e = .returned (.bool (comN (L.map Prod.snd) L.length)) ∧ RowKit.Below W.heap.size W w' from by
                    have := common_any (L.map Prod.snd) AP cP (by rw [List.length_map]; have := hLl.out; omega) hmp W hW
                    rwa [List.length_map] at this))
                  rw [← HLA.out] at hE
                  have C9 := HCO.out wr HPs.out
                  have HE := hid hE
                  have HSV : Hid (addS s D Q = { s with C := L.map Prod.fst, P := L.map Prod.snd }) := hid (by unfold addS; rw [← HLA.out])
                  have HL1 : Hid ((L.map Prod.fst).length = L.length ∧ (L.map Prod.snd).length = L.length) := hid (by simp)
                  clear hbig hFT hta HGET hE hA hmp HCO HLA
                  generalize comN (L.map Prod.snd) L.length = cb at *
                  generalize L.length = z at *
                  go_wp2_with fail
                  refine C9.mono ?_
                  rintro e w3 ⟨rfl, b3⟩
                  have HB3 := hid (HBr.out.trans (b3.mono HBr.out.size))
                  have H23 := hid (H2.out.below b3 H2.out.lt)
                  have hq3 := HQ.out.below b3 HQ.out.lt
                  have HT3 := hid (HT.out.below b3)
                  have HP3 := hid (HPs.out.below b3)
                  obtain ⟨f0, f1, f2, f3, f4, f5⟩ := HFZ.out _ H23.out
                  obtain ⟨l0, l1, l2, l3, l4, l5⟩ := HF.out _ H23.out
                  clear C9 b3 y0 y1 y2 y3 y4 y5
                  cases cb with
                  | true =>
                    clear hq3
                    go_wp2_with fail
                    have hp6 := put6 H23.out (.int .i64 0) (.int .i64 0) (.int .i64 0) (.slice none 0 0) (.slice none 0 0) (.slice none 0 0)
                    exact ret_state Try.results8 rfl rfl rfl hp6 rfl (HZERO.out 1 (by decide) (by rw [HE.out]; rfl) _ H23.out HB3.out _ rfl)
                  | false =>
                    have y0 : w3.cell? ⟨q, 0, none⟩ = some (.int .i64 s.k) := by rw [hq3.cell]; rfl
                    have y1 : w3.cell? ⟨q, 1, none⟩ = some (.int .i64 s.n) := by rw [hq3.cell]; rfl
                    have y2 : w3.cell? ⟨q, 2, none⟩ = some (.int .i64 s.nx) := by rw [hq3.cell]; rfl
                    have y3 : w3.cell? ⟨q, 3, none⟩ = some (.slice a0 s.sn.length c0) := by rw [hq3.cell]; rfl
                    have y4 : w3.cell? ⟨q, 4, none⟩ = some (.slice AC z cC) := by rw [hq3.cell]; rfl
                    have y5 : w3.cell? ⟨q, 5, none⟩ = some (.slice AP z cP) := by rw [hq3.cell]; rfl
                    clear hq3
                    go_wp2_with fail
                    have hp6 := put6 H23.out (.int .i64 s.k) (.int .i64 s.n) (.int .i64 s.nx) (.slice a0 s.sn.length c0) (.slice AC z cC) (.slice AP z cP)
                    have hbn := below_put6 HB3.out (by have := HBW.out; omega : w.heap.size ≤ b + 1) (.int .i64 s.k) (.int .i64 s.n) (.int .i64 s.nx) (.slice a0 s.sn.length c0) (.slice AC z cC) (.slice AP z cP)
                    have hon := onl_put6 (b + 1) w3 (.int .i64 s.k) (.int .i64 s.n) (.int .i64 s.nx) (.slice a0 s.sn.length c0) (.slice AC z cC) (.slice AP z cP)
                    exact ret_state Try.results8 rfl rfl rfl hp6 rfl ⟨_, by rw [HE.out]; rfl, fun _ => ⟨a0, AC, AP, c0, cC, cP, by rw [HSV.out]; simp only [stV, HL1.out.1, HL1.out.2], by rw [HSV.out]; exact HS.out _ hbn, by rw [HSV.out]; exact tx_past HT3.out H23.out hon, by rw [HSV.out]; exact ps_past HP3.out H23.out hon⟩, fun h => absurd (by rw [HE.out]; rfl) h, hbn⟩
    · have q1 : ((n : Int) != (m : Int)) = true := by simp; omega
      obtain ⟨f0, f1, f2, f3, f4, f5⟩ := HFZ.out _ N2.out
      obtain ⟨l0, l1, l2, l3, l4, l5⟩ := HF.out _ N2.out
      have HE := hid (addR_bad (D := D) (Q := Q) HMAY.out (badA_yes (by have h1 := HN.out; have h2 := HM.out; omega)))
      clear hlen
      go_wp2_with fail
      have hp6 := put6 N2.out (.int .i64 0) (.int .i64 0) (.int .i64 0) (.slice none 0 0) (.slice none 0 0) (.slice none 0 0)
      exact ret_state Try.results8 rfl rfl rfl hp6 rfl (HZERO.out 1 (by decide) HE.out _ N2.out HB2.out _ rfl)
end Go.Proofs.Ytknddbmnciodaaa
