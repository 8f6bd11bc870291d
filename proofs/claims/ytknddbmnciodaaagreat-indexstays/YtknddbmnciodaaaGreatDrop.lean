/- The contract of the program's Drop. -/
import Derived.Test.YtknddbmnciodaaaGreatAdd
namespace Go.Proofs.YtknddbmnciodaaaGreat
open Go.RowKit Go.Lib Go.Sort
open Ix
set_option linter.unusedVariables false
/-- why chunks may not be dropped -/
def droE (C : List ByteArray) (P : List Pl) (D : List ByteArray) : Int := if mayS C P = true then (if (D.all fun d => inC C d) = true then 0 else 5) else 4
/-- what is left -/
def droL (C : List ByteArray) (P : List Pl) (D : List ByteArray) : List En := drops D (C.zip P)
def droS (s : St) (D : List ByteArray) : St := { s with C := (droL s.C s.P D).map Prod.fst, P := (droL s.C s.P D).map Prod.snd }
theorem droL_filter (C : List ByteArray) (P : List Pl) (D : List ByteArray) : ((C.zip P).filter fun y => !inC D y.1) = droL C P D := by
  unfold droL drops
  congr 1
  funext p
  rw [Bool.eq_iff_iff, Bool.not_eq_true', inC_false, List.all_eq_true]
  simp only [decide_eq_true_eq]
  constructor
  · intro h d hd e
    exact h (e ▸ hd)
  · intro h hd
    exact h _ hd rfl
/-- a block that is no map stands, whatever is put into a map -/
theorem has_grown {w w' : World} {b m : Nat} {cs : Array Value} {t : TypeId} (h : Has w b cs t) (hg : w.grownBy w' (some m)) (hne : b ≠ m) : Has w' b cs t := by
  have hl := h.lt
  unfold Has at *
  rw [hg.block b hl (by simpa using hne)]
  exact h
set_option maxRecDepth 20000 in
set_option maxHeartbeats 16000000 in
theorem drop_any (s : St) (a0 a1 a2 b1 : Option Addr) (c0 c1 c2 d1 : Nat) (D : List ByteArray) (hn : s.C.length ≤ 100000) (hn2 : s.P.length ≤ 100000) (hn3 : s.sn.length ≤ 100000) (hm : D.length ≤ 100000)
    (hr : ∀ x ∈ s.sn, x.root.size ≤ 281474976710656) (w : World) (hS : Sn w a0 s.sn) (hC : Tx w a1 s.C) (hP : Ps w a2 s.P) (hD : Tx w b1 D) :
    Calls Tryz.prog 12 #[.agg (stV s a0 a1 a2 c0 c1 c2), .slice b1 D.length d1] w fun e w' => ∃ v, e = .returned (.tuple #[.agg v, .int .i64 (droE s.C s.P D)]) ∧ Gives w v (droS s D) (droE s.C s.P D) w' := by
  have hmm := @run_makeMap Tryz.prog
  obtain ⟨b, hb⟩ : ∃ b, b = w.heap.size := ⟨_, rfl⟩
  obtain ⟨w1, hw1⟩ : ∃ w1, w1 = (w.alloc (.cells (stV s a0 a1 a2 c0 c1 c2) 35)).alloc (.cells stZ 35) := ⟨_, rfl⟩
  have hB : RowKit.Below w.heap.size w w1 := by rw [hw1]; exact ((RowKit.Below.refl _ w).alloc (Nat.le_refl _) _).alloc (by simp) _
  have n1 : Has w1 b (stV s a0 a1 a2 c0 c1 c2) 35 := by rw [hw1]; exact (Has.new w _ _ _ hb).alloc _
  have n2 : Has w1 (b + 1) stZ 35 := by rw [hw1]; exact Has.new _ _ _ _ (by simp [hb])
  have C0 := may_any s a0 a1 a2 c0 c1 c2 hn hn2 w1 (hC.below hB) (hP.below hB)
  have HS := hid (fun W (hW : RowKit.Below w.heap.size w W) => hS.below hW)
  have HC := hid (fun W (hW : RowKit.Below w.heap.size w W) => hC.below hW)
  have HP := hid (fun W (hW : RowKit.Below w.heap.size w W) => hP.below hW)
  have HD := hid hD
  have HB := hid hB
  have HBW := hid hb
  have HN2 := hid n2
  have HR := hid hr
  have HK := hid (fun W (hW : Has W b (stV s a0 a1 a2 c0 c1 c2) 35) => (show (W.cell? ⟨b, 0, none⟩ = some (.int .i64 s.k) ∧ W.cell? ⟨b, 1, none⟩ = some (.int .i64 s.n) ∧ W.cell? ⟨b, 2, none⟩ = some (.int .i64 s.nx) ∧ W.cell? ⟨b, 3, none⟩ = some (.slice a0 s.sn.length c0) ∧ W.cell? ⟨b, 4, none⟩ = some (.slice a1 s.C.length c1) ∧ W.cell? ⟨b, 5, none⟩ = some (.slice a2 s.P.length c2)) from
    ⟨by rw [hW.cell]; rfl, by rw [hW.cell]; rfl, by rw [hW.cell]; rfl, by rw [hW.cell]; rfl, by rw [hW.cell]; rfl, by rw [hW.cell]; rfl⟩))
  have HF := hid (fun W (hW : Has W (b + 1) stZ 35) => (show (W.cell? ⟨b + 1, 0, none⟩ = some (.int .i64 0) ∧ W.cell? ⟨b + 1, 1, none⟩ = some (.int .i64 0) ∧ W.cell? ⟨b + 1, 2, none⟩ = some (.int .i64 0) ∧ W.cell? ⟨b + 1, 3, none⟩ = some (.slice none 0 0) ∧ W.cell? ⟨b + 1, 4, none⟩ = some (.slice none 0 0) ∧ W.cell? ⟨b + 1, 5, none⟩ = some (.slice none 0 0)) from
    ⟨by rw [hW.cell]; rfl, by rw [hW.cell]; rfl, by rw [hW.cell]; rfl, by rw [hW.cell]; rfl, by rw [hW.cell]; rfl, by rw [hW.cell]; rfl⟩))
  obtain ⟨k0, k1, k2, k3, k4, k5⟩ := HK.out w1 n1
  have HN1 := hid n1
  clear hB n1 n2 hC hP hS hD hr
  change w1 = (w.alloc (.cells #[.int .i64 s.k, .int .i64 s.n, .int .i64 s.nx, .slice a0 s.sn.length c0, .slice a1 s.C.length c1, .slice a2 s.P.length c2] 35)).alloc (.cells #[.int .i64 0, .int .i64 0, .int .i64 0, .slice none 0 0, .slice none 0 0, .slice none 0 0] 35) at hw1
  show Calls Tryz.prog 12 #[.agg #[.int .i64 s.k, .int .i64 s.n, .int .i64 s.nx, .slice a0 s.sn.length c0, .slice a1 s.C.length c1, .slice a2 s.P.length c2], .slice b1 D.length d1] w _
  change Calls Tryz.prog 9 #[.agg #[.int .i64 s.k, .int .i64 s.n, .int .i64 s.nx, .slice a0 s.sn.length c0, .slice a1 s.C.length c1, .slice a2 s.P.length c2]] w1 _ at C0
  obtain ⟨n, hnn⟩ : ∃ n, n = D.length := ⟨_, rfl⟩
  have HN := hid hnn
  rw [← hnn] at hm ⊢
  clear hnn
  go_enter Tryz.func12, Tryz.ntmps12
  go_upto_region 1 with fail
  rw [← hw1, ← hb]
  clear hw1 hb
  go_wp2_with fail
  refine C0.mono ?_
  rintro e w2 ⟨rfl, b2⟩
  have HB2 := hid (HB.out.trans (b2.mono HB.out.size))
  have N1 := hid (HN1.out.below b2 HN1.out.lt)
  have N2 := hid (HN2.out.below b2 HN2.out.lt)
  have B2 := hid (b2.mono HB.out.size)
  clear C0 b2 k0 k1 k2 k3 k4 k5 HN1 HN2
  cases hmay : mayS s.C s.P with
  | false =>
    have HE : Hid (droE s.C s.P D = 4) := hid (by unfold droE; rw [hmay]; rfl)
    have f0 := N2.out.frozen 0
    have f1 := N2.out.frozen 1
    have f2 := N2.out.frozen 2
    have f3 := N2.out.frozen 3
    have f4 := N2.out.frozen 4
    have f5 := N2.out.frozen 5
    obtain ⟨l0, l1, l2, l3, l4, l5⟩ := HF.out _ N2.out
    clear hmay
    go_wp2_with fail
    have hp6 := put6 N2.out (.int .i64 0) (.int .i64 0) (.int .i64 0) (.slice none 0 0) (.slice none 0 0) (.slice none 0 0)
    exact ret_state Tryz.results12 rfl rfl rfl hp6 rfl ⟨_, by rw [HE.out]; rfl, fun h => (by rw [HE.out] at h; omega), fun _ => rfl, below_put6 HB2.out (by have := HBW.out; omega) _ _ _ _ _ _⟩
  | true =>
    have HM := hid (mayS_iff.1 hmay)
    have HE : Hid (droE s.C s.P D = if (D.all fun d => inC s.C d) = true then 0 else 5) := hid (by unfold droE; rw [hmay]; rfl)
    have HRI : Hid (RiseK s.C) := hid (by
      have h2 := List.pairwise_map (f := Prod.fst) (l := s.C.zip s.P) (R := fun a b => lt a b = true)
      rw [zip_fst HM.out.1] at h2
      exact h2.2 HM.out.2.rise)
    have HSZ : Hid (∀ d ∈ s.C, d.size = 32) := hid (fun d hd => by
      rw [← zip_fst HM.out.1] at hd
      obtain ⟨e, he, rfl⟩ := List.mem_map.1 hd
      exact HM.out.2.keys e he)
    obtain ⟨m, hmb⟩ : ∃ m, m = w2.heap.size := ⟨_, rfl⟩
    obtain ⟨w3, hw3⟩ : ∃ w3, w3 = (w2.alloc (.map #[] 0)).alloc (.cells #[.map (some m)] 74) := ⟨_, rfl⟩
    have hb3 : RowKit.Below w2.heap.size w2 w3 := by rw [hw3]; exact ((RowKit.Below.refl _ _).alloc (Nat.le_refl _) _).alloc (by simp) _
    have hS3 : SMap w3 m [] := by
      rw [hw3, hmb]
      exact (SMap.made w2).below ((RowKit.Below.refl (w2.heap.size + 1) _).alloc (by simp) _) (by omega)
    have hN3 : Has w3 (m + 1) #[.map (some m)] 74 := by rw [hw3]; exact Has.new _ _ _ _ (by simp [hmb])
    have HS3 := hid hS3
    have HN3 := hid hN3
    have HB3 := hid (HB2.out.trans (hb3.mono HB2.out.size))
    have M1 := hid (N1.out.below hb3 N1.out.lt)
    have M2 := hid (N2.out.below hb3 N2.out.lt)
    have HMB : Hid (b + 1 < m) := hid (by rw [hmb]; exact N2.out.lt)
    have HST := hid (fun (d : ByteArray) W (hb : RowKit.Below w.heap.size w W) => standing_any s.C a1 c1 d HRI.out hn W (HC.out W hb))
    clear hmay hS3 hN3 hb3 N1 N2 HB2 HB B2
    go_upto_region 4 with fail
    rw [← hmb, ← hw3]
    clear hmb hw3 hmm
    go_wp2_with fail
    go_loopw [19] (fun v19 wr => ∃ k : Nat, k ≤ n ∧ v19 = .int .i64 (k : Int) ∧ Hid (Has wr b (stV s a0 a1 a2 c0 c1 c2) 35) ∧ Hid (Has wr (b + 1) stZ 35) ∧ Hid (Has wr (m + 1) #[.map (some m)] 74) ∧ Hid (SMap wr m (D.take k)) ∧ Hid (∀ d ∈ D.take k, d ∈ s.C) ∧ Hid (RowKit.Below w.heap.size w wr)) (fun v19 _ => n - (intOf v19).toNat)
    case atStart => exact ⟨0, Nat.zero_le _, rfl, M1, M2, HN3, HS3, hid (fun d h => by simp at h), HB3⟩
    case round =>
      obtain ⟨k, hk, rfl, H1, H2, H3, HSM, HIN, HBr⟩ := hrel
      clear M1 M2 HN3 HS3 HB3
      by_cases hlt : k < n
      · have hkl : k < D.length := by rw [← HN.out]; exact hlt
        obtain ⟨g, o, rfl, hg, e0⟩ := tx_cell HD.out HBr.out hkl
        have i1 : (k : Int) < (n : Int) := by omega
        have wk : IntKind.i64.wrap ((k : Int) + 1) = ((k + 1 : Nat) : Int) := by rw [IntKind.wrap_i64]; omega
        have HTN := hid (take_next D ⟨#[]⟩ k hkl)
        have HDM := hid (getD_mem hkl)
        have htl1 : (D.take k).length = k := by rw [List.length_take]; omega
        obtain ⟨k0, k1, k2, k3, k4, k5⟩ := HK.out wr H1.out
        have C1 := HST.out (D.getD k ⟨#[]⟩) wr HBr.out
        have HT1 := hid htl1
        generalize D.getD k ⟨#[]⟩ = d at *
        clear htl1
        go_wp2_with fail
        refine C1.mono ?_
        rintro e w4 ⟨⟨i, rfl, hst⟩, b4⟩
        have HB4 := hid (HBr.out.trans (b4.mono HBr.out.size))
        have H1' := hid (H1.out.below b4 H1.out.lt)
        have H2' := hid (H2.out.below b4 H2.out.lt)
        have H3' := hid (H3.out.below b4 H3.out.lt)
        have HSM' := hid (HSM.out.below b4 HSM.out.lt)
        clear C1 b4 k0 k1 k2 k3 k4 k5 H1 H2 H3 HSM e0 hst
        cases hin : inC s.C d with
        | false =>
          have HA : Hid ((D.all fun d => inC s.C d) = false) := hid (by
            rw [List.all_eq_false]
            exact ⟨d, HDM.out, by rw [hin]; simp⟩)
          have f0 := H2'.out.frozen 0
          have f1 := H2'.out.frozen 1
          have f2 := H2'.out.frozen 2
          have f3 := H2'.out.frozen 3
          have f4 := H2'.out.frozen 4
          have f5 := H2'.out.frozen 5
          obtain ⟨l0, l1, l2, l3, l4, l5⟩ := HF.out _ H2'.out
          clear hin
          go_wp2_with fail
          have hp6 := put6 H2'.out (.int .i64 0) (.int .i64 0) (.int .i64 0) (.slice none 0 0) (.slice none 0 0) (.slice none 0 0)
          exact ret_state Tryz.results12 rfl rfl rfl hp6 rfl ⟨_, by rw [HE.out, HA.out]; rfl, fun h => (by rw [HE.out, HA.out] at h; simp at h), fun _ => rfl, below_put6 HB4.out (by have := HBW.out; omega) _ _ _ _ _ _⟩
        | true =>
          have HIC : Hid (d ∈ s.C) := hid ((inC_iff _ _).1 hin)
          have hsz := HSZ.out d HIC.out
          obtain ⟨w5, hput, hS5, hgr⟩ := HSM'.out.put (by rw [HT1.out]; unfold maxLen; omega) d (by unfold maxLen; omega)
          rw [← HTN.out] at hS5
          have HS5 := hid hS5
          have HB5 := hid (HB4.out.grown hgr HB4.out.size (fun j hj => by cases hj; have := HMB.out; have := HBW.out; omega))
          have H1 := hid (has_grown H1'.out hgr (by have := HMB.out; omega))
          have H2 := hid (has_grown H2'.out hgr (by have := HMB.out; omega))
          have H3 := hid (has_grown H3'.out hgr (by omega))
          have e1 : w4.cell? ⟨m + 1, 0, none⟩ = some (.map (some m)) := by rw [H3'.out.cell]; rfl
          have HI2 : Hid (∀ x ∈ D.take (k + 1), x ∈ s.C) := hid (fun x hx => by
            rw [HTN.out, List.mem_append] at hx
            rcases hx with hx | hx
            · exact HIN.out x hx
            · rw [List.mem_singleton.1 hx]; exact HIC.out)
          clear hin hS5 hgr hsz
          go_wp2_with fail
          go_roundw
          case rel => exact ⟨k + 1, by omega, by rfl, H1, H2, H3, HS5, HI2, HB5⟩
          case measure => first | (simp [intOf]; done) | (simp [intOf]; omega)
      · obtain rfl : n = k := by omega
        have j1 : ¬ ((n : Int) < (n : Int)) := by omega
        have hta : D.take n = D := by rw [HN.out, List.take_length]
        rw [hta] at HSM HIN
        have HA : Hid ((D.all fun d => inC s.C d) = true) := hid (by
          rw [List.all_eq_true]
          exact fun d hd => inC_yes (HIN.out d hd))
        have hzC : (s.C.zip s.P).length = s.C.length := zip_len _ _ (by have := HM.out.1; omega)
        have HZC := hid hzC
        have hks : ∀ e ∈ s.C.zip s.P, e.1.size ≤ 1000000 ∧ e.2.pack.size ≤ 1000000 := fun e he => ⟨by have := HM.out.2.keys e he; omega, by have := (HM.out.2.places e he).1; omega⟩
        have HKS := hid hks
        obtain ⟨k0, k1, k2, k3, k4, k5⟩ := HK.out wr H1.out
        have C2 := chunksOf_any s.C s.P a1 a2 c1 c2 (by have := HM.out.1; omega) hn wr (HC.out wr HBr.out) (HP.out wr HBr.out)
        clear hta hzC hks HST HSZ HRI
        go_wp2_with fail
        refine C2.mono ?_
        rintro e w4 ⟨rfl, hk4, b4⟩
        have HB4 := hid (HBr.out.trans (b4.mono HBr.out.size))
        have H1' := hid (H1.out.below b4 H1.out.lt)
        have H2' := hid (H2.out.below b4 H2.out.lt)
        have h3 := H3.out.below b4 H3.out.lt
        have hsm := HSM.out.below b4 HSM.out.lt
        obtain ⟨q, hq⟩ : ∃ q, q = wr.heap.size := ⟨_, rfl⟩
        rw [← hq] at hk4
        have HQ : Hid (m + 1 < q) := hid (by rw [hq]; exact H3.out.lt)
        have eg : ∀ args w, (callFunc 35 args).run Tryz.prog w = .ok (.enter 35 args) w := enters_of Tryz.func35 (by kernel_rfl) rfl
        have C3 := delete_any 35 #[.pointer (some ⟨m + 1, 0, none⟩)] (fun x => inC D x.1) eg q (s.C.zip s.P) (by rw [HZC.out]; exact hn) (fun e he => (HKS.out e he).1) w4 hk4 (drop1_any q (m + 1) m (by have := HQ.out; omega) (by have := HQ.out; omega) D w4 h3 hsm)
        rw [HZC.out, droL_filter] at C3
        have hfl : (droL s.C s.P D).length ≤ 100000 := by
          rw [← droL_filter]
          exact Nat.le_trans (List.length_filter_le _ _) (by rw [HZC.out]; exact hn)
        have HKO : Hid (∀ e ∈ droL s.C s.P D, e.1.size ≤ 1000000 ∧ e.2.pack.size ≤ 1000000) := hid (fun e he => HKS.out e (by
          rw [← droL_filter] at he
          exact (List.mem_filter.1 he).1))
        have HLQ := hid hk4.lt
        have HSV : Hid (droS s D = { s with C := (droL s.C s.P D).map Prod.fst, P := (droL s.C s.P D).map Prod.snd }) := hid rfl
        clear C2 k0 k1 k2 k3 k4 k5 b4 H1 H2 H3 HSM h3 hsm hk4 eg HBr
        go_wp2_with fail
        rw [← hq]
        clear hq
        refine C3.mono ?_
        rintro e w5 ⟨rfl, hr5, o5⟩
        have HQB : Hid (w.heap.size ≤ q) := hid (by have := HQ.out; have := HMB.out; have := HBW.out; omega)
        have HB5 := hid (HB4.out.trans (o5.below HQB.out HB4.out.size))
        have H1 := hid (o5.has H1'.out (by have := HQ.out; have := HMB.out; omega))
        have H2 := hid (o5.has H2'.out (by have := HQ.out; have := HMB.out; omega))
        have C6 := with_any s (droL s.C s.P D) a0 a1 a2 (some ⟨q, 0, none⟩) c0 c1 c2 s.C.length hfl hn3 HKO.out HR.out w5 (HS.out w5 HB5.out) (rw_ks (Nat.lt_of_lt_of_le HLQ.out o5.size) hr5)
        unfold stV at C6
        obtain ⟨k0, k1, k2, k3, k4, k5⟩ := HK.out w5 H1.out
        generalize droL s.C s.P D = M at *
        clear C3 hr5 o5 H1' H2' HB4 HLQ HKO HKS HZC HC HP HD HS HIN HN
        go_wp2_with fail
        refine C6.mono ?_
        rintro e w7 ⟨v7, rfl, hnew⟩
        obtain ⟨g0, g1, g2, hv7, hg0, hg1, hg2, hh0, hh1, hh2⟩ := hnew.rows
        have HB7 := hid (HB5.out.trans (hnew.below.mono HB5.out.size))
        have N2 := hid (H2.out.below hnew.below H2.out.lt)
        have HGG : Hid (w.heap.size + 2 ≤ g0 ∧ w.heap.size + 2 ≤ g1 ∧ w.heap.size + 2 ≤ g2) := hid (by
          have h1 := H2.out.lt
          have h2 := HBW.out
          omega)
        have hv8 : v7 = #[.int .i64 s.k, .int .i64 s.n, .int .i64 s.nx, .slice (some ⟨g0, 0, none⟩) s.sn.length s.sn.length, .slice (some ⟨g1, 0, none⟩) M.length M.length, .slice (some ⟨g2, 0, none⟩) M.length M.length] := by
          rw [hv7]; simp [stV]
        clear hv7
        subst hv8
        have HH0 := hid hh0
        have HH1 := hid hh1
        have HH2 := hid hh2
        clear C6 hnew hh0 hh1 hh2 k0 k1 k2 k3 k4 k5 HB5 H1 H2 hg0 hg1 hg2
        have f0 := N2.out.frozen 0
        have f1 := N2.out.frozen 1
        have f2 := N2.out.frozen 2
        have f3 := N2.out.frozen 3
        have f4 := N2.out.frozen 4
        have f5 := N2.out.frozen 5
        obtain ⟨l0, l1, l2, l3, l4, l5⟩ := HF.out _ N2.out
        go_wp2_with fail
        have hp6 := put6 N2.out (.int .i64 s.k) (.int .i64 s.n) (.int .i64 s.nx) (.slice (some ⟨g0, 0, none⟩) s.sn.length s.sn.length) (.slice (some ⟨g1, 0, none⟩) M.length M.length) (.slice (some ⟨g2, 0, none⟩) M.length M.length)
        have hbn := below_put6 HB7.out (by have := HBW.out; omega : w.heap.size ≤ b + 1) (.int .i64 s.k) (.int .i64 s.n) (.int .i64 s.nx) (.slice (some ⟨g0, 0, none⟩) s.sn.length s.sn.length) (.slice (some ⟨g1, 0, none⟩) M.length M.length) (.slice (some ⟨g2, 0, none⟩) M.length M.length)
        have oth : ∀ {g : Nat} {cs : Array Value} {t : TypeId}, w.heap.size + 2 ≤ g → Has w7 g cs t → Has ((((((w7.setCell ⟨b + 1, 0, none⟩ (.int .i64 s.k)).setCell ⟨b + 1, 1, none⟩ (.int .i64 s.n)).setCell ⟨b + 1, 2, none⟩ (.int .i64 s.nx)).setCell ⟨b + 1, 3, none⟩ (.slice (some ⟨g0, 0, none⟩) s.sn.length s.sn.length)).setCell ⟨b + 1, 4, none⟩ (.slice (some ⟨g1, 0, none⟩) M.length M.length)).setCell ⟨b + 1, 5, none⟩ (.slice (some ⟨g2, 0, none⟩) M.length M.length)) g cs t := fun {g cs t} hg h => by
          have ne : g ≠ b + 1 := by have := HBW.out; omega
          exact (((((h.other _ _ ne).other _ _ ne).other _ _ ne).other _ _ ne).other _ _ ne).other _ _ ne
        refine ret_state Tryz.results12 rfl rfl rfl hp6 rfl ⟨_, by rw [HE.out, HA.out]; rfl, fun _ => ?_, fun h => (by rw [HE.out, HA.out] at h; simp at h), hbn⟩
        rw [HSV.out]
        exact ⟨⟨g0, g1, g2, by simp [stV], by have := HGG.out; omega, by have := HGG.out; omega, by have := HGG.out; omega, oth HGG.out.1 HH0.out, oth HGG.out.2.1 HH1.out, oth HGG.out.2.2 HH2.out⟩, hbn⟩
end Go.Proofs.YtknddbmnciodaaaGreat

