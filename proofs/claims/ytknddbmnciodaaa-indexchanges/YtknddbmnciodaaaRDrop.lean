/- The contract of the document's Drop. -/
import Derived.Test.YtknddbmnciodaaaDrop
import Derived.Test.YtknddbmnciodaaaCopied
import Derived.Test.YtknddbmnciodaaaRMay
import Derived.Deep.CutRange
import Derived.Deep.RegionWith
namespace Go.Proofs.Ytknddbmnciodaaa
open Go.RowKit
open Ix
set_option linter.unusedVariables false
/-- where a text stands in a list; -1: nowhere -/
def atV (C : List ByteArray) (d : ByteArray) : Int := match C.findIdx? (fun x => decide (x = d)) with | none => -1 | some k => (k : Int)
theorem atV_no {C : List ByteArray} {d : ByteArray} (h : d ∉ C) : atV C d = -1 := by
  unfold atV
  have : C.findIdx? (fun x => decide (x = d)) = none := by
    rw [List.findIdx?_eq_none_iff]
    intro x hx
    simp only [decide_eq_false_iff_not]
    exact fun e => h (e ▸ hx)
  rw [this]
theorem atV_yes {C : List ByteArray} {d : ByteArray} {k : Nat} (h1 : k < C.length) (h2 : C.getD k ⟨#[]⟩ = d) (h3 : ∀ j, j < k → C.getD j ⟨#[]⟩ ≠ d) : atV C d = (k : Int) := by
  unfold atV
  have : C.findIdx? (fun x => decide (x = d)) = some k := by
    rw [List.findIdx?_eq_some_iff_getElem]
    refine ⟨h1, ?_, fun j hj => ?_⟩
    · rw [List.getD_eq_getElem?_getD, List.getElem?_eq_getElem h1] at h2
      simpa using h2
    · have := h3 j hj
      rw [List.getD_eq_getElem?_getD, List.getElem?_eq_getElem (by omega)] at this
      simpa using this
  rw [this]
theorem atV_neg {C : List ByteArray} {d : ByteArray} : atV C d < 0 ↔ d ∉ C := by
  constructor
  · intro h hd
    unfold atV at h
    cases hf : C.findIdx? (fun x => decide (x = d)) with
    | none =>
      rw [List.findIdx?_eq_none_iff] at hf
      have := hf d hd
      simp at this
    | some k => rw [hf] at h; simp at h; omega
  · intro h
    rw [atV_no h]; decide
theorem at_val (C : List ByteArray) (A : Option Addr) (c : Nat) (d : ByteArray) (hn : C.length ≤ 100000) (w : World) (hC : Tx w A C) :
    Calls Try.prog 30 #[.slice A C.length c, .string d] w fun e w' => e = .returned (.int .i64 (atV C d)) ∧ w' = w := by
  refine (at_any C A c d hn w hC).mono ?_
  rintro e w' ⟨⟨r, rfl, h⟩, rfl⟩
  refine ⟨?_, rfl⟩
  rcases h with ⟨rfl, hd⟩ | ⟨k, rfl, h1, h2, h3⟩
  · rw [atV_no hd]
  · rw [atV_yes h1 h2 h3]
/-- what a call that gives a state comes to, read -/
structure Comes (w : World) (v : Array Value) (s : St) (er : Int) (W : World) : Prop where
  yes : er = 0 → ∃ A0 A1 A2 e0 e1 e2, v = stV s A0 A1 A2 e0 e1 e2 ∧ Sn W A0 s.sn ∧ Tx W A1 s.C ∧ Ps W A2 s.P
  no : er ≠ 0 → v = stZ
  below : RowKit.Below w.heap.size w W
theorem has_grown2 {w w' : World} {b : Nat} {row : Option Nat} {cs : Array Value} {t : TypeId} (h : Has w b cs t) (hg : w.grownBy w' row) (hne : row ≠ some b) : Has w' b cs t := by
  have hl := h.lt
  unfold Has at *
  rw [hg.block b hl (fun e => hne e.symm)]
  exact h
theorem droL_in {C : List ByteArray} {P : List Pl} {D : List ByteArray} {k : Nat} {q : En} (h : (C.zip P)[k]? = some q) (hq : q.1 ∈ D) : drops D ((C.zip P).take (k + 1)) = drops D ((C.zip P).take k) := drops_in D h hq
set_option maxRecDepth 20000 in
set_option maxHeartbeats 16000000 in
theorem refDrop_any (s : St) (a0 a1 a2 b1 : Option Addr) (c0 c1 c2 d1 : Nat) (D : List ByteArray) (hn : s.C.length ≤ 100000) (hn2 : s.P.length ≤ 100000) (hm : D.length ≤ 100000)
    (w : World) (hS : Sn w a0 s.sn) (hC : Tx w a1 s.C) (hP : Ps w a2 s.P) (hD : Tx w b1 D) :
    Calls Try.prog 10 #[.agg (stV s a0 a1 a2 c0 c1 c2), .slice b1 D.length d1] w fun e w' => ∃ v, e = .returned (.tuple #[.agg v, .int .i64 (droE s.C s.P D)]) ∧ Comes w v (droS s D) (droE s.C s.P D) w' := by
  obtain ⟨i9, hi9, hx0, hx1, hx2⟩ := info_parts info9z
  obtain ⟨i37, hi37, hy0, hy1, hy2⟩ := info_parts info37z
  obtain ⟨b, hb⟩ : ∃ b, b = w.heap.size := ⟨_, rfl⟩
  obtain ⟨w1, hw1⟩ : ∃ w1, w1 = (w.alloc (.cells (stV s a0 a1 a2 c0 c1 c2) 28)).alloc (.cells stZ 28) := ⟨_, rfl⟩
  have hB : RowKit.Below w.heap.size w w1 := by rw [hw1]; exact ((RowKit.Below.refl _ w).alloc (Nat.le_refl _) _).alloc (by simp) _
  have n1 : Has w1 b (stV s a0 a1 a2 c0 c1 c2) 28 := by rw [hw1]; exact (Has.new w _ _ _ hb).alloc _
  have n2 : Has w1 (b + 1) stZ 28 := by rw [hw1]; exact Has.new _ _ _ _ (by simp [hb])
  have C0 := refMay_any s a0 a1 a2 c0 c1 c2 hn hn2 w1 (hC.below hB) (hP.below hB)
  have HS := hid (fun W (hW : RowKit.Below w.heap.size w W) => hS.below hW)
  have HC := hid hC
  have HP := hid hP
  have HD := hid hD
  have HB := hid hB
  have HBW := hid hb
  have HK := hid (fun W (hW : Has W b (stV s a0 a1 a2 c0 c1 c2) 28) => (show (W.cell? ⟨b, 0, none⟩ = some (.int .i64 s.k) ∧ W.cell? ⟨b, 1, none⟩ = some (.int .i64 s.n) ∧ W.cell? ⟨b, 2, none⟩ = some (.int .i64 s.nx) ∧ W.cell? ⟨b, 3, none⟩ = some (.slice a0 s.sn.length c0) ∧ W.cell? ⟨b, 4, none⟩ = some (.slice a1 s.C.length c1) ∧ W.cell? ⟨b, 5, none⟩ = some (.slice a2 s.P.length c2)) from
    ⟨by rw [hW.cell]; rfl, by rw [hW.cell]; rfl, by rw [hW.cell]; rfl, by rw [hW.cell]; rfl, by rw [hW.cell]; rfl, by rw [hW.cell]; rfl⟩))
  have HF := hid (fun W (hW : Has W (b + 1) stZ 28) => (show (W.cell? ⟨b + 1, 0, none⟩ = some (.int .i64 0) ∧ W.cell? ⟨b + 1, 1, none⟩ = some (.int .i64 0) ∧ W.cell? ⟨b + 1, 2, none⟩ = some (.int .i64 0) ∧ W.cell? ⟨b + 1, 3, none⟩ = some (.slice none 0 0) ∧ W.cell? ⟨b + 1, 4, none⟩ = some (.slice none 0 0) ∧ W.cell? ⟨b + 1, 5, none⟩ = some (.slice none 0 0)) from
    ⟨by rw [hW.cell]; rfl, by rw [hW.cell]; rfl, by rw [hW.cell]; rfl, by rw [hW.cell]; rfl, by rw [hW.cell]; rfl, by rw [hW.cell]; rfl⟩))
  have HFZ := hid (fun W (hW : Has W (b + 1) stZ 28) => (show (W.frozen? ⟨b + 1, 0, none⟩ = false ∧ W.frozen? ⟨b + 1, 1, none⟩ = false ∧ W.frozen? ⟨b + 1, 2, none⟩ = false ∧ W.frozen? ⟨b + 1, 3, none⟩ = false ∧ W.frozen? ⟨b + 1, 4, none⟩ = false ∧ W.frozen? ⟨b + 1, 5, none⟩ = false) from
    ⟨hW.frozen 0, hW.frozen 1, hW.frozen 2, hW.frozen 3, hW.frozen 4, hW.frozen 5⟩))
  have HAT := hid (fun (d : ByteArray) W (hW : RowKit.Below w.heap.size w W) => at_val s.C a1 c1 d hn W (hC.below hW))
  have HATD := hid (fun (d : ByteArray) W (hW : RowKit.Below w.heap.size w W) => at_val D b1 d1 d hm W (hD.below hW))
  obtain ⟨k0, k1, k2, k3, k4, k5⟩ := HK.out w1 n1
  have HN1 := hid n1
  have HN2 := hid n2
  clear hB n1 n2 hC hP hS hD
  change w1 = (w.alloc (.cells #[.int .i64 s.k, .int .i64 s.n, .int .i64 s.nx, .slice a0 s.sn.length c0, .slice a1 s.C.length c1, .slice a2 s.P.length c2] 28)).alloc (.cells #[.int .i64 0, .int .i64 0, .int .i64 0, .slice none 0 0, .slice none 0 0, .slice none 0 0] 28) at hw1
  show Calls Try.prog 10 #[.agg #[.int .i64 s.k, .int .i64 s.n, .int .i64 s.nx, .slice a0 s.sn.length c0, .slice a1 s.C.length c1, .slice a2 s.P.length c2], .slice b1 D.length d1] w _
  change Calls Try.prog 21 #[.agg #[.int .i64 s.k, .int .i64 s.n, .int .i64 s.nx, .slice a0 s.sn.length c0, .slice a1 s.C.length c1, .slice a2 s.P.length c2]] w1 _ at C0
  obtain ⟨n, hnn⟩ : ∃ n, n = D.length := ⟨_, rfl⟩
  have HN := hid hnn
  rw [← hnn] at hm HATD ⊢
  clear hnn
  go_enter Try.func10, Try.ntmps10
  go_upto_region 1 with fail
  rw [← hw1, ← hb]
  clear hw1 hb
  go_wp2_with fail
  refine C0.mono ?_
  rintro e w2 ⟨rfl, b2⟩
  have HB2 := hid (HB.out.trans (b2.mono HB.out.size))
  have N1 := hid (HN1.out.below b2 HN1.out.lt)
  have N2 := hid (HN2.out.below b2 HN2.out.lt)
  clear C0 b2 k0 k1 k2 k3 k4 k5 HN1 HN2 HB
  cases hmay : mayS s.C s.P with
  | false =>
    have HE : Hid (droE s.C s.P D = 4) := hid (by unfold droE; rw [hmay]; rfl)
    obtain ⟨f0, f1, f2, f3, f4, f5⟩ := HFZ.out _ N2.out
    obtain ⟨l0, l1, l2, l3, l4, l5⟩ := HF.out _ N2.out
    clear hmay
    go_wp2_with fail
    have hp6 := put6 N2.out (.int .i64 0) (.int .i64 0) (.int .i64 0) (.slice none 0 0) (.slice none 0 0) (.slice none 0 0)
    exact ret_state Try.results10 rfl rfl rfl hp6 rfl ⟨_, by rw [HE.out]; rfl, fun h => (by rw [HE.out] at h; omega), fun _ => rfl, below_put6 HB2.out (by have := HBW.out; omega) _ _ _ _ _ _⟩
  | true =>
    have HM := hid (mayS_iff.1 hmay)
    have HE : Hid (droE s.C s.P D = if (D.all fun d => inC s.C d) = true then 0 else 5) := hid (by unfold droE; rw [hmay]; rfl)
    clear hmay
    go_wp2_with fail
    go_loopw [6] (fun v6 wr => ∃ k : Nat, k ≤ n ∧ v6 = .int .i64 (k : Int) ∧ Hid (Has wr b (stV s a0 a1 a2 c0 c1 c2) 28) ∧ Hid (Has wr (b + 1) stZ 28) ∧ Hid (∀ d ∈ D.take k, d ∈ s.C) ∧ Hid (RowKit.Below w.heap.size w wr)) (fun v6 _ => n - (intOf v6).toNat)
    case atStart => exact ⟨0, Nat.zero_le _, rfl, N1, N2, hid (fun d h => by simp at h), HB2⟩
    case round =>
      obtain ⟨k, hk, rfl, H1, H2, HIN, HBr⟩ := hrel
      clear N1 N2 HB2
      by_cases hlt : k < n
      · have hkl : k < D.length := by rw [← HN.out]; exact hlt
        obtain ⟨g, o, rfl, hg, e0⟩ := tx_cell HD.out HBr.out hkl
        have i1 : (k : Int) < (n : Int) := by omega
        have i0 : (0 : Int) ≤ (k : Int) := by omega
        have wk : IntKind.i64.wrap ((k : Int) + 1) = ((k + 1 : Nat) : Int) := by rw [IntKind.wrap_i64]; omega
        have HTN := hid (take_next D ⟨#[]⟩ k hkl)
        have HDM := hid (getD_mem hkl)
        obtain ⟨k0, k1, k2, k3, k4, k5⟩ := HK.out wr H1.out
        generalize D.getD k ⟨#[]⟩ = d at *
        have H1D := hid (H1.out.below (RowKit.Below.refl wr.heap.size wr).drew H1.out.lt)
        have H2D := hid (H2.out.below (RowKit.Below.refl wr.heap.size wr).drew H2.out.lt)
        have HBD := hid HBr.out.drew
        by_cases hin : d ∈ s.C
        · have hneg : ¬ atV s.C d < 0 := fun h => atV_neg.1 h hin
          have HI2 : Hid (∀ x ∈ D.take (k + 1), x ∈ s.C) := hid (fun x hx => by
            rw [HTN.out, List.mem_append] at hx
            rcases hx with hx | hx
            · exact HIN.out x hx
            · rw [List.mem_singleton.1 hx]; exact hin)
          clear hin
          go_wp2_with fail
          go_region_with ((go_at_call 30; refine (HAT.out d _ (by first | exact HBr.out | exact HBr.out.drew)).mono ?_; rintro e w' ⟨rfl, rfl⟩))
          all_goals (go_wp2_with fail; go_roundw)
          all_goals first
            | exact ⟨k + 1, by omega, by rfl, H1D, H2D, HI2, HBD⟩
            | (simp [intOf]; done)
            | (simp [intOf]; omega)
        · have hneg : atV s.C d < 0 := atV_neg.2 hin
          have HA : Hid ((D.all fun d => inC s.C d) = false) := hid (by
            rw [List.all_eq_false]
            exact ⟨d, HDM.out, by rw [inC_no hin]; simp⟩)
          obtain ⟨f0, f1, f2, f3, f4, f5⟩ := HFZ.out _ H2.out
          obtain ⟨l0, l1, l2, l3, l4, l5⟩ := HF.out _ H2.out
          clear hin
          go_wp2_with fail
          go_region_with ((go_at_call 30; refine (HAT.out d _ (by first | exact HBr.out | exact HBr.out.drew)).mono ?_; rintro e w' ⟨rfl, rfl⟩))
          all_goals go_wp2_with fail
          all_goals have hp6 := put6 H2.out (.int .i64 0) (.int .i64 0) (.int .i64 0) (.slice none 0 0) (.slice none 0 0) (.slice none 0 0)
          all_goals exact ret_state Try.results10 rfl rfl rfl (hp6.below (RowKit.Below.refl _ _).drew hp6.lt) rfl ⟨_, by rw [HE.out, HA.out]; rfl, fun h => (by rw [HE.out, HA.out] at h; simp at h), fun _ => rfl, (below_put6 HBr.out (by have := HBW.out; omega) _ _ _ _ _ _).drew⟩
      · obtain rfl : n = k := by omega
        have j1 : ¬ ((n : Int) < (n : Int)) := by omega
        have hta : D.take n = D := by rw [HN.out, List.take_length]
        rw [hta] at HIN
        have HA : Hid (droE s.C s.P D = 0) := hid (by
          rw [HE.out, if_pos]
          rw [List.all_eq_true]
          exact fun d hd => inC_yes (HIN.out d hd))
        obtain ⟨k0, k1, k2, k3, k4, k5⟩ := HK.out wr H1.out
        obtain ⟨q, hq⟩ : ∃ q, q = wr.heap.size := ⟨_, rfl⟩
        obtain ⟨w4, hw4⟩ : ∃ w4, w4 = wr.alloc (.cells #[.int .i64 s.k, .int .i64 s.n, .int .i64 s.nx, .slice a0 s.sn.length c0, .slice none 0 0, .slice none 0 0] 28) := ⟨_, rfl⟩
        clear hta HE HIN HAT
        have HW4 : Hid (RowKit.Below w.heap.size w w4) := hid (by rw [hw4]; exact HBr.out.trans ((RowKit.Below.refl _ wr).alloc (Nat.le_refl _) _ |>.mono HBr.out.size))
        have bb4 : RowKit.Below wr.heap.size wr w4 := by rw [hw4]; exact (RowKit.Below.refl _ wr).alloc (Nat.le_refl _) _
        have M1 := hid (H1.out.below bb4 H1.out.lt)
        have M2 := hid (H2.out.below bb4 H2.out.lt)
        have M3 : Hid (Has w4 q #[.int .i64 s.k, .int .i64 s.n, .int .i64 s.nx, .slice a0 s.sn.length c0, .slice none 0 0, .slice none 0 0] 28) := hid (by rw [hw4]; exact Has.new _ _ _ _ hq)
        have HQB : Hid (b ≠ q ∧ b + 1 ≠ q) := hid (by have := H2.out.lt; rw [hq]; omega)
        have HQW : Hid (w.heap.size ≤ q) := hid (by rw [hq]; exact HBr.out.size)
        have HZ := hid (fun i (h1 : i < s.C.length) => zip_get (P := s.P) h1 (by have := HM.out.1; omega))
        have hzl := zip_len s.C s.P (by have := HM.out.1; omega)
        have HZL := hid hzl
        have hmost := HM.out.2.most
        rw [hzl] at hmost
        go_upto_region 11 with fail
        rw [← hw4, ← hq]
        clear hw4 hq bb4 H1 H2 HBr k0 k1 k2 k3 k4 k5 hzl
        generalize hMM : s.C.zip s.P = M at *
        have HMM := hid hMM
        clear hMM
        generalize hlC : s.C.length = nC at *
        have HLC := hid hlC
        clear hlC
        go_wp2_with fail
        go_loopw [8] (fun v8 wr => ∃ (i : Nat) (L : List En) (AC AP : Option Addr) (cC cP : Nat), i ≤ nC ∧ v8 = .int .i64 (i : Int) ∧ L.length ≤ i ∧ Hid (L = drops D (M.take i)) ∧ Hid (Has wr b (stV s a0 a1 a2 c0 c1 c2) 28) ∧ Hid (Has wr (b + 1) stZ 28) ∧ Hid (Has wr q #[.int .i64 s.k, .int .i64 s.n, .int .i64 s.nx, .slice a0 s.sn.length c0, .slice AC L.length cC, .slice AP L.length cP] 28) ∧ Hid (wr.ownsRow w.heap.size 9 1 (.slice AC L.length cC) L.length ((L.map Prod.fst).map Value.string)) ∧ Hid (wr.ownsRow w.heap.size 37 3 (.slice AP L.length cP) L.length ((L.map Prod.snd).flatMap pl3)) ∧ Hid (RowKit.Below w.heap.size w wr)) (fun v8 _ => nC - (intOf v8).toNat)
        case atStart => exact ⟨0, [], none, none, 0, 0, Nat.zero_le _, rfl, Nat.le_refl _, hid rfl, M1, M2, M3, hid (World.ownsRow_nil _ _ _ _), hid (World.ownsRow_nil _ _ _ _), HW4⟩
        case round =>
          obtain ⟨i, L, AC, AP, cC, cP, hi, rfl, hLi, HL, H1, H2, HQ, HR1, HR2, HBr⟩ := hrel
          clear M1 M2 M3 HW4
          have k4 : wr.cell? ⟨b, 4, none⟩ = some (.slice a1 nC c1) := by rw [H1.out.cell]; unfold stV; rw [HLC.out]; rfl
          have k5 : wr.cell? ⟨b, 5, none⟩ = some (.slice a2 s.P.length c2) := by rw [H1.out.cell]; rfl
          by_cases hlt : i < nC
          · have hlt' : i < s.C.length := by rw [HLC.out]; exact hlt
            have hltp : i < s.P.length := by have := HM.out.1; omega
            have HXY := hid (HZ.out i hlt)
            obtain ⟨g, o, rfl, hg, e0⟩ := tx_cell HC.out HBr.out hlt'
            obtain ⟨g', o', rfl, hg', p1, p2, p3⟩ := ps_cell HP.out HBr.out hltp
            have i1 : (i : Int) < (nC : Int) := by omega
            have i0 : (0 : Int) ≤ (i : Int) := by omega
            have i2 : (i : Int) < (s.P.length : Int) := by omega
            have wk : IntKind.i64.wrap ((i : Int) + 1) = ((i + 1 : Nat) : Int) := by rw [IntKind.wrap_i64]; omega
            generalize s.C.getD i ⟨#[]⟩ = x at *
            obtain ⟨y, hy⟩ : ∃ y, y = s.P.getD i default := ⟨_, rfl⟩
            rw [← hy] at HXY p1 p2 p3
            have HYY := hid hy.symm
            clear hy
            have C9 := HATD.out x wr HBr.out
            go_wp2_with fail
            refine C9.mono ?_
            rintro e w' ⟨rfl, hww⟩
            have hww' := hww.symm
            subst hww'
            clear hww C9
            by_cases hin : x ∈ D
            · have hneg : ¬ atV D x < 0 := fun h => atV_neg.1 h hin
              have HL2 : Hid (L = drops D (M.take (i + 1))) := hid (by rw [drops_in D HXY.out hin]; exact HL.out)
              clear hin
              go_wp2_with fail
              go_roundw
              case rel => exact ⟨i + 1, L, AC, AP, cC, cP, hlt, by rfl, by omega, HL2, H1, H2, HQ, HR1, HR2, HBr⟩
              case measure => first | (simp [intOf]; done) | (simp [intOf]; omega)
            · have hneg : atV D x < 0 := atV_neg.2 hin
              have HL2 : Hid (L ++ [(x, y)] = drops D (M.take (i + 1))) := hid (by rw [drops_out D HXY.out hin, ← HL.out])
              clear hin
              have x4 : wr.cell? ⟨q, 4, none⟩ = some (.slice AC L.length cC) := by rw [HQ.out.cell]; rfl
              obtain ⟨w5, hw5⟩ : ∃ w5, w5 = (wr.alloc (.cells #[.string x] 9)).drew := ⟨_, rfl⟩
              have hb5 : RowKit.Below wr.heap.size wr w5 := by rw [hw5]; exact ((RowKit.Below.refl _ wr).alloc (Nat.le_refl _) _).drew
              have hx5 : Has w5 wr.heap.size #[.string x] 9 := by rw [hw5]; exact Has.new wr _ _ _ rfl
              have r1 := own_below HR1.out hb5 (Nat.le_refl _)
              have r2 := own_below HR2.out hb5 (Nat.le_refl _)
              have q5 := HQ.out.below hb5 HQ.out.lt
              have hA5 : ∀ ty, ∃ v' w', (Builtin.append_ #[25, 25] ty #[.slice AC L.length cC, .slice (some ⟨wr.heap.size, 0, none⟩) 1 1]).run Try.prog w5 = .ok v' w' ∧ w'.ownsRow w.heap.size 9 1 v' (L.length + 1) ((L.map Prod.fst).map Value.string ++ [.string x]) ∧ w5.grownBy w' (Value.slice AC L.length cC).ownBlock := fun ty => by
                obtain ⟨v', w', e1, e2, e3, _⟩ := run_append_own (P := Try.prog) w5 w.heap.size 25 ty 9 i9 (.string ⟨#[]⟩) 1 16 Try.underlying25 hi9 hx0 hx1 hx2 rfl (by decide) _ L.length _ r1 ⟨wr.heap.size, 0, none⟩ 1 1 [.string x] rfl (fun j u hu => by
                  have hj : j = 0 := by have := (List.getElem?_eq_some_iff.1 hu).1; simp at this; omega
                  subst hj
                  rw [show ((⟨wr.heap.size, 0, none⟩ : Addr).add 0) = ⟨wr.heap.size, 0, none⟩ from rfl, hx5.cell]
                  exact hu) (by simp [Value.oneCell']) (by unfold maxLen; omega) (by omega) (Nat.le_trans HBr.out.size hb5.size)
                exact ⟨v', w', e1, e2, e3⟩
              obtain ⟨v6, w6, hr6, ho6, hg6⟩ := hA5 25
              have hne1 : (Value.slice AC L.length cC).ownBlock ≠ some q := own_has r1 q5 (by decide)
              have q6 := has_grown2 q5 hg6 hne1
              have hb6 : RowKit.Below w.heap.size w w6 := (HBr.out.trans (hb5.mono HBr.out.size)).grown hg6 (Nat.le_trans HBr.out.size hb5.size) (fun j hj => (r1.lt j hj).1)
              have m6 := has_grown2 (H1.out.below hb5 H1.out.lt) hg6 (own_has r1 (H1.out.below hb5 H1.out.lt) (by decide))
              have z6 := has_grown2 (H2.out.below hb5 H2.out.lt) hg6 (own_has r1 (H2.out.below hb5 H2.out.lt) (by decide))
              have r26 := own_keep r2 r1 (by decide) hg6
              have e6 : (L.map Prod.fst).map Value.string ++ [.string x] = ((L ++ [(x, y)]).map Prod.fst).map Value.string := by simp
              rw [e6] at ho6
              obtain ⟨A1, f1, hv6, -, -⟩ := own_tx ho6
              rw [List.length_map, List.length_append, List.length_singleton] at hv6
              subst hv6
              have c6 : w6.cell? ⟨q, 4, none⟩ = some (.slice AC L.length cC) := by rw [q6.cell]; rfl
              have f6 := q6.frozen 4
              have c5 : (wr.alloc (.cells #[.string x] 9)).cell? ⟨q, 4, none⟩ = some (.slice AC L.length cC) := by rw [(HQ.out.below ((RowKit.Below.refl _ wr).alloc (Nat.le_refl _) _) HQ.out.lt).cell]; rfl
              obtain ⟨w7, hw7⟩ : ∃ w7, w7 = w6.setCell ⟨q, 4, none⟩ (.slice A1 (L.length + 1) f1) := ⟨_, rfl⟩
              have HQ7 : Hid (Has w7 q #[.int .i64 s.k, .int .i64 s.n, .int .i64 s.nx, .slice a0 s.sn.length c0, .slice A1 (L.length + 1) f1, .slice AP L.length cP] 28) := hid (by rw [hw7]; exact q6.set 4 _)
              have HO7 : Hid (w7.ownsRow w.heap.size 9 1 (.slice A1 (L.length + 1) f1) (L.length + 1) (((L ++ [(x, y)]).map Prod.fst).map Value.string)) := hid (by rw [hw7]; exact own_set ho6 q6 (by decide))
              have HO72 : Hid (w7.ownsRow w.heap.size 37 3 (.slice AP L.length cP) L.length ((L.map Prod.snd).flatMap pl3)) := hid (by rw [hw7]; exact own_set r26 q6 (by decide))
              have HB7 : Hid (RowKit.Below w.heap.size w w7) := hid (by rw [hw7]; exact below_set hb6 HQW.out _)
              have H17 : Hid (Has w7 b (stV s a0 (some ⟨g, o, none⟩) (some ⟨g', o', none⟩) c0 c1 c2) 28) := hid (by rw [hw7]; exact m6.other ⟨q, 4, none⟩ _ HQB.out.1)
              have H27 : Hid (Has w7 (b + 1) stZ 28) := hid (by rw [hw7]; exact z6.other ⟨q, 4, none⟩ _ HQB.out.2)
              rw [hw5] at hr6
              clear hw5 hb5 hx5 r1 r2 q5 hA5 ho6 hg6 hne1 q6 hb6 m6 z6 r26 e6
              go_upto_region 15 with fail
              go_cut [] from 31 to 65 (fun wx => wx = w7)
              case first =>
                go_region_law ((refine step_val rfl (rn_app25 rfl rfl rfl rfl hr6) ?_))
                all_goals (rw [← hw7]; clear hw7)
                all_goals (go_wp2_with fail; go_meet)
                all_goals rfl
              case rest =>
                have hcc : w7 = wc := hcut.symm
                subst hcc
                clear hcut hr6 c5 c6 f6 x4 hw7 H1 H2 HQ HR1 HR2 HBr e0 k4 k5
                have k5 : w7.cell? ⟨b, 5, none⟩ = some (.slice (some ⟨g', o', none⟩) s.P.length c2) := by rw [H17.out.cell]; rfl
                have x5 : w7.cell? ⟨q, 5, none⟩ = some (.slice AP L.length cP) := by rw [HQ7.out.cell]; rfl
                obtain ⟨g9, o9, e9, hg9', p1, p2, p3⟩ := ps_cell HP.out HB7.out hltp
                cases e9
                rw [HYY.out] at p1 p2 p3
                obtain ⟨w5, hw5⟩ : ∃ w5, w5 = (w7.alloc (.cells #[.string y.pack, .int .i64 y.at_, .int .i64 y.len] 37)).drew := ⟨_, rfl⟩
                have hb5 : RowKit.Below w7.heap.size w7 w5 := by rw [hw5]; exact ((RowKit.Below.refl _ w7).alloc (Nat.le_refl _) _).drew
                have hx5 : Has w5 w7.heap.size #[.string y.pack, .int .i64 y.at_, .int .i64 y.len] 37 := by rw [hw5]; exact Has.new w7 _ _ _ rfl
                have r1 := own_below HO72.out hb5 (Nat.le_refl _)
                have r2 := own_below HO7.out hb5 (Nat.le_refl _)
                have q5 := HQ7.out.below hb5 HQ7.out.lt
                have hA5 : ∀ ty, ∃ v' w', (Builtin.append_ #[26, 26] ty #[.slice AP L.length cP, .slice (some ⟨w7.heap.size, 0, none⟩) 1 1]).run Try.prog w5 = .ok v' w' ∧ w'.ownsRow w.heap.size 37 3 v' (L.length + 1) ((L.map Prod.snd).flatMap pl3 ++ [.string y.pack, .int .i64 y.at_, .int .i64 y.len]) ∧ w5.grownBy w' (Value.slice AP L.length cP).ownBlock := fun ty => by
                  obtain ⟨v', w', e1, e2, e3, _⟩ := run_append_own (P := Try.prog) w5 w.heap.size 26 ty 37 i37 (.agg #[.string ⟨#[]⟩, .int .i64 0, .int .i64 0]) 3 32 Try.underlying26 hi37 hy0 hy1 hy2 rfl (by decide) _ L.length _ r1 ⟨w7.heap.size, 0, none⟩ 1 1 [.string y.pack, .int .i64 y.at_, .int .i64 y.len] rfl (fun j u hu => by
                    rw [Go.WideShapes.add_plain, Nat.zero_add, hx5.cell]
                    simpa using hu) (by simp [Value.oneCell']) (by unfold maxLen; omega) (by omega) (Nat.le_trans HB7.out.size hb5.size)
                  exact ⟨v', w', e1, e2, e3⟩
                obtain ⟨v6, w6, hr6, ho6, hg6⟩ := hA5 26
                have hne1 : (Value.slice AP L.length cP).ownBlock ≠ some q := own_has r1 q5 (by decide)
                have q6 := has_grown2 q5 hg6 hne1
                have hb6 : RowKit.Below w.heap.size w w6 := (HB7.out.trans (hb5.mono HB7.out.size)).grown hg6 (Nat.le_trans HB7.out.size hb5.size) (fun j hj => (r1.lt j hj).1)
                have m6 := has_grown2 (H17.out.below hb5 H17.out.lt) hg6 (own_has r1 (H17.out.below hb5 H17.out.lt) (by decide))
                have z6 := has_grown2 (H27.out.below hb5 H27.out.lt) hg6 (own_has r1 (H27.out.below hb5 H27.out.lt) (by decide))
                have r26 := own_keep r2 r1 (by decide) hg6
                have e6 : (L.map Prod.snd).flatMap pl3 ++ [.string y.pack, .int .i64 y.at_, .int .i64 y.len] = ((L ++ [(x, y)]).map Prod.snd).flatMap pl3 := by simp [pl3]
                rw [e6] at ho6
                obtain ⟨A2, f2, hv6, -, -⟩ := own_ps ho6
                rw [List.length_map, List.length_append, List.length_singleton] at hv6
                subst hv6
                have c6 : w6.cell? ⟨q, 5, none⟩ = some (.slice AP L.length cP) := by rw [q6.cell]; rfl
                have f6 := q6.frozen 5
                have c5 : (w7.alloc (.cells #[.string y.pack, .int .i64 y.at_, .int .i64 y.len] 37)).cell? ⟨q, 5, none⟩ = some (.slice AP L.length cP) := by rw [(HQ7.out.below ((RowKit.Below.refl _ w7).alloc (Nat.le_refl _) _) HQ7.out.lt).cell]; rfl
                obtain ⟨w10, hw10⟩ : ∃ w10, w10 = w6.setCell ⟨q, 5, none⟩ (.slice A2 (L.length + 1) f2) := ⟨_, rfl⟩
                have HQ10 : Hid (Has w10 q #[.int .i64 s.k, .int .i64 s.n, .int .i64 s.nx, .slice a0 s.sn.length c0, .slice A1 (L.length + 1) f1, .slice A2 (L.length + 1) f2] 28) := hid (by rw [hw10]; exact q6.set 5 _)
                have HO102 : Hid (w10.ownsRow w.heap.size 37 3 (.slice A2 (L.length + 1) f2) (L.length + 1) (((L ++ [(x, y)]).map Prod.snd).flatMap pl3)) := hid (by rw [hw10]; exact own_set ho6 q6 (by decide))
                have HO10 : Hid (w10.ownsRow w.heap.size 9 1 (.slice A1 (L.length + 1) f1) (L.length + 1) (((L ++ [(x, y)]).map Prod.fst).map Value.string)) := hid (by rw [hw10]; exact own_set r26 q6 (by decide))
                have HB10 : Hid (RowKit.Below w.heap.size w w10) := hid (by rw [hw10]; exact below_set hb6 HQW.out _)
                have H110 : Hid (Has w10 b (stV s a0 (some ⟨g, o, none⟩) (some ⟨g', o', none⟩) c0 c1 c2) 28) := hid (by rw [hw10]; exact m6.other ⟨q, 5, none⟩ _ HQB.out.1)
                have H210 : Hid (Has w10 (b + 1) stZ 28) := hid (by rw [hw10]; exact z6.other ⟨q, 5, none⟩ _ HQB.out.2)
                rw [hw5] at hr6
                clear hw5 hb5 hx5 r1 r2 q5 hA5 ho6 hg6 hne1 q6 hb6 m6 z6 r26 e6 HO7 HO72 HB7 H17 H27 HQ7
                go_upto_region 16 with fail
                go_region_law ((refine step_val rfl (rn_app26 rfl rfl rfl rfl hr6) ?_))
                all_goals (rw [← hw10]; clear hw10 hr6 c5 c6 f6 x5 p1 p2 p3 k5)
                all_goals (go_wp2_with fail; go_roundw)
                all_goals first
                  | exact ⟨i + 1, L ++ [(x, y)], A1, A2, f1, f2, hlt, by rfl, by simp; omega, HL2, H110, H210, by rw [List.length_append]; exact HQ10, by rw [List.length_append]; exact HO10, by rw [List.length_append]; exact HO102, HB10⟩
                  | (simp [intOf]; done)
                  | (simp [intOf]; omega)
          · obtain rfl : nC = i := by omega
            have j1 : ¬ ((nC : Int) < (nC : Int)) := by omega
            have hta : M.take nC = M := by rw [← HZL.out, List.take_length]
            rw [hta] at HL
            have y0 : wr.cell? ⟨q, 0, none⟩ = some (.int .i64 s.k) := by rw [HQ.out.cell]; rfl
            have y1 : wr.cell? ⟨q, 1, none⟩ = some (.int .i64 s.n) := by rw [HQ.out.cell]; rfl
            have y2 : wr.cell? ⟨q, 2, none⟩ = some (.int .i64 s.nx) := by rw [HQ.out.cell]; rfl
            have y3 : wr.cell? ⟨q, 3, none⟩ = some (.slice a0 s.sn.length c0) := by rw [HQ.out.cell]; rfl
            have y4 : wr.cell? ⟨q, 4, none⟩ = some (.slice AC L.length cC) := by rw [HQ.out.cell]; rfl
            have y5 : wr.cell? ⟨q, 5, none⟩ = some (.slice AP L.length cP) := by rw [HQ.out.cell]; rfl
            obtain ⟨f0, f1, f2, f3, f4, f5⟩ := HFZ.out _ H2.out
            obtain ⟨l0, l1, l2, l3, l4, l5⟩ := HF.out _ H2.out
            have hp6 := put6 H2.out (.int .i64 s.k) (.int .i64 s.n) (.int .i64 s.nx) (.slice a0 s.sn.length c0) (.slice AC L.length cC) (.slice AP L.length cP)
            have hbn := below_put6 HBr.out (by have := HBW.out; omega : w.heap.size ≤ b + 1) (.int .i64 s.k) (.int .i64 s.n) (.int .i64 s.nx) (.slice a0 s.sn.length c0) (.slice AC L.length cC) (.slice AP L.length cP)
            have keep6 : ∀ {lo n m : Nat} {e : TypeId} {v : Value} {xs : List Value}, e ≠ 28 → wr.ownsRow lo e m v n xs → ((((((wr.setCell ⟨b + 1, 0, none⟩ (.int .i64 s.k)).setCell ⟨b + 1, 1, none⟩ (.int .i64 s.n)).setCell ⟨b + 1, 2, none⟩ (.int .i64 s.nx)).setCell ⟨b + 1, 3, none⟩ (.slice a0 s.sn.length c0)).setCell ⟨b + 1, 4, none⟩ (.slice AC L.length cC)).setCell ⟨b + 1, 5, none⟩ (.slice AP L.length cP)).ownsRow lo e m v n xs := fun {lo n m e v xs} he h => by
              have h0 := own_set (o := 0) (u := .int .i64 s.k) h H2.out (fun x => he x.symm)
              have x0 := H2.out.set 0 (.int .i64 s.k)
              have h1 := own_set (o := 1) (u := .int .i64 s.n) h0 x0 (fun x => he x.symm)
              have x1 := x0.set 1 (.int .i64 s.n)
              have h2 := own_set (o := 2) (u := .int .i64 s.nx) h1 x1 (fun x => he x.symm)
              have x2 := x1.set 2 (.int .i64 s.nx)
              have h3 := own_set (o := 3) (u := .slice a0 s.sn.length c0) h2 x2 (fun x => he x.symm)
              have x3 := x2.set 3 (.slice a0 s.sn.length c0)
              have h4 := own_set (o := 4) (u := .slice AC L.length cC) h3 x3 (fun x => he x.symm)
              have x4 := x3.set 4 (.slice AC L.length cC)
              exact own_set (o := 5) (u := .slice AP L.length cP) h4 x4 (fun x => he x.symm)
            have HFIN : Hid (∃ W : World, W = (((((wr.setCell ⟨b + 1, 0, none⟩ (.int .i64 s.k)).setCell ⟨b + 1, 1, none⟩ (.int .i64 s.n)).setCell ⟨b + 1, 2, none⟩ (.int .i64 s.nx)).setCell ⟨b + 1, 3, none⟩ (.slice a0 s.sn.length c0)).setCell ⟨b + 1, 4, none⟩ (.slice AC L.length cC)).setCell ⟨b + 1, 5, none⟩ (.slice AP L.length cP) ∧ Has W (b + 1) #[.int .i64 s.k, .int .i64 s.n, .int .i64 s.nx, .slice a0 s.sn.length c0, .slice AC L.length cC, .slice AP L.length cP] 28 ∧ RowKit.Below w.heap.size w W ∧ Tx W AC (L.map Prod.fst) ∧ Ps W AP (L.map Prod.snd)) := hid (by
              refine ⟨_, rfl, hp6, hbn, ?_, ?_⟩
              · obtain ⟨A, cap, e, -, h⟩ := own_tx (keep6 (by decide) HR1.out)
                rw [List.length_map] at e
                cases e; exact h
              · obtain ⟨A, cap, e, -, h⟩ := own_ps (keep6 (by decide) HR2.out)
                rw [List.length_map] at e
                cases e; exact h)
            clear hp6 hbn keep6 HR1 HR2
            go_wp2_with fail
            obtain ⟨W, hW, h1, h2, h3, h4⟩ := HFIN.out
            rw [← hW]
            refine ret_state Try.results10 rfl rfl rfl h1 rfl ⟨_, by rw [HA.out]; rfl, fun _ => ⟨a0, AC, AP, c0, cC, cP, ?_, HS.out W h2, ?_, ?_⟩, fun h => absurd HA.out h, h2⟩
            · unfold stV droS droL; rw [HMM.out, ← HL.out]; simp
            · unfold droS droL; rw [HMM.out, ← HL.out]; exact h3
            · unfold droS droL; rw [HMM.out, ← HL.out]; exact h4
end Go.Proofs.Ytknddbmnciodaaa
