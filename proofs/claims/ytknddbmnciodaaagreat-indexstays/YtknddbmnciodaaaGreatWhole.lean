/- The chunks of all packs, put together, are all chunks: whole answers yes. -/
import Derived.Test.YtknddbmnciodaaaGreatZCalls
import Derived.Test.YtknddbmnciodaaaGreatLaws
import Derived.BigQuiet
namespace Go.Proofs.YtknddbmnciodaaaGreat
open Go.RowKit
open Ix
set_option linter.unusedVariables false
theorem getD_map {α β : Type} (f : α → β) {l : List α} {j : Nat} (h : j < l.length) (d : α) (e : β) : (l.map f).getD j e = f (l.getD j d) := by
  rw [List.getD_eq_getElem?_getD, List.getD_eq_getElem?_getD, List.getElem?_map, List.getElem?_eq_getElem h]; rfl
/-- what is known of what stands in a pack -/
structure OfF (s : St) (p : ByteArray) (l : List En) : Prop where
  err : ofE s.C s.P p = 0
  val : ofV s.C s.P p = l
  pos : 0 < l.length
  most : l.length ≤ 400
  found : ∀ j, j < l.length → findV s.C s.P (l.getD j k0).1 = ((l.getD j k0).2, 0) ∧ (l.getD j k0).2.pack = p
  rises : ∀ j, j + 1 < l.length → (l.getD j k0).2.at_ < (l.getD (j + 1) k0).2.at_
theorem of_facts {s : St} (hm : mayS s.C s.P = true) {p : ByteArray} (hp : p ∈ packsOf (s.C.zip s.P)) : OfF s p (ofs p (s.C.zip s.P)) := by
  obtain ⟨hl, hM⟩ := mayS_iff.1 hm
  have hpos := of_each hM hp
  refine ⟨?_, ?_, hpos, ?_, fun j hj => ?_, fun j hj => ?_⟩
  · unfold ofE; rw [if_pos hm, if_neg (by omega)]
  · unfold ofV; rw [if_pos hm]
  · have h1 := (ofs_is hM p).2.2
    have h2 : (inPack p (s.C.zip s.P)).length ≤ (s.C.zip s.P).length := by unfold inPack; exact List.length_filter_le _ _
    have h3 := hM.most
    omega
  · obtain ⟨h1, h2⟩ := of_found hM (get_of k0 hj)
    exact ⟨look_find hm h1, h2⟩
  · exact of_rises hM (get_of k0 (by omega)) (get_of k0 hj)
def whM8 (s : St) (a0 a1 a2 : Option Addr) (c0 c1 c2 g o nL c3 k : Nat) (p : ByteArray) (l : List En) : Nat → K
  | 31 => .v (.agg (stV s a0 a1 a2 c0 c1 c2))
  | 32 => .v (.slice (some ⟨g, o, none⟩) nL c3)
  | 33 => .v (.int .i64 (k : Int))
  | 34 => .v (.pointer (some ⟨g, o + k, none⟩))
  | 35 => .v (.string p)
  | 36 => .two l 0
  | 30 => .two l 0
  | 37 => .r1 l
  | 38 => .r2 l
  | 39 => .v (.int .i64 0)
  | 7 => .r1 l
  | 8 => .r2 l
  | 9 => .v (.int .i64 0)
  | _ => .v undef
def whM15 (s : St) (a0 a1 a2 : Option Addr) (c0 c1 c2 g7 o7 n c7 j : Nat) (x : ByteArray) (y : Pl) (lo : Nat) : Nat → K
  | 65 => .v (.agg (stV s a0 a1 a2 c0 c1 c2))
  | 66 => .v (.slice (some ⟨g7, o7, none⟩) n c7)
  | 67 => .v (.int .i64 (j : Int))
  | 68 => .v (.pointer (some ⟨g7, o7 + j, none⟩))
  | 69 => .v (.string x)
  | 70 => .v (.tuple #[.agg (pl3 y).toArray, .int .i64 0])
  | 64 => .v (.tuple #[.agg (pl3 y).toArray, .int .i64 0])
  | 71 => .v (.agg (pl3 y).toArray)
  | 72 => .v (.int .i64 0)
  | 11 => .box24 lo
  | 1000 => .fin24 y lo
  | _ => .v undef
theorem whok (s : St) (a0 a1 a2 : Option Addr) (c0 c1 c2 g7 o7 n c7 j : Nat) (x : ByteArray) (y : Pl) (lo : Nat) (d : Nat) : (whM15 s a0 a1 a2 c0 c1 c2 g7 o7 n c7 j x y lo d).ok24 y := by
  unfold whM15; split <;> first | trivial | rfl
set_option maxRecDepth 20000 in
set_option maxHeartbeats 16000000 in
theorem whole_any (s : St) (a0 a1 a2 : Option Addr) (c0 c1 c2 : Nat) (hm : mayS s.C s.P = true) (w : World) (hC : Tx w a1 s.C) (hP : Ps w a2 s.P) :
    Calls Tryz.prog 18 #[.agg (stV s a0 a1 a2 c0 c1 c2)] w fun e w' => e = .returned (.bool true) ∧ Below w.heap.size w w' := by
  obtain ⟨w1, hw1, hB, n1⟩ := box_state (w := w) s a0 a1 a2 c0 c1 c2
  obtain ⟨b, hb⟩ : ∃ b, b = w.heap.size := ⟨_, rfl⟩
  rw [← hb] at n1
  obtain ⟨hl, hM⟩ := mayS_iff.1 hm
  have hz : s.C.length ≤ 400 := by have := hM.most; rw [List.length_zip] at this; omega
  have HC4 : Hid (s.C.length ≤ 100000 ∧ s.P.length ≤ 100000) := hid ⟨by omega, by omega⟩
  have HC := hid (hC.below hB)
  have HP := hid (hP.below hB)
  have HB := hid hB
  have HN := hid n1
  have HM := hid hm
  have HS : Hid (ofSum (s.C.zip s.P) (packsOf (s.C.zip s.P)) = s.C.length) := hid (by rw [ofSum_all hM, List.length_zip]; omega)
  have HPL : Hid ((packsOf (s.C.zip s.P)).length ≤ 400) := hid (by have := packs_len (s.C.zip s.P); have := hM.most; omega)
  have C1 := packs_any s a0 a1 a2 c0 c1 c2 HC4.out.1 HC4.out.2 w1 HC.out HP.out
  rw [show packsE s.C s.P = 0 from by unfold packsE; rw [if_pos hm], show packsV s.C s.P = packsOf (s.C.zip s.P) from by unfold packsV; rw [if_pos hm]] at C1
  have HOF := hid (fun p (hp : p ∈ packsOf (s.C.zip s.P)) => of_facts hm hp)
  have HOS := hid (fun (k : Nat) (h : k < (packsOf (s.C.zip s.P)).length) => ofSum_take (M := s.C.zip s.P) (get_of ⟨#[]⟩ h))
  have HOL := hid (fun (k : Nat) => (show ofSum (s.C.zip s.P) ((packsOf (s.C.zip s.P)).take k) ≤ ofSum (s.C.zip s.P) (packsOf (s.C.zip s.P)) from by
    conv => rhs; rw [← List.take_append_drop k (packsOf (s.C.zip s.P))]
    unfold ofSum
    rw [List.map_append, List.sum_append]
    omega))
  generalize packsOf (s.C.zip s.P) = L at *
  generalize s.C.zip s.P = E at *
  have HK := hid (fun W (hW : Below w1.heap.size w1 W) => cells6 (HN.out.below hW HN.out.lt))
  obtain ⟨k0', k1, k2, k3, k4, k5⟩ := HK.out w1 (Below.refl _ _)
  clear hB n1 hC hP hm hl hM
  change w1 = w.alloc (.cells #[.int .i64 s.k, .int .i64 s.n, .int .i64 s.nx, .slice a0 s.sn.length c0, .slice a1 s.C.length c1, .slice a2 s.P.length c2] 35) at hw1
  show Calls Tryz.prog 18 #[.agg #[.int .i64 s.k, .int .i64 s.n, .int .i64 s.nx, .slice a0 s.sn.length c0, .slice a1 s.C.length c1, .slice a2 s.P.length c2]] w _
  change Calls Tryz.prog 13 #[.agg #[.int .i64 s.k, .int .i64 s.n, .int .i64 s.nx, .slice a0 s.sn.length c0, .slice a1 s.C.length c1, .slice a2 s.P.length c2]] w1 _ at C1
  obtain ⟨z, hzz⟩ : ∃ z, z = s.C.length := ⟨_, rfl⟩
  have HZ := hid hzz
  have hz4 : z ≤ 400 := by omega
  clear hzz hz
  go_enter Tryz.func18, Tryz.ntmps18
  go_upto_region 1 with fail
  rw [← hw1, ← hb]
  clear hw1 hb
  go_wp2_with fail
  refine C1.mono ?_
  rintro e w2 ⟨v, rfl, hown, b2⟩
  obtain ⟨A3, c3, rfl, -, hT⟩ := own_tx hown
  have HT3 := hid hT
  have B2 := hid b2
  have HB2 := hid (HB.out.trans (b2.mono HB.out.size))
  clear C1 hown hT b2 k0' k1 k2 k3 k4 k5
  obtain ⟨nL, hnL⟩ : ∃ n, n = L.length := ⟨_, rfl⟩
  have HNL := hid hnL
  have hL4 : nL ≤ 400 := by rw [hnL]; exact HPL.out
  rw [← hnL]
  clear hnL
  go_wp2_with fail
  go_loopw [5, 6, 7, 8, 9, 10, 11, 12] (fun v5 v6 _ _ _ _ _ _ wr => ∃ k m : Nat, k ≤ nL ∧ k ≤ 60 ∧ v6 = .int .i64 (k : Int) ∧ v5 = .int .i64 (m : Int) ∧ Hid (m = ofSum E (L.take k)) ∧ Hid (Below w2.heap.size w2 wr)) (fun _ v6 _ _ _ _ _ _ _ => 60 - (intOf v6).toNat)
  case atStart => exact ⟨0, 0, Nat.zero_le _, Nat.zero_le _, rfl, rfl, hid (by simp [ofSum]), hid (Below.refl _ _)⟩
  case round =>
    obtain ⟨k, m, hk, hk60, rfl, rfl, HSM, HX⟩ := hrel
    have hm4 : m ≤ 400 := by
      have h1 := HOL.out k
      have h2 := HS.out
      have h3 := HZ.out
      rw [HSM.out]; omega
    by_cases hgo : k < nL ∧ k < 60
    · obtain ⟨hlt, h60⟩ := hgo
      have i1 : (k : Int) < (nL : Int) := by omega
      have i2 : (k : Int) < 60 := by omega
      have i0 : (0 : Int) ≤ (k : Int) := by omega
      have wk : IntKind.i64.wrap ((k : Int) + 1) = ((k + 1 : Nat) : Int) := by rw [IntKind.wrap_i64]; omega
      have hlt' : k < L.length := by rw [← HNL.out]; exact hlt
      obtain ⟨g, o, rfl, hg, hc⟩ := tx_cell HT3.out HX.out hlt'
      have HG : Hid (g < wr.heap.size) := hid (Nat.lt_of_lt_of_le hg HX.out.size)
      have HBX := hid (B2.out.trans (HX.out.mono B2.out.size))
      obtain ⟨p, hp⟩ : ∃ p, p = L.getD k ⟨#[]⟩ := ⟨_, rfl⟩
      rw [← hp] at hc
      obtain ⟨l, hl⟩ : ∃ l, l = ofs p E := ⟨_, rfl⟩
      have HF : Hid (OfF s p l) := hid (by rw [hl]; exact HOF.out p (by rw [hp]; exact getD_mem hlt'))
      have HSN : Hid (m + l.length = ofSum E (L.take (k + 1))) := hid (by rw [HOS.out k hlt', ← hp, ← hl, HSM.out])
      clear hp hl hlt' hg
      go_wp2_with fail
      refine Tl.wp_mix_lit (by kernel_rfl) 13 [31, 32, 33, 34, 35, 36, 30, 37, 38, 39, 7, 8, 9] 117 rfl (by kernel_rfl) (fun W => Below wr.heap.size wr W) (fun d v W => KF (whM8 s a0 a1 a2 c0 c1 c2 g o nL c3 k p l d) v W) ((Below.refl _ _).drew)
        ⟨fun a' W' hC hF => ?_, fun a' W' hC hF => ?_, fun a' W' hC hF => ?_, fun a' W' hC hF => ?_, fun a' W' hC hF => ?_, fun a' W' hC hF => ?_, fun a' W' hC hF => ?_, fun a' W' hC hF => ?_, fun a' W' hC hF => ?_, fun a' W' hC hF => ?_, fun a' W' hC hF => ?_, fun a' W' hC hF => ?_, fun a' W' hC hF => ?_, trivial⟩ ?_
      · exact Tl.sm_v 31 _ rfl (Tl.wanted_none rfl) hC rfl (zn_load35 rfl ((hF 1 (by decide +kernel)).2 (by decide)) (HN.out.below (HBX.out.trans (hC.mono HBX.out.size)) HN.out.lt))
      · exact Tl.sm_v 32 _ rfl (Tl.wanted_none rfl) hC rfl (zn_move rfl ((hF 3 (by decide +kernel)).2 (by decide)))
      · exact Tl.sm_v 33 _ rfl (Tl.wanted_none rfl) hC rfl (zn_move rfl ((hF 6 (by decide +kernel)).2 (by decide)))
      · exact Tl.sm_v 34 _ rfl (Tl.wanted_none rfl) hC rfl (zn_ix29 rfl (show Act.eval a' (.tmp 32) = (.slice (some ⟨g, o, none⟩) nL c3) from ((hF 32 (by decide +kernel)).1 (by decide))) (show Act.eval a' (.tmp 33) = (.int .i64 (k : Int)) from ((hF 33 (by decide +kernel)).1 (by decide))) hlt)
      · exact Tl.sm_v 35 _ rfl (Tl.wanted_none rfl) hC rfl (zn_load9 rfl (show Act.eval a' (.tmp 34) = (.pointer (some ⟨g, o + k, none⟩)) from ((hF 34 (by decide +kernel)).1 (by decide))) ((hC.cell (p := ⟨g, o + k, none⟩) HG.out).trans hc))
      · refine Tl.sm_call 14 #[_, _] (Tl.wanted_none rfl) (zn_call2 rfl rfl (show Act.eval a' (.tmp 31) = (.agg (stV s a0 a1 a2 c0 c1 c2)) from ((hF 31 (by decide +kernel)).1 (by decide))) (show Act.eval a' (.tmp 35) = (.string p) from ((hF 35 (by decide +kernel)).1 (by decide))) (en14z _ _)) ((of_is p l 0 HF.out.err HF.out.val HC4.out.1 HC4.out.2 (HC.out.below (HBX.out.trans (hC.mono HBX.out.size))) (HP.out.below (HBX.out.trans (hC.mono HBX.out.size)))).mono ?_)
        rintro e W'' ⟨u, rfl, hs, hb⟩
        exact ⟨_, rfl, hC.trans (hb.mono hC.size), fun d v _ h => KF_mono hb h, fun d hd => by cases hd; exact hs⟩
      · exact Tl.sm_v 30 _ rfl (Tl.wanted_none rfl) hC ((hF 36 (by decide +kernel)).1 (by decide)) (zn_move rfl rfl)
      · obtain ⟨A1, A2, e1, e2, hu, h1, h2⟩ := ((hF 30 (by decide +kernel)).1 (by decide))
        exact Tl.sm_v 37 _ rfl (Tl.wanted_none rfl) hC ⟨A1, e1, rfl, h1⟩ (zn_et0 rfl hu)
      · obtain ⟨A1, A2, e1, e2, hu, h1, h2⟩ := ((hF 30 (by decide +kernel)).1 (by decide))
        exact Tl.sm_v 38 _ rfl (Tl.wanted_none rfl) hC ⟨A2, e2, rfl, h2⟩ (zn_et1 rfl hu)
      · obtain ⟨A1, A2, e1, e2, hu, h1, h2⟩ := ((hF 30 (by decide +kernel)).1 (by decide))
        exact Tl.sm_v 39 _ rfl (Tl.wanted_none rfl) hC rfl (zn_et2 rfl hu)
      · exact Tl.sm_v 7 _ rfl (Tl.wanted_none rfl) hC ((hF 37 (by decide +kernel)).1 (by decide)) (zn_assign rfl rfl)
      · exact Tl.sm_v 8 _ rfl (Tl.wanted_none rfl) hC ((hF 38 (by decide +kernel)).1 (by decide)) (zn_assign rfl rfl)
      · exact Tl.sm_v 9 _ rfl (Tl.wanted_none rfl) hC rfl (zn_assign rfl (show Act.eval a' (.tmp 39) = (.int .i64 0) from ((hF 39 (by decide +kernel)).1 (by decide))))
      intro v' w3 hC hv
      obtain ⟨A7, c7, e7, hT7⟩ := hv 7 (by decide)
      obtain ⟨A8, c8, e8, hP8⟩ := hv 8 (by decide)
      have e9 : v' 9 = .int .i64 0 := hv 9 (by decide)
      clear hv
      have HT7 := hid hT7
      have HP8 := hid hP8
      have HX3 := hid (HX.out.trans (hC.mono HX.out.size))
      have hc3 : w3.cell? ⟨g, o + k, none⟩ = some (.string p) := (hC.cell (p := ⟨g, o + k, none⟩) HG.out).trans hc
      have HCP := hid (fun W (hW : Below w3.heap.size w3 W) => (hW.cell (p := ⟨g, o + k, none⟩) (Nat.lt_of_lt_of_le HG.out hC.size)).trans hc3)
      clear hT7 hP8 hC hc hc3 HX HBX
      simp only [Tl.fill, List.drop]
      simp only [Act.put, List.setIfInBounds_toArray, List.set_cons_succ, List.set_cons_zero, e7, e8, e9]
      generalize v' 31 = z31
      generalize v' 32 = z32
      generalize v' 33 = z33
      generalize v' 34 = z34
      generalize v' 35 = z35
      generalize v' 36 = z36
      generalize v' 30 = z30
      generalize v' 37 = z37
      generalize v' 38 = z38
      generalize v' 39 = z39
      clear e7 e8 e9
      obtain ⟨n, hn⟩ : ∃ n, n = l.length := ⟨_, rfl⟩
      have HLN := hid hn
      have hn4 : n ≤ 400 := by rw [hn]; exact HF.out.most
      have hn0 : 0 < n := by rw [hn]; exact HF.out.pos
      rw [← hn]
      clear hn
      have q1 : ((n : Int) == 0) = false := by rw [beq_eq_false_iff_ne]; omega
      have q2 : ((n : Int) != (n : Int)) = false := by simp
      have wm : IntKind.i64.wrap ((m : Int) + (n : Int)) = ((m + n : Nat) : Int) := by rw [IntKind.wrap_i64]; omega
      rw [← HLN.out] at HSN
      go_wp2_with fail
      clear q1 q2
      go_loopw [10, 11, 12] (fun v10 _ _ wz => ∃ j : Nat, j ≤ n ∧ v10 = .int .i64 (j : Int) ∧ Hid (Below w3.heap.size w3 wz)) (fun v10 _ _ _ => n - (intOf v10).toNat)
      case atStart => exact ⟨0, Nat.zero_le _, rfl, hid (Below.refl _ _)⟩
      case round =>
        obtain ⟨j, hj, rfl, HZ3⟩ := hrel
        by_cases hlj : j < n
        · have j1 : (j : Int) < (n : Int) := by omega
          have j0 : (0 : Int) ≤ (j : Int) := by omega
          have wj : IntKind.i64.wrap ((j : Int) + 1) = ((j + 1 : Nat) : Int) := by rw [IntKind.wrap_i64]; omega
          have hl1 : j < l.length := by rw [← HLN.out]; exact hlj
          obtain ⟨g7, o7, rfl, hg7, hx7⟩ := tx_cell HT7.out HZ3.out (show j < (l.map Prod.fst).length by rw [List.length_map]; exact hl1)
          rw [getD_map Prod.fst hl1 k0] at hx7
          obtain ⟨g8, o8, rfl, hg8, hy0, hy1, hy2⟩ := ps_cell HP8.out HZ3.out (show j < (l.map Prod.snd).length by rw [List.length_map]; exact hl1)
          rw [getD_map Prod.snd hl1 k0] at hy0 hy1 hy2
          obtain ⟨hfd, hpk⟩ := HF.out.found j hl1
          have HPV : Hid (0 < j → ∀ W, Below w3.heap.size w3 W → ∃ u : Int, W.cell? ⟨g8, o8 + (j - 1) * 3 + 1, none⟩ = some (.int .i64 u) ∧ u < (l.getD j k0).2.at_) := hid (fun h0 W hW => by
            obtain ⟨g9, o9, e9, _, _, hu, _⟩ := ps_cell HP8.out hW (show j - 1 < (l.map Prod.snd).length by rw [List.length_map]; omega)
            rw [getD_map Prod.snd (show j - 1 < l.length by omega) k0] at hu
            have hr := HF.out.rises (j - 1) (by omega)
            rw [show j - 1 + 1 = j by omega] at hr
            injection e9 with e9
            injection e9 with e10 e11
            subst e10 e11
            exact ⟨_, hu, hr⟩)
          have HYC := hid (fun W (hW : Below w3.heap.size w3 W) => (show W.cell? ⟨g8, o8 + j * 3, none⟩ = some (.string (l.getD j k0).2.pack) ∧ W.cell? ⟨g8, o8 + j * 3 + 1, none⟩ = some (.int .i64 (l.getD j k0).2.at_) ∧ W.cell? ⟨g8, o8 + j * 3 + 2, none⟩ = some (.int .i64 (l.getD j k0).2.len) from by
            obtain ⟨g9, o9, e9, _, u0, u1, u2⟩ := ps_cell HP8.out hW (show j < (l.map Prod.snd).length by rw [List.length_map]; exact hl1)
            rw [getD_map Prod.snd hl1 k0] at u0 u1 u2
            injection e9 with e9
            injection e9 with e10 e11
            subst e10 e11
            exact ⟨u0, u1, u2⟩))
          generalize (l.getD j k0).1 = x at *
          generalize (l.getD j k0).2 = y at *
          have HFD := hid hfd
          have HPK := hid hpk
          have HG7 : Hid (g7 < wr.heap.size) := hid (Nat.lt_of_lt_of_le hg7 HZ3.out.size)
          have HG8 : Hid (g8 < w3.heap.size) := hid hg8
          have HBZ := hid ((B2.out.trans (HX3.out.mono B2.out.size)).trans (HZ3.out.mono (Nat.le_trans B2.out.size HX3.out.size)))
          clear hfd hpk hg7 hg8 hy0 hy1 hy2 hl1
          go_wp2_with fail
          refine Tl.wp_mixs_lit (by kernel_rfl) 11 [65, 66, 67, 68, 69, 70, 64, 71, 72, 11] 117 rfl (by kernel_rfl) (fun W => Below wr.heap.size wr W) (fun d v W => KF (whM15 s a0 a1 a2 c0 c1 c2 g7 o7 n c7 j x y wr.heap.size d) v W) 11 1000 (by decide) ((Below.refl _ _).drew)
            ⟨fun a' W' hC hF => ?_, fun a' W' hC hF => ?_, fun a' W' hC hF => ?_, fun a' W' hC hF => ?_, fun a' W' hC hF => ?_, fun a' W' hC hF => ?_, fun a' W' hC hF => ?_, fun a' W' hC hF => ?_, fun a' W' hC hF => ?_, fun a' W' hC hF => ?_, ⟨rfl, by decide +kernel, fun a' W' hC hF => ?_⟩, trivial⟩ ?_
          · exact Tl.sm_v 65 _ rfl (Tl.wanted_none rfl) hC rfl (zn_load35 rfl ((hF 1 (by decide +kernel)).2 (by decide)) (HN.out.below (HBZ.out.trans (hC.mono HBZ.out.size)) HN.out.lt))
          · exact Tl.sm_v 66 _ rfl (Tl.wanted_none rfl) hC rfl (zn_move rfl ((hF 7 (by decide +kernel)).2 (by decide)))
          · exact Tl.sm_v 67 _ rfl (Tl.wanted_none rfl) hC rfl (zn_move rfl ((hF 10 (by decide +kernel)).2 (by decide)))
          · exact Tl.sm_v 68 _ rfl (Tl.wanted_none rfl) hC rfl (zn_ix29 rfl (show Act.eval a' (.tmp 66) = (.slice (some ⟨g7, o7, none⟩) n c7) from ((hF 66 (by decide +kernel)).1 (by decide))) (show Act.eval a' (.tmp 67) = (.int .i64 (j : Int)) from ((hF 67 (by decide +kernel)).1 (by decide))) hlj)
          · exact Tl.sm_v 69 _ rfl (Tl.wanted_none rfl) hC rfl (zn_load9 rfl (show Act.eval a' (.tmp 68) = (.pointer (some ⟨g7, o7 + j, none⟩)) from ((hF 68 (by decide +kernel)).1 (by decide))) ((hC.cell (p := ⟨g7, o7 + j, none⟩) HG7.out).trans hx7))
          · refine Tl.sm_call 11 #[_, _] (Tl.wanted_none rfl) (zn_call2 rfl rfl (show Act.eval a' (.tmp 65) = (.agg (stV s a0 a1 a2 c0 c1 c2)) from ((hF 65 (by decide +kernel)).1 (by decide))) (show Act.eval a' (.tmp 69) = (.string x) from ((hF 69 (by decide +kernel)).1 (by decide))) (en11z _ _)) ((find_is x y 0 HFD.out HC4.out.1 HC4.out.2 (HC.out.below (HBZ.out.trans (hC.mono HBZ.out.size))) (HP.out.below (HBZ.out.trans (hC.mono HBZ.out.size)))).mono ?_)
            rintro e W'' ⟨rfl, hb⟩
            exact ⟨_, rfl, hC.trans (hb.mono hC.size), fun d v _ h => KF_mono hb h, fun d hd => by cases hd; rfl⟩
          · exact Tl.sm_v 64 _ rfl (Tl.wanted_none rfl) hC rfl (zn_move rfl (show Act.eval a' (.tmp 70) = (.tuple #[.agg (pl3 y).toArray, .int .i64 0]) from ((hF 70 (by decide +kernel)).1 (by decide))))
          · exact Tl.sm_v 71 _ rfl (Tl.wanted_none rfl) hC rfl (zn_ext0 rfl (show Act.eval a' (.tmp 64) = (.tuple #[.agg (pl3 y).toArray, .int .i64 0]) from ((hF 64 (by decide +kernel)).1 (by decide))))
          · exact Tl.sm_v 72 _ rfl (Tl.wanted_none rfl) hC rfl (zn_ext1 rfl (show Act.eval a' (.tmp 64) = (.tuple #[.agg (pl3 y).toArray, .int .i64 0]) from ((hF 64 (by decide +kernel)).1 (by decide))))
          · exact Tl.sm_w _ (Tl.wanted_none rfl) (zn_alloc24 rfl) (hC.alloc hC.size _) (fun d v _ h => KF_mono ((Below.refl _ _).alloc (Nat.le_refl _) _) h) (fun d hd => by cases hd; exact ⟨_, rfl, hC.size, _, _, _, Has.new _ _ _ _ rfl⟩)
          · obtain ⟨b, hb1, hlo, u0, u1, u2, hb⟩ := ((hF 11 (by decide +kernel)).1 (by decide))
            refine Tl.ss_w (zn_store24 (p := y) rfl ?_ ?_ hb) rfl ?_ ?_ ?_
            · exact hb1
            · exact ((hF 71 (by decide +kernel)).1 (by decide))
            · exact below_put3 hC hlo _ _ _
            · exact fun d v h => KF_put3 (whok s a0 a1 a2 c0 c1 c2 g7 o7 n c7 j x y wr.heap.size d) hb h
            · exact ⟨b, hb1, hlo, put3 hb _ _ _⟩
          intro v' w4 hC hv hS
          obtain ⟨b11, e11, -, hN⟩ := hS 10 (by decide) rfl
          have e72 : v' 72 = .int .i64 0 := hv 72 (by decide)
          clear hv hS
          have HZ4 := hid (HZ3.out.trans (hC.mono HZ3.out.size))
          clear hC HZ3 hx7
          simp only [Tl.fill, List.drop]
          simp only [Act.put, List.setIfInBounds_toArray, List.set_cons_succ, List.set_cons_zero, e11, e72]
          generalize v' 65 = z65
          generalize v' 66 = z66
          generalize v' 67 = z67
          generalize v' 68 = z68
          generalize v' 69 = z69
          generalize v' 70 = z70
          generalize v' 64 = z64
          generalize v' 71 = z71
          clear e11 e72
          obtain ⟨r0, r1, r2⟩ := cells3p hN
          obtain ⟨y0, y1, y2⟩ := HYC.out w4 HZ4.out
          have hcp := HCP.out w4 HZ4.out
          have hpk := HPK.out
          clear hN HYC HPK
          rw [← hpk] at hcp
          have hne : ∀ W, (binOp .neq 24 (.agg #[.string y.pack, .int .i64 y.at_, .int .i64 y.len]) (.agg #[.string y.pack, .int .i64 y.at_, .int .i64 y.len])).run Tryz.prog W = .ok (.bool false) W := fun W => neq37 W y
          have q1 := str_eq (rfl : y.pack = y.pack)
          clear hpk
          go_upto_region 16 with fail
          by_cases h0 : 0 < j
          · obtain ⟨u, hu, hlu⟩ := HPV.out h0 w4 HZ4.out
            have j2 : (0 : Int) < (j : Int) := by omega
            have wj1 : IntKind.i64.wrap ((j : Int) - 1) = ((j - 1 : Nat) : Int) := by rw [IntKind.wrap_i64]; omega
            have j3 : ((j - 1 : Nat) : Int) < (n : Int) := by omega
            have f7 : ¬ y.at_ ≤ u := by omega
            clear HPV HFD
            generalize y.pack = yp at *
            generalize y.at_ = ya at *
            generalize y.len = yl at *
            go_quiet (fail)
            go_wp2_with fail
            go_roundw
            case rel => exact ⟨j + 1, by omega, by rfl, hid (below_draws' HZ4.out _)⟩
            case measure => first | (simp [intOf]; done) | (simp [intOf]; omega)
          · have j2 : ¬ (0 : Int) < (j : Int) := by omega
            clear HPV HFD
            generalize y.pack = yp at *
            generalize y.at_ = ya at *
            generalize y.len = yl at *
            go_quiet (fail)
            go_wp2_with fail
            go_roundw
            case rel => exact ⟨j + 1, by omega, by rfl, hid (below_draws' HZ4.out _)⟩
            case measure => first | (simp [intOf]; done) | (simp [intOf]; omega)
        · obtain rfl : j = n := by omega
          have j1 : ¬ (j : Int) < (j : Int) := by omega
          have HX4 := hid (HX3.out.trans (HZ3.out.mono HX3.out.size))
          clear HZ3 HX3
          go_wp2_with fail
          go_roundw
          case rel => exact ⟨k + 1, m + j, by omega, by omega, by rfl, by rfl, HSN, HX4⟩
          case measure => first | (simp [intOf]; done) | (simp [intOf]; omega)
    · have HBX := hid (B2.out.trans (HX.out.mono B2.out.size))
      have HBW := hid (HB2.out.trans (HX.out.mono HB2.out.size))
      obtain ⟨k0', k1, k2, k3, k4, k5⟩ := HK.out wr HBX.out
      by_cases hlt : k < nL
      · obtain rfl : k = 60 := by omega
        have i1 : (60 : Int) < (nL : Int) := by omega
        rw [show ((60 : Nat) : Int) = 60 from rfl]
        clear k0' k1 k2 k3 k4 k5
        go_wp2_with fail
        go_ret
        exact ⟨rfl, HBW.out⟩
      · obtain rfl : k = nL := by omega
        have i1 : ¬ (k : Int) < (k : Int) := by omega
        have i2 : ¬ (60 : Int) < (k : Int) := by omega
        have hmz : m = s.C.length := by
          have h1 := HS.out
          rw [HSM.out, HNL.out, List.take_length]; exact h1
        have i3 : ((m : Int) == (s.C.length : Int)) = true := by rw [beq_iff_eq]; omega
        clear hmz k0' k1 k2 k3 k5
        go_wp2_with fail
        go_ret
        exact ⟨rfl, HBW.out⟩
end Go.Proofs.YtknddbmnciodaaaGreat
