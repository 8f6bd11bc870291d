/- The contract of the law's copy of packs, which spoils what it copies. -/
import Derived.Test.YtjhjolnflkekoaaDoorBackI
namespace Go.Proofs.YtjhjolnflkekoaaDoor
open Go.RowKit Go.Maps
open Pk
set_option linter.unusedVariables false
def bF (h0 hs g n cap i a b m : Nat) (A3 : Option Addr) (c3 ml : Nat) (P D : ByteArray) (xa xb xm : List Value) (d : Nat) (v : Value) (W : World) : Prop := match d with
  | 13 => v = .slice A3 ml c3
  | 14 => v = .slice (some ⟨g, 0, none⟩) n cap
  | 15 => v = .int .i64 (i : Int)
  | 16 => v = .pointer (some ⟨g, i * 4, none⟩)
  | 17 => v = .pointer (some ⟨g, i * 4, none⟩)
  | 18 => v = .string P
  | 19 => v = .slice (some ⟨g, 0, none⟩) n cap
  | 20 => v = .int .i64 (i : Int)
  | 21 => v = .pointer (some ⟨g, i * 4, none⟩)
  | 22 => v = .pointer (some ⟨g, i * 4 + 1, none⟩)
  | 23 => v = .string D
  | 24 => ∃ q, v = .slice (some ⟨q, 0, none⟩) 0 0 ∧ hs ≤ q ∧ Has W q #[] 9
  | 25 => v = .slice (some ⟨g, 0, none⟩) n cap
  | 26 => v = .int .i64 (i : Int)
  | 27 => v = .pointer (some ⟨g, i * 4, none⟩)
  | 28 => v = .pointer (some ⟨g, i * 4 + 2, none⟩)
  | 29 => v = .slice (some ⟨a, 0, none⟩) m m
  | 30 => ∃ A1 c1, v = .slice A1 m c1 ∧ W.ownsRow h0 9 1 (.slice A1 m c1) m xa
  | 31 => ∃ q, v = .slice (some ⟨q, 0, none⟩) 0 0 ∧ hs ≤ q ∧ Has W q #[] 42
  | 32 => v = .slice (some ⟨g, 0, none⟩) n cap
  | 33 => v = .int .i64 (i : Int)
  | 34 => v = .pointer (some ⟨g, i * 4, none⟩)
  | 35 => v = .pointer (some ⟨g, i * 4 + 3, none⟩)
  | 36 => v = .slice (some ⟨b, 0, none⟩) m m
  | 37 => ∃ A2 c2, v = .slice A2 m c2 ∧ W.ownsRow h0 42 3 (.slice A2 m c2) m xb
  | 38 => ∃ A1 c1 A2 c2, v = .agg #[.string P, .string D, .slice A1 m c1, .slice A2 m c2] ∧ W.ownsRow h0 9 1 (.slice A1 m c1) m xa ∧ W.ownsRow h0 42 3 (.slice A2 m c2) m xb
  | 39 => ∃ q A1 c1 A2 c2, v = .slice (some ⟨q, 0, none⟩) 1 1 ∧ hs ≤ q ∧ Has W q #[.string P, .string D, .slice A1 m c1, .slice A2 m c2] 34 ∧ W.ownsRow h0 9 1 (.slice A1 m c1) m xa ∧ W.ownsRow h0 42 3 (.slice A2 m c2) m xb
  | 40 => ∃ A4 c4 A1 c1 A2 c2, v = .slice A4 (ml + 1) c4 ∧ W.ownsRow h0 34 4 (.slice A4 (ml + 1) c4) (ml + 1) (xm ++ [.string P, .string D, .slice A1 m c1, .slice A2 m c2]) ∧ W.ownsRow h0 9 1 (.slice A1 m c1) m xa ∧ W.ownsRow h0 42 3 (.slice A2 m c2) m xb
  | _ => True
theorem bF_mono {h0 hs g n cap i a b m : Nat} {A3 : Option Addr} {c3 ml : Nat} {P D : ByteArray} {xa xb xm : List Value} {W W' : World} (hb : Below W.heap.size W W') (d : Nat) (v : Value) (h : bF h0 hs g n cap i a b m A3 c3 ml P D xa xb xm d v W) : bF h0 hs g n cap i a b m A3 c3 ml P D xa xb xm d v W' := by
  unfold bF at h ⊢
  split at h
  · exact h
  · exact h
  · exact h
  · exact h
  · exact h
  · exact h
  · exact h
  · exact h
  · exact h
  · exact h
  · exact h
  · obtain ⟨q, h1, h2, h3⟩ := h
    exact ⟨q, h1, h2, h3.below hb h3.lt⟩
  · exact h
  · exact h
  · exact h
  · exact h
  · exact h
  · obtain ⟨A1, c1, h1, h2⟩ := h
    exact ⟨A1, c1, h1, own_below h2 hb (Nat.le_refl _)⟩
  · obtain ⟨q, h1, h2, h3⟩ := h
    exact ⟨q, h1, h2, h3.below hb h3.lt⟩
  · exact h
  · exact h
  · exact h
  · exact h
  · exact h
  · obtain ⟨A1, c1, h1, h2⟩ := h
    exact ⟨A1, c1, h1, own_below h2 hb (Nat.le_refl _)⟩
  · obtain ⟨A1, c1, A2, c2, h1, h2, h3⟩ := h
    exact ⟨A1, c1, A2, c2, h1, own_below h2 hb (Nat.le_refl _), own_below h3 hb (Nat.le_refl _)⟩
  · obtain ⟨q, A1, c1, A2, c2, h1, h2, h3, h4, h5⟩ := h
    exact ⟨q, A1, c1, A2, c2, h1, h2, h3.below hb h3.lt, own_below h4 hb (Nat.le_refl _), own_below h5 hb (Nat.le_refl _)⟩
  · obtain ⟨A4, c4, A1, c1, A2, c2, h1, h2, h3, h4⟩ := h
    exact ⟨A4, c4, A1, c1, A2, c2, h1, own_below h2 hb (Nat.le_refl _), own_below h3 hb (Nat.le_refl _), own_below h4 hb (Nat.le_refl _)⟩
  · trivial
theorem bF_grow {h0 hs g n cap i a b m : Nat} {A3 : Option Addr} {c3 ml : Nat} {P D : ByteArray} {xa xb xm : List Value} {W W' : World} {v0 : Value} {k0 : Nat} {x0 : List Value} (hg : W.grownBy W' v0.ownBlock) (hr : W.ownsRow h0 34 4 v0 k0 x0) (hlt : ∀ j, v0.ownBlock = some j → j < hs) (d : Nat) (v : Value) (hd : d ≠ 40) (h : bF h0 hs g n cap i a b m A3 c3 ml P D xa xb xm d v W) : bF h0 hs g n cap i a b m A3 c3 ml P D xa xb xm d v W' := by
  unfold bF at h ⊢
  split at h
  · exact h
  · exact h
  · exact h
  · exact h
  · exact h
  · exact h
  · exact h
  · exact h
  · exact h
  · exact h
  · exact h
  · obtain ⟨q, h1, h2, h3⟩ := h
    exact ⟨q, h1, h2, h3.grown hg (own_has hr h3 (by decide))⟩
  · exact h
  · exact h
  · exact h
  · exact h
  · exact h
  · obtain ⟨A1, c1, h1, h2⟩ := h
    exact ⟨A1, c1, h1, h2.kept hg (own_own h2 hr (by decide))⟩
  · obtain ⟨q, h1, h2, h3⟩ := h
    exact ⟨q, h1, h2, h3.grown hg (own_has hr h3 (by decide))⟩
  · exact h
  · exact h
  · exact h
  · exact h
  · exact h
  · obtain ⟨A1, c1, h1, h2⟩ := h
    exact ⟨A1, c1, h1, h2.kept hg (own_own h2 hr (by decide))⟩
  · obtain ⟨A1, c1, A2, c2, h1, h2, h3⟩ := h
    exact ⟨A1, c1, A2, c2, h1, h2.kept hg (own_own h2 hr (by decide)), h3.kept hg (own_own h3 hr (by decide))⟩
  · obtain ⟨q, A1, c1, A2, c2, h1, h2, h3, h4, h5⟩ := h
    exact ⟨q, A1, c1, A2, c2, h1, h2, h3.grown hg (fun e => by have := hlt q e; omega), h4.kept hg (own_own h4 hr (by decide)), h5.kept hg (own_own h5 hr (by decide))⟩
  · exact absurd rfl hd
  · trivial
set_option maxRecDepth 20000 in
set_option maxHeartbeats 8000000 in
theorem back_any (L : List (List ByteArray × Nat × Nat)) (lo : Nat) (A : Option Addr) (cap : Nat) (w : World) (h : Pks w lo (.slice A L.length cap) L) (hlo : lo ≤ w.heap.size) (top : Nat) (htop : top ≤ w.heap.size) (hin : ∀ x ∈ L, x.2.1 < top ∧ x.2.2 < top) (hl : L.length ≤ 100000) (hp : ∀ x ∈ L, x.1.length ≤ 100000) :
    Calls Tryd.prog 12 #[.slice A L.length cap] w fun e w' => ∃ v M, e = .returned v ∧ Rks w' w.heap.size v M ∧ M.map (·.1) = L.map (·.1) ∧ Below lo w w' ∧ (∀ k, top ≤ k → k < w.heap.size → w'.heap[k]? = w.heap[k]?) := by
  obtain ⟨i0, hi, hz0, hz1, hz2⟩ := info_parts (show (Tryd.prog.info? 9).map (fun i => (i.zero, i.size, i.bytes)) = some (some (.string ⟨#[]⟩), 1, 16) by kernel_rfl)
  obtain ⟨j0, hj, hy0, hy1, hy2⟩ := info_parts (show (Tryd.prog.info? 42).map (fun i => (i.zero, i.size, i.bytes)) = some (some (.agg #[.string ⟨#[]⟩, .int .i64 0, .int .i64 0]), 3, 32) by kernel_rfl)
  obtain ⟨k0, hk0, hx0, hx1, hx2⟩ := info_parts (show (Tryd.prog.info? 34).map (fun i => (i.zero, i.size, i.bytes)) = some (some (.agg #[.string ⟨#[]⟩, .string ⟨#[]⟩, .slice none 0 0, .slice none 0 0]), 4, 80) by kernel_rfl)
  obtain ⟨n, hn⟩ : ∃ n, n = L.length := ⟨_, rfl⟩
  have HN := hid hn
  have HP := hid hp
  have HPw := hid h
  have HLts := hid hin
  have HTop := hid htop
  rw [← hn] at hl HPw ⊢
  have HG0 := hid (BI.start (top := top) HPw.out hlo)
  clear hn h hp hlo hin htop
  go_enter Tryd.func12, Tryd.ntmps12
  go_wp2_with fail
  go_loopw [3, 4, 5, 6] (fun v3 v4 _ _ wr => ∃ (i : Nat) (M : List (List ByteArray × Value × Value)), i ≤ n ∧ v4 = .int .i64 (i : Int) ∧ Hid (BI w lo top A n cap L i wr v3 M)) (fun _ v4 _ _ _ => n - (intOf v4).toNat)
  case atStart => exact ⟨0, [], Nat.zero_le _, rfl, HG0⟩
  case round =>
    clear HG0
    obtain ⟨i, M, hi9, rfl, HG⟩ := hrel
    generalize u3 = v3 at *
    obtain ⟨A3, c3, ev3⟩ := HG.out.pks.slice
    subst ev3
    by_cases hlt : i < n
    · obtain ⟨⟨p, a, b⟩, hx⟩ : ∃ x, L[i]? = some x := ⟨_, List.getElem?_eq_getElem (by rw [← HN.out]; exact hlt)⟩
      have HX := hid hx
      have hmx := List.mem_of_getElem? hx
      obtain ⟨g, eA, hlg, hgw, _, _, _, _⟩ := HPw.out.cells i _ hx
      subst eA
      have hm := HP.out _ hmx
      simp only at hm
      obtain ⟨m, hmm⟩ : ∃ m, m = p.length := ⟨_, rfl⟩
      have HMM := hid hmm
      rw [← hmm] at hm
      obtain ⟨P, hP⟩ : ∃ P, P = pb p := ⟨_, rfl⟩
      have HPP := hid hP
      obtain ⟨D, hD⟩ : ∃ D, D = dg (pb p) := ⟨_, rfl⟩
      have HDD := hid hD
      have HCl : Hid (∀ W : World, ∀ {v : Value} {k : Nat} {M : List (List ByteArray × Value × Value)}, BI w lo top (some ⟨g, 0, none⟩) n cap L k W v M → W.cell? ⟨g, i * 4, none⟩ = some (.string P) ∧ W.cell? ⟨g, i * 4 + 1, none⟩ = some (.string D) ∧ W.cell? ⟨g, i * 4 + 2, none⟩ = some (.slice (some ⟨a, 0, none⟩) m m) ∧ W.cell? ⟨g, i * 4 + 3, none⟩ = some (.slice (some ⟨b, 0, none⟩) m m)) := hid fun W v k M hB => by
        obtain ⟨g9, e9, _, _, c0, c1, c2, c3⟩ := pk_cells hB.row i _ HX.out
        cases e9
        rw [HPP.out, HDD.out, HMM.out]
        exact ⟨c0, c1, c2, c3⟩
      have HPk : Hid (∀ W : World, ∀ {v : Value} {M : List (List ByteArray × Value × Value)}, BI w lo top (some ⟨g, 0, none⟩) n cap L i W v M → PkAt W lo p a b) := hid fun W v M hB => hB.rest i _ (Nat.le_refl _) HX.out
      obtain ⟨haw, hbw⟩ := HLts.out _ hmx
      simp only at haw hbw
      have HAW := hid haw
      have HBW := hid hbw
      have HNe : Hid (∀ j x, i + 1 ≤ j → L[j]? = some x → (x.2.1 ≠ a ∧ x.2.2 ≠ a) ∧ (x.2.1 ≠ b ∧ x.2.2 ≠ b)) := hid fun j x hj hx => by
        obtain ⟨hj9, hxe⟩ := List.getElem?_eq_some_iff.1 hx
        obtain ⟨hi9, hye⟩ := List.getElem?_eq_some_iff.1 HX.out
        have hap := List.pairwise_iff_getElem.1 HPw.out.apart i j hi9 hj9 (by omega)
        rw [hxe, hye] at hap
        have h1 := HPw.out.each x (List.mem_of_getElem? hx)
        have h2 := HPw.out.each _ hmx
        exact ⟨⟨Nat.ne_of_gt hap.1, has_ne h1.hb h2.ha (by decide)⟩, ⟨has_ne h1.ha h2.hb (by decide), Nat.ne_of_gt hap.2⟩⟩
      have HML : Hid (m ≤ maxLen) := hid (by unfold maxLen; omega)
      have HMB : Hid (m * 16 ≤ 140737488355328) := hid (by omega)
      have HMB2 : Hid (m * 32 ≤ 140737488355328) := hid (by omega)
      have hMl := HG.out.len (by rw [← HN.out]; omega)
      have HML4 : Hid (M.length + 1 ≤ maxLen) := hid (by unfold maxLen; omega)
      have HMB4 : Hid ((M.length + 1) * 80 ≤ 140737488355328) := hid (by omega)
      have HNA : Hid (((p.map dg).map Value.string).length = m * 1) := hid (by simp [HMM.out])
      have HNB : Hid (((plT p).flatMap pl3).length = m * 3) := hid (by rw [flat_len pl3 3 (fun _ => rfl), plT_len, HMM.out])
      have HW0 : Hid (w.heap.size ≤ wr.heap.size) := hid HG.out.size
      have HLA : Hid (∀ j, (Value.slice A3 M.length c3).ownBlock = some j → j < wr.heap.size) := hid fun j hj => (HG.out.pks.row.lt j hj).2
      have hC0 : Hid (BI w lo top (some ⟨g, 0, none⟩) n cap L i wr.drew (.slice A3 M.length c3) M ∧ wr.heap.size ≤ wr.drew.heap.size) := hid ⟨HG.out.stay (Below.refl _ _).drew, Nat.le_refl _⟩
      have i1 : (i : Int) < (n : Int) := by omega
      have i00 : (0 : Int) ≤ (i : Int) := by omega
      have wi : IntKind.i64.wrap ((i : Int) + 1) = ((i + 1 : Nat) : Int) := by rw [IntKind.wrap_i64]; omega
      have hi1 : i + 1 ≤ n := hlt
      clear hx hmx hlg hgw hmm hP hD haw hbw hMl
      go_wp2_with fail
      refine Tl.wp_mix_lit (by kernel_rfl) 28 [13, 14, 15, 16, 17, 18, 19, 20, 21, 22, 23, 24, 25, 26, 27, 28, 29, 30, 31, 32, 33, 34, 35, 36, 37, 38, 39, 40] 77 rfl (by kernel_rfl) (fun W => BI w lo top (some ⟨g, 0, none⟩) n cap L i W (.slice A3 M.length c3) M ∧ wr.heap.size ≤ W.heap.size) (bF w.heap.size wr.heap.size g n cap i a b m A3 c3 M.length P D ((p.map dg).map Value.string) ((plT p).flatMap pl3) (M.flatMap rkC)) hC0.out
        ⟨fun a' W' hC hF => ?_, fun a' W' hC hF => ?_, fun a' W' hC hF => ?_, fun a' W' hC hF => ?_, fun a' W' hC hF => ?_, fun a' W' hC hF => ?_, fun a' W' hC hF => ?_, fun a' W' hC hF => ?_, fun a' W' hC hF => ?_, fun a' W' hC hF => ?_, fun a' W' hC hF => ?_, fun a' W' hC hF => ?_, fun a' W' hC hF => ?_, fun a' W' hC hF => ?_, fun a' W' hC hF => ?_, fun a' W' hC hF => ?_, fun a' W' hC hF => ?_, fun a' W' hC hF => ?_, fun a' W' hC hF => ?_, fun a' W' hC hF => ?_, fun a' W' hC hF => ?_, fun a' W' hC hF => ?_, fun a' W' hC hF => ?_, fun a' W' hC hF => ?_, fun a' W' hC hF => ?_, fun a' W' hC hF => ?_, fun a' W' hC hF => ?_, fun a' W' hC hF => ?_, trivial⟩ ?_
      · exact Tl.sm_v 13 _ rfl (Tl.wanted_none rfl) hC rfl (rn_move rfl ((hF 3 (by decide +kernel)).2 (by decide)))
      · exact Tl.sm_v 14 _ rfl (Tl.wanted_none rfl) hC rfl (rn_move rfl ((hF 0 (by decide +kernel)).2 (by decide)))
      · exact Tl.sm_v 15 _ rfl (Tl.wanted_none rfl) hC rfl (rn_move rfl ((hF 4 (by decide +kernel)).2 (by decide)))
      · exact Tl.sm_v 16 _ rfl (Tl.wanted_none rfl) hC rfl (rn_ix25 rfl (show Act.eval a' (.tmp 14) = .slice (some ⟨g, 0, none⟩) n cap from ((hF 14 (by decide +kernel)).1 (by decide))) (show Act.eval a' (.tmp 15) = .int .i64 (i : Int) from ((hF 15 (by decide +kernel)).1 (by decide))) hlt)
      · exact Tl.sm_v 17 _ rfl (Tl.wanted_none rfl) hC rfl (rn_fa39_0 rfl (show Act.eval a' (.tmp 16) = .pointer (some ⟨g, i * 4, none⟩) from ((hF 16 (by decide +kernel)).1 (by decide))))
      · exact Tl.sm_v 18 _ rfl (Tl.wanted_none rfl) hC rfl (rn_load9 rfl (show Act.eval a' (.tmp 17) = .pointer (some ⟨g, i * 4, none⟩) from ((hF 17 (by decide +kernel)).1 (by decide))) (HCl.out _ hC.1).1)
      · exact Tl.sm_v 19 _ rfl (Tl.wanted_none rfl) hC rfl (rn_move rfl ((hF 0 (by decide +kernel)).2 (by decide)))
      · exact Tl.sm_v 20 _ rfl (Tl.wanted_none rfl) hC rfl (rn_move rfl ((hF 4 (by decide +kernel)).2 (by decide)))
      · exact Tl.sm_v 21 _ rfl (Tl.wanted_none rfl) hC rfl (rn_ix25 rfl (show Act.eval a' (.tmp 19) = .slice (some ⟨g, 0, none⟩) n cap from ((hF 19 (by decide +kernel)).1 (by decide))) (show Act.eval a' (.tmp 20) = .int .i64 (i : Int) from ((hF 20 (by decide +kernel)).1 (by decide))) hlt)
      · exact Tl.sm_v 22 _ rfl (Tl.wanted_none rfl) hC rfl (rn_fa39_1 rfl (show Act.eval a' (.tmp 21) = .pointer (some ⟨g, i * 4, none⟩) from ((hF 21 (by decide +kernel)).1 (by decide))))
      · exact Tl.sm_v 23 _ rfl (Tl.wanted_none rfl) hC rfl (rn_load9 rfl (show Act.eval a' (.tmp 22) = .pointer (some ⟨g, i * 4 + 1, none⟩) from ((hF 22 (by decide +kernel)).1 (by decide))) (HCl.out _ hC.1).2.1)
      · refine Tl.sm_w _ (Tl.wanted_none rfl) (rn_bs0 rfl) ⟨hC.1.stay ((Below.refl _ _).alloc (Nat.le_refl _) _), Nat.le_trans hC.2 (by simp)⟩ (fun d v _ h => bF_mono ((Below.refl _ _).alloc (Nat.le_refl _) _) d v h) (fun d hd => ?_)
        cases hd
        exact ⟨W'.heap.size, rfl, hC.2, Has.new _ _ _ _ rfl⟩
      · exact Tl.sm_v 25 _ rfl (Tl.wanted_none rfl) hC rfl (rn_move rfl ((hF 0 (by decide +kernel)).2 (by decide)))
      · exact Tl.sm_v 26 _ rfl (Tl.wanted_none rfl) hC rfl (rn_move rfl ((hF 4 (by decide +kernel)).2 (by decide)))
      · exact Tl.sm_v 27 _ rfl (Tl.wanted_none rfl) hC rfl (rn_ix25 rfl (show Act.eval a' (.tmp 25) = .slice (some ⟨g, 0, none⟩) n cap from ((hF 25 (by decide +kernel)).1 (by decide))) (show Act.eval a' (.tmp 26) = .int .i64 (i : Int) from ((hF 26 (by decide +kernel)).1 (by decide))) hlt)
      · exact Tl.sm_v 28 _ rfl (Tl.wanted_none rfl) hC rfl (rn_fa39_2 rfl (show Act.eval a' (.tmp 27) = .pointer (some ⟨g, i * 4, none⟩) from ((hF 27 (by decide +kernel)).1 (by decide))))
      · exact Tl.sm_v 29 _ rfl (Tl.wanted_none rfl) hC rfl (rn_load22 rfl (show Act.eval a' (.tmp 28) = .pointer (some ⟨g, i * 4 + 2, none⟩) from ((hF 28 (by decide +kernel)).1 (by decide))) (HCl.out _ hC.1).2.2.1)
      · obtain ⟨q, e24, hq1, hq2⟩ := (show bF w.heap.size wr.heap.size g n cap i a b m A3 c3 M.length P D ((p.map dg).map Value.string) ((plT p).flatMap pl3) (M.flatMap rkC) 24 (a'.tmps.getD 24 undef) W' from ((hF 24 (by decide +kernel)).1 (by decide)))
        obtain ⟨v2, w2, hrun, hown, hbl⟩ := app_nil (P := Tryd.prog) (ty := 22) Tryd.underlying22 hi hz0 hz1 hz2 rfl hq2 (Nat.le_trans HW0.out hq1) ⟨a, 0, none⟩ m m ((p.map dg).map Value.string) HNA.out (fun j u hu => by rw [add_zero', (HPk.out _ hC.1).ha.cell]; simpa [sTx] using hu) HML.out HMB.out
        obtain ⟨A1, c1, ev2⟩ := own_slice hown
        subst ev2
        refine Tl.sm_w _ (Tl.wanted_none rfl) (rn_app22 rfl e24 (show Act.eval a' (.tmp 29) = .slice (some ⟨a, 0, none⟩) m m from ((hF 29 (by decide +kernel)).1 (by decide))) rfl hrun) ⟨hC.1.stay hbl, Nat.le_trans hC.2 hbl.size⟩ (fun d v _ h => bF_mono hbl d v h) (fun d hd => ?_)
        cases hd
        exact ⟨A1, c1, rfl, hown⟩
      · refine Tl.sm_w _ (Tl.wanted_none rfl) (rn_bs0p rfl) ⟨hC.1.stay ((Below.refl _ _).alloc (Nat.le_refl _) _), Nat.le_trans hC.2 (by simp)⟩ (fun d v _ h => bF_mono ((Below.refl _ _).alloc (Nat.le_refl _) _) d v h) (fun d hd => ?_)
        cases hd
        exact ⟨W'.heap.size, rfl, hC.2, Has.new _ _ _ _ rfl⟩
      · exact Tl.sm_v 32 _ rfl (Tl.wanted_none rfl) hC rfl (rn_move rfl ((hF 0 (by decide +kernel)).2 (by decide)))
      · exact Tl.sm_v 33 _ rfl (Tl.wanted_none rfl) hC rfl (rn_move rfl ((hF 4 (by decide +kernel)).2 (by decide)))
      · exact Tl.sm_v 34 _ rfl (Tl.wanted_none rfl) hC rfl (rn_ix25 rfl (show Act.eval a' (.tmp 32) = .slice (some ⟨g, 0, none⟩) n cap from ((hF 32 (by decide +kernel)).1 (by decide))) (show Act.eval a' (.tmp 33) = .int .i64 (i : Int) from ((hF 33 (by decide +kernel)).1 (by decide))) hlt)
      · exact Tl.sm_v 35 _ rfl (Tl.wanted_none rfl) hC rfl (rn_fa39_3 rfl (show Act.eval a' (.tmp 34) = .pointer (some ⟨g, i * 4, none⟩) from ((hF 34 (by decide +kernel)).1 (by decide))))
      · exact Tl.sm_v 36 _ rfl (Tl.wanted_none rfl) hC rfl (rn_load32 rfl (show Act.eval a' (.tmp 35) = .pointer (some ⟨g, i * 4 + 3, none⟩) from ((hF 35 (by decide +kernel)).1 (by decide))) (HCl.out _ hC.1).2.2.2)
      · obtain ⟨q, e31, hq1, hq2⟩ := (show bF w.heap.size wr.heap.size g n cap i a b m A3 c3 M.length P D ((p.map dg).map Value.string) ((plT p).flatMap pl3) (M.flatMap rkC) 31 (a'.tmps.getD 31 undef) W' from ((hF 31 (by decide +kernel)).1 (by decide)))
        obtain ⟨v2, w2, hrun, hown, hbl⟩ := app_nil (P := Tryd.prog) (ty := 32) Tryd.underlying32 hj hy0 hy1 hy2 rfl hq2 (Nat.le_trans HW0.out hq1) ⟨b, 0, none⟩ m m ((plT p).flatMap pl3) HNB.out (fun j u hu => by rw [add_zero', (HPk.out _ hC.1).hb.cell]; simpa [tC] using hu) HML.out HMB2.out
        obtain ⟨A2, c2, ev2⟩ := own_slice hown
        subst ev2
        refine Tl.sm_w _ (Tl.wanted_none rfl) (rn_app32 rfl e31 (show Act.eval a' (.tmp 36) = .slice (some ⟨b, 0, none⟩) m m from ((hF 36 (by decide +kernel)).1 (by decide))) rfl hrun) ⟨hC.1.stay hbl, Nat.le_trans hC.2 hbl.size⟩ (fun d v _ h => bF_mono hbl d v h) (fun d hd => ?_)
        cases hd
        exact ⟨A2, c2, rfl, hown⟩
      · obtain ⟨A1, c1, e30, r1⟩ := (show bF w.heap.size wr.heap.size g n cap i a b m A3 c3 M.length P D ((p.map dg).map Value.string) ((plT p).flatMap pl3) (M.flatMap rkC) 30 (a'.tmps.getD 30 undef) W' from ((hF 30 (by decide +kernel)).1 (by decide)))
        obtain ⟨A2, c2, e37, r2⟩ := (show bF w.heap.size wr.heap.size g n cap i a b m A3 c3 M.length P D ((p.map dg).map Value.string) ((plT p).flatMap pl3) (M.flatMap rkC) 37 (a'.tmps.getD 37 undef) W' from ((hF 37 (by decide +kernel)).1 (by decide)))
        refine Tl.sm_w (.agg #[.string P, .string D, .slice A1 m c1, .slice A2 m c2]) (Tl.wanted_none rfl) (rn_bd34 rfl (show Act.eval a' (.tmp 18) = .string P from ((hF 18 (by decide +kernel)).1 (by decide))) (show Act.eval a' (.tmp 23) = .string D from ((hF 23 (by decide +kernel)).1 (by decide))) e30 e37) hC (fun d v _ h => h) (fun d hd => ?_)
        cases hd
        exact ⟨A1, c1, A2, c2, rfl, r1, r2⟩
      · obtain ⟨A1, c1, A2, c2, e38, r1, r2⟩ := (show bF w.heap.size wr.heap.size g n cap i a b m A3 c3 M.length P D ((p.map dg).map Value.string) ((plT p).flatMap pl3) (M.flatMap rkC) 38 (a'.tmps.getD 38 undef) W' from ((hF 38 (by decide +kernel)).1 (by decide)))
        refine Tl.sm_w _ (Tl.wanted_none rfl) (rn_bs29 rfl e38) ⟨hC.1.stay ((Below.refl _ _).alloc (Nat.le_refl _) _), Nat.le_trans hC.2 (by simp)⟩ (fun d v _ h => bF_mono ((Below.refl _ _).alloc (Nat.le_refl _) _) d v h) (fun d hd => ?_)
        cases hd
        exact ⟨W'.heap.size, A1, c1, A2, c2, rfl, hC.2, Has.new _ _ _ _ rfl, r1.alloc _, r2.alloc _⟩
      · obtain ⟨q, A1, c1, A2, c2, e39, hq1, hq2, r1, r2⟩ := (show bF w.heap.size wr.heap.size g n cap i a b m A3 c3 M.length P D ((p.map dg).map Value.string) ((plT p).flatMap pl3) (M.flatMap rkC) 39 (a'.tmps.getD 39 undef) W' from ((hF 39 (by decide +kernel)).1 (by decide)))
        obtain ⟨v2, w2, hrun, hown, hgr, hkeep⟩ := run_append_keep (P := Tryd.prog) W' w.heap.size 29 29 34 k0 (.agg #[.string ⟨#[]⟩, .string ⟨#[]⟩, .slice none 0 0, .slice none 0 0]) 4 80 Tryd.underlying29 hk0 hx0 hx1 hx2 rfl (by decide) (.slice A3 M.length c3) M.length (M.flatMap rkC) hC.1.pks.row ⟨q, 0, none⟩ 1 1 [.string P, .string D, .slice A1 m c1, .slice A2 m c2] rfl (fun j u hu => by rw [add_zero', hq2.cell]; simpa using hu) (by simp [Value.oneCell']) HML4.out HMB4.out hC.1.size
        obtain ⟨A4, c4, ev2⟩ := own_slice hown
        subst ev2
        refine Tl.sm_w _ (Tl.wanted_none rfl) (rn_app29 rfl (show Act.eval a' (.tmp 13) = .slice A3 M.length c3 from ((hF 13 (by decide +kernel)).1 (by decide))) e39 rfl hrun) ⟨hC.1.grow hgr hkeep, Nat.le_trans hC.2 hgr.size⟩ (fun d v hd h => bF_grow hgr hC.1.pks.row HLA.out d v (fun e => hd (by rw [e])) h) (fun d hd => ?_)
        cases hd
        exact ⟨A4, c4, A1, c1, A2, c2, rfl, hown, r1.kept hgr (own_own r1 hC.1.pks.row (by decide)), r2.kept hgr (own_own r2 hC.1.pks.row (by decide))⟩
      intro v' w3 hC hv
      obtain ⟨A4, c4, A1, c1, A2, c2, e40, r34, rA, rB⟩ := (show bF w.heap.size wr.heap.size g n cap i a b m A3 c3 M.length P D ((p.map dg).map Value.string) ((plT p).flatMap pl3) (M.flatMap rkC) 40 (v' 40) w3 from hv 40 (by decide))
      clear hv
      simp only [Tl.fill, List.drop]
      simp only [Act.put, List.setIfInBounds_toArray, List.set_cons_succ, List.set_cons_zero, e40]
      have HG1 : Hid (BI w lo top (some ⟨g, 0, none⟩) n cap L (i + 1) w3 (.slice A4 (M.length + 1) c4) (M ++ [(p, .slice A1 m c1, .slice A2 m c2)])) := hid (hC.1.next HX.out (by rw [HPP.out, HDD.out] at r34; exact r34) (own_n rA HMM.out) (own_n rB HMM.out))
      have hpk := HPk.out _ hC.1
      have HAa : Hid (∃ cs : Array Value, Has w3 a cs 9 ∧ cs.size = m) := hid ⟨_, hpk.ha, by simp [sTx, HMM.out]⟩
      have HBb : Hid (∃ cs : Array Value, Has w3 b cs 42 ∧ cs.size = m * 3) := hid ⟨_, hpk.hb, by rw [tC_size, plT_len, HMM.out]⟩
      have HLo := hid (And.intro hpk.la hpk.lb)
      generalize (M ++ [(p, Value.slice A1 m c1, Value.slice A2 m c2)]) = M' at *
      generalize M.length + 1 = z at *
      clear hC r34 rA rB hpk HPk HPP HDD HW0 HLA hC0 HML HMB HMB2 HML4 HMB4 HNA HNB e40 HG
      go_wp2_with fail
      go_loopw [5] (fun v5 wr => ∃ (k : Nat), k ≤ m ∧ v5 = .int .i64 (k : Int) ∧ Hid (BI w lo top (some ⟨g, 0, none⟩) n cap L (i + 1) wr (.slice A4 z c4) M') ∧ Hid (∃ cs : Array Value, Has wr a cs 9 ∧ cs.size = m) ∧ Hid (∃ cs : Array Value, Has wr b cs 42 ∧ cs.size = m * 3)) (fun v5 _ => m - (intOf v5).toNat)
      case atStart => exact ⟨0, Nat.zero_le _, rfl, HG1, HAa, HBb⟩
      case round =>
        clear HG1 HAa HBb
        obtain ⟨k, hk, rfl, HG, HA, HB⟩ := hrel
        obtain ⟨_, _, t2, t3⟩ := HCl.out _ HG.out
        by_cases hkm : k < m
        · obtain ⟨cs, hcs, hcz⟩ := HA.out
          have c4 := hcs.cell k
          rw [Array.getElem?_eq_getElem (by omega)] at c4
          have f4 := hcs.frozen k
          have HN1 := hid (HG.out.spoil (o := k) (u := .string ⟨#[115, 112, 111, 105, 108, 116]⟩) hcs (by decide) HLo.out.1 HAW.out HTop.out (fun j x hj hx => (HNe.out j x hj hx).1))
          have HN2 : Hid (∃ cs : Array Value, Has (wr.setCell ⟨a, k, none⟩ (.string ⟨#[115, 112, 111, 105, 108, 116]⟩)) a cs 9 ∧ cs.size = m) := hid ⟨_, hcs.set k _, by simp [hcz]⟩
          have HN3 : Hid (∃ cs : Array Value, Has (wr.setCell ⟨a, k, none⟩ (.string ⟨#[115, 112, 111, 105, 108, 116]⟩)) b cs 42 ∧ cs.size = m * 3) := hid (by
            obtain ⟨ds, hds, hdz⟩ := HB.out
            exact ⟨ds, hds.other _ _ (has_ne hds hcs (by decide)), hdz⟩)
          generalize cs[k] = uo at *
          have j1 : (k : Int) < (m : Int) := by omega
          have j0 : (0 : Int) ≤ (k : Int) := by omega
          have wk : IntKind.i64.wrap ((k : Int) + 1) = ((k + 1 : Nat) : Int) := by rw [IntKind.wrap_i64]; omega
          have hk1 : k + 1 ≤ m := hkm
          clear hcs hcz HG HA HB
          go_wp2_with fail
          go_roundw
          case rel => exact ⟨k + 1, hk1, by rfl, HN1, HN2, HN3⟩
          case measure => first | (simp [intOf]; done) | (simp [intOf]; omega)
        · obtain rfl : m = k := by omega
          have j1 : ¬ ((m : Int) < (m : Int)) := by omega
          generalize wr = w4 at *
          go_wp2_with fail
          clear t2 t3
          go_loopw [6] (fun v6 wr => ∃ (k : Nat), k ≤ m ∧ v6 = .int .i64 (k : Int) ∧ Hid (BI w lo top (some ⟨g, 0, none⟩) n cap L (i + 1) wr (.slice A4 z c4) M') ∧ Hid (∃ cs : Array Value, Has wr b cs 42 ∧ cs.size = m * 3)) (fun v6 _ => m - (intOf v6).toNat)
          case atStart => exact ⟨0, Nat.zero_le _, rfl, HG, HB⟩
          case round =>
            clear HG HA HB
            obtain ⟨k, hk, rfl, HG, HB⟩ := hrel
            obtain ⟨_, _, t2, t3⟩ := HCl.out _ HG.out
            by_cases hkm : k < m
            · obtain ⟨cs, hcs, hcz⟩ := HB.out
              have c4 := hcs.cell (k * 3 + 1)
              rw [Array.getElem?_eq_getElem (by omega)] at c4
              have f4 := hcs.frozen (k * 3 + 1)
              have HN1 := hid (HG.out.spoil (o := k * 3 + 1) (u := .int .i64 (-7)) hcs (by decide) HLo.out.2 HBW.out HTop.out (fun j x hj hx => (HNe.out j x hj hx).2))
              have HN3 : Hid (∃ cs : Array Value, Has (wr.setCell ⟨b, k * 3 + 1, none⟩ (.int .i64 (-7))) b cs 42 ∧ cs.size = m * 3) := hid ⟨_, hcs.set (k * 3 + 1) _, by simp [hcz]⟩
              generalize cs[k * 3 + 1] = uo at *
              have j1 : (k : Int) < (m : Int) := by omega
              have j0 : (0 : Int) ≤ (k : Int) := by omega
              have wk : IntKind.i64.wrap ((k : Int) + 1) = ((k + 1 : Nat) : Int) := by rw [IntKind.wrap_i64]; omega
              have hk1 : k + 1 ≤ m := hkm
              clear hcs hcz HG HB
              go_wp2_with fail
              go_roundw
              case rel => exact ⟨k + 1, hk1, by rfl, HN1, HN3⟩
              case measure => first | (simp [intOf]; done) | (simp [intOf]; omega)
            · obtain rfl : m = k := by omega
              have j1 : ¬ ((m : Int) < (m : Int)) := by omega
              generalize wr = w5 at *
              go_wp2_with fail
              go_roundw
              case rel => exact ⟨i + 1, M', hi1, by rfl, HG⟩
              case measure => first | (simp [intOf]; done) | (simp [intOf]; omega)
    · obtain rfl : n = i := by omega
      have i1 : ¬ ((n : Int) < (n : Int)) := by omega
      have HF : Hid (M.map (·.1) = L.map (·.1)) := hid (by rw [HG.out.come, HN.out, List.take_length])
      generalize M.length = z at *
      go_wp2_with fail
      go_ret
      first
        | exact ⟨_, M, rfl, HG.out.pks, HF.out, HG.out.below, HG.out.kept⟩
        | exact ⟨_, rfl, M, HG.out.pks, HF.out, HG.out.below, HG.out.kept⟩
end Go.Proofs.YtjhjolnflkekoaaDoor
