/- The contract of the program's with: a state whose chunks are these. -/
import Derived.Test.YtknddbmnciodaaaGreatPiece
namespace Go.Proofs.YtknddbmnciodaaaGreat
open Go.RowKit Go.Lib Go.Sort
open Ix
set_option linter.unusedVariables false
/-- a state in new memory: v is its value -/
structure NewSt (w : World) (v : Array Value) (s : St) (W : World) : Prop where
  rows : ∃ g0 g1 g2, v = stV s (some ⟨g0, 0, none⟩) (some ⟨g1, 0, none⟩) (some ⟨g2, 0, none⟩) s.sn.length s.C.length s.P.length ∧ w.heap.size ≤ g0 ∧ w.heap.size ≤ g1 ∧ w.heap.size ≤ g2 ∧ Has W g0 (nC s.sn) 41 ∧ Has W g1 (sTx s.C) 9 ∧ Has W g2 (pC s.P) 24
  below : RowKit.Below w.heap.size w W
theorem nC_cells {W : World} {b : Nat} {L : List Snp} {t : TypeId} (h : Has W b (nC L) t) (k : Nat) (hk : k < L.length) :
    W.cell? ⟨b, k * 3, none⟩ = some (.int .i64 (L.getD k default).id) ∧ W.cell? ⟨b, k * 3 + 1, none⟩ = some (.int .i64 (L.getD k default).time) ∧ W.cell? ⟨b, k * 3 + 2, none⟩ = some (.string (L.getD k default).root) := by
  have f := has_rw (f := sn3) (m := 3) (fun _ => rfl) h k _ (get_of default hk)
  exact ⟨(f 0 _ rfl).1, (f 1 _ rfl).1, (f 2 _ rfl).1⟩
theorem nC_put {W : World} {b : Nat} {L : List Snp} {t : TypeId} (h : Has W b (nC L) t) (k : Nat) (hk : k < L.length) (y : Snp) :
    Has (((W.setCell ⟨b, k * 3, none⟩ (.int .i64 y.id)).setCell ⟨b, k * 3 + 1, none⟩ (.int .i64 y.time)).setCell ⟨b, k * 3 + 2, none⟩ (.string y.root)) b (nC (L.set k y)) t :=
  has_set3 sn3 3 (fun _ => rfl) h hk y
set_option maxHeartbeats 8000000 in
theorem with_any (s : St) (L : List En) (a0 a1 a2 A : Option Addr) (c0 c1 c2 c : Nat) (hn : L.length ≤ 100000) (hn2 : s.sn.length ≤ 100000) (hs : ∀ e ∈ L, e.1.size ≤ 1000000 ∧ e.2.pack.size ≤ 1000000) (hr : ∀ x ∈ s.sn, x.root.size ≤ 281474976710656) (w : World) (hS : Sn w a0 s.sn) (hL : Ks w A L) :
    Calls Tryz.prog 25 #[.agg (stV s a0 a1 a2 c0 c1 c2), .slice A L.length c] w fun e w' => ∃ v, e = .returned (.agg v) ∧ NewSt w v { s with C := L.map Prod.fst, P := L.map Prod.snd } w' := by
  have mk1 := fun W => makes_snaps s.sn.length (by omega) W
  obtain ⟨w1, hw1⟩ : ∃ w1, w1 = (w.alloc (.cells (stV s a0 a1 a2 c0 c1 c2) 35)).alloc (.cells stZ 35) := ⟨_, rfl⟩
  have hB1 : RowKit.Below w.heap.size w w1 := by rw [hw1]; exact ((RowKit.Below.refl _ w).alloc (Nat.le_refl _) _).alloc (by simp) _
  obtain ⟨b, hb⟩ : ∃ b, b = w.heap.size := ⟨_, rfl⟩
  have n1 : Has w1 b (stV s a0 a1 a2 c0 c1 c2) 35 := by rw [hw1]; exact (Has.new w _ _ _ hb).alloc _
  have n2 : Has w1 (b + 1) stZ 35 := by rw [hw1]; exact Has.new _ _ _ _ (by simp [hb])
  have n3 : w1.heap.size = b + 2 := by rw [hw1, hb]; simp
  obtain ⟨w2, hw2⟩ : ∃ w2, w2 = w1.alloc (.cells (nC (List.replicate s.sn.length s0)) 41) := ⟨_, rfl⟩
  have hB2 : RowKit.Below w1.heap.size w1 w2 := by rw [hw2]; exact (RowKit.Below.refl _ _).alloc (Nat.le_refl _) _
  have m1 := n1.below hB2 n1.lt
  have m2 := n2.below hB2 n2.lt
  have m3 : Has w2 (b + 2) (nC (upTo s.sn s0 0)) 41 := by rw [hw2, upTo_zero]; exact Has.new _ _ _ _ n3.symm
  have HB := hid (hB1.trans (hB2.mono hB1.size))
  have HBW := hid hb
  have HM1 := hid m1
  have HM2 := hid m2
  have HM3 := hid m3
  have HS := hid hS
  have HL := hid hL
  have HR := hid hr
  have k2 : w1.cell? ⟨b, 3, none⟩ = some (.slice a0 s.sn.length c0) := by rw [n1.cell]; rfl
  have l2 : w2.cell? ⟨b, 3, none⟩ = some (.slice a0 s.sn.length c0) := by rw [m1.cell]; rfl
  have HC := hid (fun W (hW : RowKit.Below w.heap.size w W) => apiece_any L A c hn hs W (hL.below hW))
  clear n1 n2 m1 m2 m3 hB1 hB2 hS hL hr
  change w1 = (w.alloc (.cells #[.int .i64 s.k, .int .i64 s.n, .int .i64 s.nx, .slice a0 s.sn.length c0, .slice a1 s.C.length c1, .slice a2 s.P.length c2] 35)).alloc (.cells #[.int .i64 0, .int .i64 0, .int .i64 0, .slice none 0 0, .slice none 0 0, .slice none 0 0] 35) at hw1
  show Calls Tryz.prog 25 #[.agg #[.int .i64 s.k, .int .i64 s.n, .int .i64 s.nx, .slice a0 s.sn.length c0, .slice a1 s.C.length c1, .slice a2 s.P.length c2], .slice A L.length c] w _
  generalize hm : s.sn.length = m at *
  have HMM := hid hm
  clear hm
  go_enter Tryz.func25, Tryz.ntmps25
  go_upto_region 1 with fail
  rw [← hw1, ← hb]
  clear hw1 hb
  have mk := mk1 w1
  rw [← hw2, n3] at mk
  clear mk1 hw2 n3
  go_wp2_with fail
  go_loopw [15] (fun v15 wr => ∃ k : Nat, k ≤ m ∧ v15 = .int .i64 (k : Int) ∧ Hid (Has wr b (stV s a0 a1 a2 c0 c1 c2) 35) ∧ Hid (Has wr (b + 1) stZ 35) ∧ Hid (Has wr (b + 2) (nC (upTo s.sn s0 k)) 41) ∧ Hid (RowKit.Below w.heap.size w wr)) (fun v15 _ => m - (intOf v15).toNat)
  case atStart => exact ⟨0, Nat.zero_le _, rfl, HM1, HM2, HM3, HB⟩
  case round =>
    clear HM1 HM2 HM3 HB mk k2 l2
    obtain ⟨k, hk, rfl, H1, H2, H3, HB⟩ := hrel
    by_cases hlt : k < m
    · have hlt1 : k < s.sn.length := by rw [HMM.out]; exact hlt
      have k3 : wr.cell? ⟨b, 3, none⟩ = some (.slice a0 m c0) := by rw [H1.out.cell]; unfold stV; rw [HMM.out]; rfl
      obtain ⟨g, o, rfl, hg, e1, e2, e3⟩ := sn_cell HS.out HB.out hlt1
      have hrx := HR.out _ (by rw [List.getD_eq_getElem?_getD, List.getElem?_eq_getElem hlt1]; exact List.getElem_mem hlt1 : s.sn.getD k default ∈ s.sn)
      have HX := hid (get_of (default : Snp) hlt1)
      obtain ⟨x, hx⟩ : ∃ x, x = s.sn.getD k default := ⟨_, rfl⟩
      rw [← hx] at e1 e2 e3 hrx HX
      clear hx
      have j1 : (k : Int) < (m : Int) := by omega
      have j0 : (0 : Int) ≤ (k : Int) := by omega
      have wk : IntKind.i64.wrap ((k : Int) + 1) = ((k + 1 : Nat) : Int) := by rw [IntKind.wrap_i64]; omega
      have C1 := fun W => clone_any x.root W hrx
      obtain ⟨w3, hw3⟩ : ∃ w3, w3 = wr.alloc (.cells #[.int .i64 x.id, .int .i64 x.time, .string x.root] 41) := ⟨_, rfl⟩
      obtain ⟨q, hq⟩ : ∃ q, q = wr.heap.size := ⟨_, rfl⟩
      have hb3 : RowKit.Below wr.heap.size wr w3 := by rw [hw3]; exact (RowKit.Below.refl _ _).alloc (Nat.le_refl _) _
      have n3 : Has w3 q #[.int .i64 x.id, .int .i64 x.time, .string x.root] 41 := by rw [hw3]; exact Has.new _ _ _ _ hq
      have d3 : w3.cell? ⟨q, 2, none⟩ = some (.string x.root) := by rw [n3.cell]; rfl
      have H1' := hid (H1.out.below hb3 H1.out.lt)
      have H2' := hid (H2.out.below hb3 H2.out.lt)
      have H3' := hid (H3.out.below hb3 H3.out.lt)
      have HB' := hid (HB.out.trans (hb3.mono HB.out.size))
      have hqb : b + 2 < q := by rw [hq]; exact H3.out.lt
      have HN3 := hid n3
      clear hb3 n3 H1 H2 H3
      go_wp2_with fail
      rw [← hw3, ← hq]
      clear hw3 hq e1 e2 e3 k3
      refine (C1 _).mono ?_
      rintro e w4 ⟨rfl, b4⟩
      have H1 := hid (H1'.out.below b4 H1'.out.lt)
      have H2 := hid (H2'.out.below b4 H2'.out.lt)
      have H3 := hid (H3'.out.below b4 H3'.out.lt)
      have HB4 := hid (HB'.out.trans (b4.mono HB'.out.size))
      have hn4 := HN3.out.below b4 HN3.out.lt
      clear H1' H2' H3' HB' b4 C1 d3 HN3 HB
      have d1 : w4.cell? ⟨q, 0, none⟩ = some (.int .i64 x.id) := by rw [hn4.cell]; rfl
      have d2 : w4.cell? ⟨q, 1, none⟩ = some (.int .i64 x.time) := by rw [hn4.cell]; rfl
      have d3 : w4.cell? ⟨q, 2, none⟩ = some (.string x.root) := by rw [hn4.cell]; rfl
      have f3 := hn4.frozen 2
      have hul : (upTo s.sn s0 k).length = m := by rw [upTo_len _ _ _ (by rw [HMM.out]; exact hk), HMM.out]
      obtain ⟨y1, y2, y3⟩ := nC_cells H3.out k (by rw [hul]; exact hlt)
      have z1 := H3.out.frozen (k * 3)
      have z2 := H3.out.frozen (k * 3 + 1)
      have z3 := H3.out.frozen (k * 3 + 2)
      have ne : b + 2 ≠ q := by omega
      have ne' : q ≠ b + 2 := by omega
      have ne1 : b ≠ q := by omega
      have ne2 : b + 1 ≠ q := by omega
      have HN := hid (show Has ((((w4.setCell ⟨q, 2, none⟩ (.string x.root)).setCell ⟨b + 2, k * 3, none⟩ (.int .i64 x.id)).setCell ⟨b + 2, k * 3 + 1, none⟩ (.int .i64 x.time)).setCell ⟨b + 2, k * 3 + 2, none⟩ (.string x.root)) (b + 2) (nC (upTo s.sn s0 (k + 1))) 41 from by
        have h5 := nC_put (H3.out.other ⟨q, 2, none⟩ (.string x.root) ne) k (by rw [hul]; exact hlt) x
        rw [upTo_set _ _ _ _ (by rw [HMM.out]; exact hlt) HX.out] at h5
        exact h5)
      have HNE := hid (And.intro ne1 ne2)
      have HQ := hid hqb
      clear hul hn4 hqb
      go_wp2_with fail
      go_roundw
      case rel => exact ⟨k + 1, by omega, by rfl, hid ((((H1.out.other _ _ HNE.out.1).other _ _ (by simp)).other _ _ (by simp)).other _ _ (by simp)), hid ((((H2.out.other _ _ HNE.out.2).other _ _ (by simp)).other _ _ (by simp)).other _ _ (by simp)), HN, hid (below_set (below_set (below_set (below_set HB4.out (by have := HQ.out; have := HBW.out; omega) _) (by have := HBW.out; omega) _) (by have := HBW.out; omega) _) (by have := HBW.out; omega) _)⟩
      case measure => first | (simp [intOf]; done) | (simp [intOf]; omega)
    · obtain rfl : m = k := by omega
      have j1 : ¬ ((m : Int) < (m : Int)) := by omega
      have k3 : wr.cell? ⟨b, 3, none⟩ = some (.slice a0 m c0) := by rw [H1.out.cell]; unfold stV; rw [HMM.out]; rfl
      have f3 := H1.out.frozen 3
      have m1 := H1.out.set 3 (.slice (some ⟨b + 2, 0, none⟩) m m)
      have e1 : (stV s a0 a1 a2 c0 c1 c2).setIfInBounds 3 (.slice (some ⟨b + 2, 0, none⟩) m m) = stV s (some ⟨b + 2, 0, none⟩) a1 a2 m c1 c2 := by unfold stV; rw [HMM.out]; rfl
      rw [e1] at m1
      have m2 := H2.out.other ⟨b, 3, none⟩ (.slice (some ⟨b + 2, 0, none⟩) m m) (by simp)
      have m3 := H3.out.other ⟨b, 3, none⟩ (.slice (some ⟨b + 2, 0, none⟩) m m) (by simp)
      have mB := below_set (o := 3) HB.out (by have := HBW.out; omega : w.heap.size ≤ b) (.slice (some ⟨b + 2, 0, none⟩) m m)
      obtain ⟨w3, hw3⟩ : ∃ w3, w3 = wr.setCell ⟨b, 3, none⟩ (.slice (some ⟨b + 2, 0, none⟩) m m) := ⟨_, rfl⟩
      rw [← hw3] at m1 m2 m3 mB
      have C3 := HC.out w3 mB
      have M1 := hid m1
      have M2 := hid m2
      have M3 := hid m3
      have MB := hid mB
      clear m1 m2 m3 mB e1 HC H1 H2 H3 HB
      generalize hp : L.length = p at *
      have HPL := hid hp
      clear hp
      go_wp2_with fail
      rw [← hw3]
      clear hw3 k3 f3
      refine C3.mono ?_
      rintro e w4 ⟨g1, g2, rfl, hpc⟩
      have HPC := hid hpc
      clear hpc C3
      have hb4 := HPC.out.below
      have m1 := M1.out.below hb4 M1.out.lt
      have m2 := M2.out.below hb4 M2.out.lt
      have q4 : w4.cell? ⟨b, 4, none⟩ = some (.slice a1 s.C.length c1) := by rw [m1.cell]; rfl
      have q5 : w4.cell? ⟨b, 5, none⟩ = some (.slice a2 s.P.length c2) := by rw [m1.cell]; rfl
      have q0 : w4.cell? ⟨b, 0, none⟩ = some (.int .i64 s.k) := by rw [m1.cell]; rfl
      have q1 : w4.cell? ⟨b, 1, none⟩ = some (.int .i64 s.n) := by rw [m1.cell]; rfl
      have q2 : w4.cell? ⟨b, 2, none⟩ = some (.int .i64 s.nx) := by rw [m1.cell]; rfl
      have q3 : w4.cell? ⟨b, 3, none⟩ = some (.slice (some ⟨b + 2, 0, none⟩) m m) := by rw [m1.cell]; unfold stV; rw [HMM.out]; rfl
      have f4 := m1.frozen 4
      have f5 := m1.frozen 5
      have r0 : w4.cell? ⟨b + 1, 0, none⟩ = some (.int .i64 0) := by rw [m2.cell]; rfl
      have r1 : w4.cell? ⟨b + 1, 1, none⟩ = some (.int .i64 0) := by rw [m2.cell]; rfl
      have r2 : w4.cell? ⟨b + 1, 2, none⟩ = some (.int .i64 0) := by rw [m2.cell]; rfl
      have r3 : w4.cell? ⟨b + 1, 3, none⟩ = some (.slice none 0 0) := by rw [m2.cell]; rfl
      have r4 : w4.cell? ⟨b + 1, 4, none⟩ = some (.slice none 0 0) := by rw [m2.cell]; rfl
      have r5 : w4.cell? ⟨b + 1, 5, none⟩ = some (.slice none 0 0) := by rw [m2.cell]; rfl
      have g0' := m2.frozen 0
      have g1' := m2.frozen 1
      have g2' := m2.frozen 2
      have g3' := m2.frozen 3
      have g4' := m2.frozen 4
      have g5' := m2.frozen 5
      have ne : b ≠ b + 1 := by omega
      have ne' : b + 1 ≠ b := by omega
      have N2 := hid m2
      have N3 := hid (M3.out.below hb4 M3.out.lt)
      have HL3 := hid M3.out.lt
      have HB4 := hid (MB.out.trans (hb4.mono MB.out.size))
      clear m1 m2 hb4
      go_wp2_with fail
      have N4 := put6 ((N2.out.other ⟨b, 4, none⟩ (.slice (some ⟨g1, 0, none⟩) p p) ne').other ⟨b, 5, none⟩ (.slice (some ⟨g2, 0, none⟩) p p) ne') (.int .i64 s.k) (.int .i64 s.n) (.int .i64 s.nx) (.slice (some ⟨b + 2, 0, none⟩) m m) (.slice (some ⟨g1, 0, none⟩) p p) (.slice (some ⟨g2, 0, none⟩) p p)
      have hk8 := fun (g : Nat) (cs : Array Value) (t : TypeId) (h : Has w4 g cs t) (h1 : g ≠ b) (h2 : g ≠ b + 1) => ((((((((h.other ⟨b, 4, none⟩ (.slice (some ⟨g1, 0, none⟩) p p) h1).other ⟨b, 5, none⟩ (.slice (some ⟨g2, 0, none⟩) p p) h1).other ⟨b + 1, 0, none⟩ (.int .i64 s.k) h2).other ⟨b + 1, 1, none⟩ (.int .i64 s.n) h2).other ⟨b + 1, 2, none⟩ (.int .i64 s.nx) h2).other ⟨b + 1, 3, none⟩ (.slice (some ⟨b + 2, 0, none⟩) m m) h2).other ⟨b + 1, 4, none⟩ (.slice (some ⟨g1, 0, none⟩) p p) h2).other ⟨b + 1, 5, none⟩ (.slice (some ⟨g2, 0, none⟩) p p) h2)
      have hl1 := HPC.out.l1
      have hl2 := HPC.out.l2
      have hl3 := HL3.out
      have hbw := HBW.out
      refine ret_state1 Tryz.results25 rfl rfl N4 rfl ⟨_, rfl, ⟨⟨b + 2, g1, g2, ?_, by omega, by omega, by omega, ?_, hk8 g1 _ _ HPC.out.h1 (by omega) (by omega), hk8 g2 _ _ HPC.out.h2 (by omega) (by omega)⟩, ?_⟩⟩
      · unfold stV
        simp only [List.length_map]
        rw [HMM.out, HPL.out]
      · have h3 : Has w4 (b + 2) (nC s.sn) 41 := by
          have := N3.out
          rwa [show upTo s.sn s0 m = s.sn from by rw [← HMM.out, upTo_all]] at this
        exact hk8 (b + 2) _ _ h3 (by omega) (by omega)
      · exact below_put6 (below_set (below_set HB4.out (by omega) _) (by omega) _) (by omega) _ _ _ _ _ _
end Go.Proofs.YtknddbmnciodaaaGreat

