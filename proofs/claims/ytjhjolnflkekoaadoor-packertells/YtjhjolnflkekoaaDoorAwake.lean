/- The laws' example: three chunks of 2000 bytes are two packs. -/
import Derived.Test.YtjhjolnflkekoaaDoorGather
import Derived.Test.YtjhjolnflkekoaaDoorHelp
namespace Go.Proofs.YtjhjolnflkekoaaDoor
open Go.RowKit Go.Maps
open Pk
set_option linter.unusedVariables false
theorem rep_ne {n a b : Nat} (h0 : 0 < n) (ha : a < 256) (hb : b < 256) (h : a ≠ b) : rep n a ≠ rep n b := fun e => by
  have h1 := congrArg bs e
  rw [rep_bs _ _ ha, rep_bs _ _ hb] at h1
  obtain ⟨m, rfl⟩ : ∃ m, n = m + 1 := ⟨n - 1, by omega⟩
  rw [List.replicate_succ, List.replicate_succ] at h1
  exact h (List.cons.inj h1).1
def cA : ByteArray := rep 2000 97
def cB : ByteArray := rep 2000 98
def cC : ByteArray := rep 2000 99
theorem szA : cA.size = 2000 := rep_size _ _
theorem szB : cB.size = 2000 := rep_size _ _
theorem szC : cC.size = 2000 := rep_size _ _
theorem ex_bad : badB [cA, cB, cC] = false := by
  unfold badB mcB
  simp [szA, szB, szC]
theorem ex_packs : Gt.packs [cA, cB, cC] = [[cA, cB], [cC]] := by
  have h1 : cB ≠ cA := rep_ne (by decide) (by decide) (by decide) (by decide)
  have h2 : cC ≠ cA := rep_ne (by decide) (by decide) (by decide) (by decide)
  have h3 : cC ≠ cB := rep_ne (by decide) (by decide) (by decide) (by decide)
  have e : Gt.firsts [] [cA, cB, cC] = [cA, cB, cC] := Gt.firsts_id _ _ (by simp [Ne.symm h1, Ne.symm h2, Ne.symm h3]) (by simp)
  unfold Gt.packs
  rw [e, Gt.go_open (by simp), Gt.go_open (by intro h; have := h.2; simp [tot_one, szA, szB] at this), Gt.go_shut ⟨by simp, by simp [tot_cons, tot_nil, szA, szB, szC]⟩]
  rfl
theorem two_of {L : List (List ByteArray × Nat × Nat)} {p q : List ByteArray} (h : L.map (·.1) = [p, q]) : ∃ x1 y1 x2 y2, L = [(p, x1, y1), (q, x2, y2)] := by
  match L, h with
  | [(a, x1, y1), (b, x2, y2)], h =>
    simp at h
    obtain ⟨rfl, rfl⟩ := h
    exact ⟨x1, y1, x2, y2, rfl⟩
def awV (g x1 x2 cap : Nat) (B1 B2 D1 D2 T : ByteArray) : Nat → Value
  | 14 => .slice (some ⟨g, 0, none⟩) 2 cap
  | 19 => .slice (some ⟨g, 0, none⟩) 2 cap
  | 27 => .slice (some ⟨g, 0, none⟩) 2 cap
  | 35 => .slice (some ⟨g, 0, none⟩) 2 cap
  | 39 => .slice (some ⟨g, 0, none⟩) 2 cap
  | 47 => .slice (some ⟨g, 0, none⟩) 2 cap
  | 58 => .slice (some ⟨g, 0, none⟩) 2 cap
  | 60 => .slice (some ⟨g, 0, none⟩) 2 cap
  | 65 => .slice (some ⟨g, 0, none⟩) 2 cap
  | 12 => .bool true
  | 13 => .bool true
  | 16 => .bool true
  | 17 => .bool true
  | 18 => .bool true
  | 24 => .bool true
  | 25 => .bool true
  | 26 => .bool true
  | 32 => .bool true
  | 33 => .bool true
  | 34 => .bool true
  | 44 => .bool true
  | 45 => .bool true
  | 46 => .bool true
  | 55 => .bool true
  | 56 => .bool true
  | 57 => .bool true
  | 71 => .bool true
  | 72 => .bool true
  | 0 => .bool true
  | 11 => .int .i64 0
  | 15 => .int .i64 2
  | 23 => .int .i64 2
  | 31 => .int .i64 1
  | 20 => .pointer (some ⟨g, 0, none⟩)
  | 36 => .pointer (some ⟨g, 0, none⟩)
  | 40 => .pointer (some ⟨g, 0, none⟩)
  | 41 => .pointer (some ⟨g, 0, none⟩)
  | 61 => .pointer (some ⟨g, 0, none⟩)
  | 62 => .pointer (some ⟨g, 0, none⟩)
  | 21 => .pointer (some ⟨g, 2, none⟩)
  | 37 => .pointer (some ⟨g, 1, none⟩)
  | 28 => .pointer (some ⟨g, 4, none⟩)
  | 48 => .pointer (some ⟨g, 4, none⟩)
  | 66 => .pointer (some ⟨g, 4, none⟩)
  | 67 => .pointer (some ⟨g, 4, none⟩)
  | 29 => .pointer (some ⟨g, 6, none⟩)
  | 49 => .pointer (some ⟨g, 6, none⟩)
  | 22 => .slice (some ⟨x1, 0, none⟩) 2 2
  | 30 => .slice (some ⟨x2, 0, none⟩) 1 1
  | 50 => .slice (some ⟨x2, 0, none⟩) 1 1
  | 51 => .pointer (some ⟨x2, 0, none⟩)
  | 38 => .string D1
  | 43 => .string D1
  | 42 => .string B1
  | 63 => .string B1
  | 52 => .string D2
  | 54 => .string D2
  | 53 => .string T
  | 68 => .string B2
  | 59 => .int .i64 ((B1.size + B2.size : Nat) : Int)
  | 70 => .int .i64 ((B1.size + B2.size : Nat) : Int)
  | 64 => .int .i64 (B1.size : Int)
  | 69 => .int .i64 (B2.size : Int)
  | _ => undef
def awF (g x1 x2 cap : Nat) (B1 B2 D1 D2 T : ByteArray) (d : Nat) (v : Value) (_ : World) : Prop := v = awV g x1 x2 cap B1 B2 D1 D2 T d
set_option maxRecDepth 20000 in
set_option maxHeartbeats 8000000 in
theorem awake_any (w : World) (ht : S.Tabs w) : Calls Tryd.prog 7 #[] w fun e w' => e = .returned (.bool true) ∧ Below w.heap.size w w' := by
  have M0 := fun W => times_any 2000 97 (by decide) (by decide) W
  have M1 := fun W => times_any 2000 98 (by decide) (by decide) W
  have M2 := fun W => times_any 2000 99 (by decide) (by decide) W
  change ∀ W, Calls Tryd.prog 13 _ W fun e w' => e = .returned (.string cA) ∧ Below W.heap.size W w' at M0
  change ∀ W, Calls Tryd.prog 13 _ W fun e w' => e = .returned (.string cB) ∧ Below W.heap.size W w' at M1
  change ∀ W, Calls Tryd.prog 13 _ W fun e w' => e = .returned (.string cC) ∧ Below W.heap.size W w' at M2
  have ht3 : tot [cA, cB, cC] ≤ 100000000 := by rw [tot_cons, tot_cons, tot_cons, szA, szB, szC]; decide
  have CG := fun W A cap hT h => gather_yes [cA, cB, cC] A cap W hT h (by decide) ht3 ex_bad
  rw [ex_packs] at CG
  have HTi := hid M2
  have HT0 := hid ht
  have hsc : (pb [cC]).size = 2008 := by rw [pb_size, tot_one, szC]; rfl
  have hsb : (pb [cA, cB]).size = 4010 := by rw [pb_size, tot_cons, tot_one, szA, szB]; rfl
  have HD := hid (fun (s : ByteArray) (hs : s.size ≤ 900000000000) W (ht : S.Tabs W) => dig_any s hs W ht)
  have HSz := hid (And.intro hsc hsb)
  clear ht ht3 hsc hsb
  generalize cA = a0 at *
  generalize cB = b0 at *
  generalize cC = c0 at *
  go_enter Tryd.func7, Tryd.ntmps7
  go_wp2_with fail
  refine (M0 _).mono ?_
  rintro e w1 ⟨rfl, b1⟩
  have B1 := hid b1
  clear b1 M0
  go_wp2_with fail
  refine (M1 _).mono ?_
  rintro e w2 ⟨rfl, b2⟩
  have B2 := hid (B1.out.trans (b2.mono B1.out.size))
  clear b2 M1
  go_wp2_with fail
  refine (M2 _).mono ?_
  rintro e w3 ⟨rfl, b3⟩
  have B3 := hid (B2.out.trans (b3.mono B2.out.size))
  have hx3 : Hid (Tx (w3.alloc (.cells (sTx [a0, b0, c0]) 9)) (some ⟨w3.heap.size, 0, none⟩) [a0, b0, c0]) := hid (has_tx (Has.new w3 w3.heap.size _ 9 rfl))
  have b3' : Below w3.heap.size w3 (w3.alloc (.cells (sTx [a0, b0, c0]) 9)) := (Below.refl _ _).alloc (Nat.le_refl _) _
  have B4 := hid (B3.out.trans (b3'.mono B3.out.size))
  have HT4 := hid (tabs_below HT0.out B4.out (Nat.le_refl _))
  clear b3 M2 b3'
  go_wp2_with fail
  refine (CG _ _ _ HT4.out hx3.out).mono ?_
  rintro e w5 ⟨v, L, rfl, hp, hm, b5⟩
  clear CG
  obtain ⟨x1, y1, x2, y2, rfl⟩ := two_of hm
  obtain ⟨A, cap, rfl⟩ := hp.slice
  obtain ⟨g, rfl, _, hg, k0, k1, k2, _⟩ := hp.cells 0 _ rfl
  obtain ⟨g', eg, _, _, k4, _, k6, _⟩ := hp.cells 1 _ rfl
  cases eg
  have hx2 := (hp.each ([c0], x2, y2) (by simp)).ha
  have kx : w5.cell? ⟨x2, 0, none⟩ = some (.string (dg c0)) := by rw [hx2.cell 0]; rfl
  have HX2 := hid hx2.lt
  have KX := hid kx
  have HG := hid hg
  have K0 := hid k0
  have K1 := hid k1
  have K2 := hid k2
  have K4 := hid k4
  have K6 := hid k6
  have B5 := hid (B4.out.trans (b5.mono B4.out.size))
  have HT := hid (tabs_below HT0.out B5.out (Nat.le_refl _))
  have HBy : Hid (∀ W', Below w5.heap.size w5 W' → Calls Tryd.prog 10 #[.slice (some ⟨g, 0, none⟩) 2 cap] W' fun e w'' => e = .returned (.int .i64 (((pb [a0, b0]).size + (pb [c0]).size : Nat) : Int)) ∧ Below W'.heap.size W' w'') := hid fun W' hb => by
    have h := bytes_any [([a0, b0], x1, y1), ([c0], x2, y2)] _ _ cap W' (hp.below hb (Nat.le_refl _)) (by simp) (by
      intro p hpm
      simp at hpm
      obtain ⟨h1, h2⟩ := HSz.out
      rcases hpm with rfl | rfl
      · rw [h2]; decide
      · rw [h1]; decide)
    have e : bsum ([([a0, b0], x1, y1), ([c0], x2, y2)].map (·.1)) = (pb [a0, b0]).size + (pb [c0]).size := by simp [bsum]
    rw [e] at h
    exact h
  have HW : Hid (IntKind.i64.wrap (((pb [a0, b0]).size : Int) + ((pb [c0]).size : Int)) = (((pb [a0, b0]).size + (pb [c0]).size : Nat) : Int)) := hid (by
    obtain ⟨h1, h2⟩ := HSz.out
    rw [IntKind.wrap_i64]; omega)
  have HD1 := hid (fun W hT => HD.out (pb [a0, b0]) (by rw [HSz.out.2]; decide) W hT)
  have HD2 := hid (fun W hT => HD.out c0 (by
    have h := HSz.out.1
    rw [pb_size, tot_one] at h; simp at h; omega) W hT)
  clear hp hm b5 k0 k1 k2 k4 k6 kx hx2 hg HD HSz B1 B2 B3 B4 HT4 hx3 HT0
  have hd1 : dg (pb [a0, b0]) = dg (pb [a0, b0]) := rfl
  generalize hB1 : pb [a0, b0] = B1 at *
  generalize hB2 : pb [c0] = B2 at *
  generalize hD1 : dg B1 = D1 at *
  generalize hD2 : dg c0 = D2 at *
  clear hB1 hB2 hD1 hD2 hd1
  have hlen : ([([a0, b0], x1, y1), ([c0], x2, y2)] : List (List ByteArray × Nat × Nat)).length = 2 := rfl
  rw [hlen]
  clear hlen
  generalize c0 = T at *
  go_wp2_with fail
  refine Tl.wp_mix_lit (by kernel_rfl) 63 [11, 12, 13, 14, 15, 16, 17, 18, 19, 20, 21, 22, 23, 24, 25, 26, 27, 28, 29, 30, 31, 32, 33, 34, 35, 36, 37, 38, 39, 40, 41, 42, 43, 44, 45, 46, 47, 48, 49, 50, 51, 52, 53, 54, 55, 56, 57, 58, 59, 60, 61, 62, 63, 64, 65, 66, 67, 68, 69, 70, 71, 72, 0] 73 rfl (by kernel_rfl) (fun W => Below w5.heap.size w5 W) (awF g x1 x2 cap B1 B2 D1 D2 T) (Below.refl _ _).drew
    ⟨fun a' W' hC hF => ?_, fun a' W' hC hF => ?_, fun a' W' hC hF => ?_, fun a' W' hC hF => ?_, fun a' W' hC hF => ?_, fun a' W' hC hF => ?_, fun a' W' hC hF => ?_, fun a' W' hC hF => ?_, fun a' W' hC hF => ?_, fun a' W' hC hF => ?_, fun a' W' hC hF => ?_, fun a' W' hC hF => ?_, fun a' W' hC hF => ?_, fun a' W' hC hF => ?_, fun a' W' hC hF => ?_, fun a' W' hC hF => ?_, fun a' W' hC hF => ?_, fun a' W' hC hF => ?_, fun a' W' hC hF => ?_, fun a' W' hC hF => ?_, fun a' W' hC hF => ?_, fun a' W' hC hF => ?_, fun a' W' hC hF => ?_, fun a' W' hC hF => ?_, fun a' W' hC hF => ?_, fun a' W' hC hF => ?_, fun a' W' hC hF => ?_, fun a' W' hC hF => ?_, fun a' W' hC hF => ?_, fun a' W' hC hF => ?_, fun a' W' hC hF => ?_, fun a' W' hC hF => ?_, fun a' W' hC hF => ?_, fun a' W' hC hF => ?_, fun a' W' hC hF => ?_, fun a' W' hC hF => ?_, fun a' W' hC hF => ?_, fun a' W' hC hF => ?_, fun a' W' hC hF => ?_, fun a' W' hC hF => ?_, fun a' W' hC hF => ?_, fun a' W' hC hF => ?_, fun a' W' hC hF => ?_, fun a' W' hC hF => ?_, fun a' W' hC hF => ?_, fun a' W' hC hF => ?_, fun a' W' hC hF => ?_, fun a' W' hC hF => ?_, fun a' W' hC hF => ?_, fun a' W' hC hF => ?_, fun a' W' hC hF => ?_, fun a' W' hC hF => ?_, fun a' W' hC hF => ?_, fun a' W' hC hF => ?_, fun a' W' hC hF => ?_, fun a' W' hC hF => ?_, fun a' W' hC hF => ?_, fun a' W' hC hF => ?_, fun a' W' hC hF => ?_, fun a' W' hC hF => ?_, fun a' W' hC hF => ?_, fun a' W' hC hF => ?_, fun a' W' hC hF => ?_, trivial⟩ ?_
  · exact Tl.sm_v 11 _ rfl (Tl.wanted_none rfl) hC rfl (rn_move rfl ((hF 2 (by decide +kernel)).2 (by decide)))
  · exact Tl.sm_v 12 _ rfl (Tl.wanted_none rfl) hC rfl (rn_eql26 rfl (show Act.eval a' (.tmp 11) = .int .i64 0 from ((hF 11 (by decide +kernel)).1 (by decide))) rfl rfl)
  · exact Tl.sm_v 13 _ rfl (Tl.wanted_none rfl) hC rfl (rn_move rfl (show Act.eval a' (.tmp 12) = .bool true from ((hF 12 (by decide +kernel)).1 (by decide))))
  · exact Tl.sm_v 14 _ rfl (Tl.wanted_is rfl rfl (show Act.eval a' (.tmp 13) = .bool true from ((hF 13 (by decide +kernel)).1 (by decide)))) hC rfl (rn_move rfl ((hF 1 (by decide +kernel)).2 (by decide)))
  · exact Tl.sm_v 15 _ rfl (Tl.wanted_is rfl rfl (show Act.eval a' (.tmp 13) = .bool true from ((hF 13 (by decide +kernel)).1 (by decide)))) hC rfl (rn_len25 rfl (show Act.eval a' (.tmp 14) = .slice (some ⟨g, 0, none⟩) 2 cap from ((hF 14 (by decide +kernel)).1 (by decide))) )
  · exact Tl.sm_v 16 _ rfl (Tl.wanted_is rfl rfl (show Act.eval a' (.tmp 13) = .bool true from ((hF 13 (by decide +kernel)).1 (by decide)))) hC rfl (rn_eql3 rfl (show Act.eval a' (.tmp 15) = .int .i64 2 from ((hF 15 (by decide +kernel)).1 (by decide))) rfl rfl)
  · exact Tl.sm_v 17 _ rfl (Tl.wanted_none rfl) hC rfl (rn_pickT rfl (show Act.eval a' (.tmp 13) = .bool true from ((hF 13 (by decide +kernel)).1 (by decide))) (show Act.eval a' (.tmp 16) = .bool true from ((hF 16 (by decide +kernel)).1 (by decide))))
  · exact Tl.sm_v 18 _ rfl (Tl.wanted_none rfl) hC rfl (rn_move rfl (show Act.eval a' (.tmp 17) = .bool true from ((hF 17 (by decide +kernel)).1 (by decide))))
  · exact Tl.sm_v 19 _ rfl (Tl.wanted_is rfl rfl (show Act.eval a' (.tmp 18) = .bool true from ((hF 18 (by decide +kernel)).1 (by decide)))) hC rfl (rn_move rfl ((hF 1 (by decide +kernel)).2 (by decide)))
  · exact Tl.sm_v 20 _ rfl (Tl.wanted_is rfl rfl (show Act.eval a' (.tmp 18) = .bool true from ((hF 18 (by decide +kernel)).1 (by decide)))) hC rfl (rn_ix25 (i := 0) rfl (show Act.eval a' (.tmp 19) = .slice (some ⟨g, 0, none⟩) 2 cap from ((hF 19 (by decide +kernel)).1 (by decide))) rfl (by decide))
  · exact Tl.sm_v 21 _ rfl (Tl.wanted_is rfl rfl (show Act.eval a' (.tmp 18) = .bool true from ((hF 18 (by decide +kernel)).1 (by decide)))) hC rfl (rn_fa39_2 rfl (show Act.eval a' (.tmp 20) = .pointer (some ⟨g, 0, none⟩) from ((hF 20 (by decide +kernel)).1 (by decide))))
  · exact Tl.sm_v 22 _ rfl (Tl.wanted_is rfl rfl (show Act.eval a' (.tmp 18) = .bool true from ((hF 18 (by decide +kernel)).1 (by decide)))) hC rfl (rn_load22 rfl (show Act.eval a' (.tmp 21) = .pointer (some ⟨g, 2, none⟩) from ((hF 21 (by decide +kernel)).1 (by decide))) ((hC.cell (p := ⟨g, 2, none⟩) HG.out).trans K2.out))
  · exact Tl.sm_v 23 _ rfl (Tl.wanted_is rfl rfl (show Act.eval a' (.tmp 18) = .bool true from ((hF 18 (by decide +kernel)).1 (by decide)))) hC rfl (rn_len22 rfl (show Act.eval a' (.tmp 22) = .slice (some ⟨x1, 0, none⟩) 2 2 from ((hF 22 (by decide +kernel)).1 (by decide))) )
  · exact Tl.sm_v 24 _ rfl (Tl.wanted_is rfl rfl (show Act.eval a' (.tmp 18) = .bool true from ((hF 18 (by decide +kernel)).1 (by decide)))) hC rfl (rn_eql3 rfl (show Act.eval a' (.tmp 23) = .int .i64 2 from ((hF 23 (by decide +kernel)).1 (by decide))) rfl rfl)
  · exact Tl.sm_v 25 _ rfl (Tl.wanted_none rfl) hC rfl (rn_pickT rfl (show Act.eval a' (.tmp 18) = .bool true from ((hF 18 (by decide +kernel)).1 (by decide))) (show Act.eval a' (.tmp 24) = .bool true from ((hF 24 (by decide +kernel)).1 (by decide))))
  · exact Tl.sm_v 26 _ rfl (Tl.wanted_none rfl) hC rfl (rn_move rfl (show Act.eval a' (.tmp 25) = .bool true from ((hF 25 (by decide +kernel)).1 (by decide))))
  · exact Tl.sm_v 27 _ rfl (Tl.wanted_is rfl rfl (show Act.eval a' (.tmp 26) = .bool true from ((hF 26 (by decide +kernel)).1 (by decide)))) hC rfl (rn_move rfl ((hF 1 (by decide +kernel)).2 (by decide)))
  · exact Tl.sm_v 28 _ rfl (Tl.wanted_is rfl rfl (show Act.eval a' (.tmp 26) = .bool true from ((hF 26 (by decide +kernel)).1 (by decide)))) hC rfl (rn_ix25 (i := 1) rfl (show Act.eval a' (.tmp 27) = .slice (some ⟨g, 0, none⟩) 2 cap from ((hF 27 (by decide +kernel)).1 (by decide))) rfl (by decide))
  · exact Tl.sm_v 29 _ rfl (Tl.wanted_is rfl rfl (show Act.eval a' (.tmp 26) = .bool true from ((hF 26 (by decide +kernel)).1 (by decide)))) hC rfl (rn_fa39_2 rfl (show Act.eval a' (.tmp 28) = .pointer (some ⟨g, 4, none⟩) from ((hF 28 (by decide +kernel)).1 (by decide))))
  · exact Tl.sm_v 30 _ rfl (Tl.wanted_is rfl rfl (show Act.eval a' (.tmp 26) = .bool true from ((hF 26 (by decide +kernel)).1 (by decide)))) hC rfl (rn_load22 rfl (show Act.eval a' (.tmp 29) = .pointer (some ⟨g, 6, none⟩) from ((hF 29 (by decide +kernel)).1 (by decide))) ((hC.cell (p := ⟨g, 6, none⟩) HG.out).trans K6.out))
  · exact Tl.sm_v 31 _ rfl (Tl.wanted_is rfl rfl (show Act.eval a' (.tmp 26) = .bool true from ((hF 26 (by decide +kernel)).1 (by decide)))) hC rfl (rn_len22 rfl (show Act.eval a' (.tmp 30) = .slice (some ⟨x2, 0, none⟩) 1 1 from ((hF 30 (by decide +kernel)).1 (by decide))) )
  · exact Tl.sm_v 32 _ rfl (Tl.wanted_is rfl rfl (show Act.eval a' (.tmp 26) = .bool true from ((hF 26 (by decide +kernel)).1 (by decide)))) hC rfl (rn_eql3 rfl (show Act.eval a' (.tmp 31) = .int .i64 1 from ((hF 31 (by decide +kernel)).1 (by decide))) rfl rfl)
  · exact Tl.sm_v 33 _ rfl (Tl.wanted_none rfl) hC rfl (rn_pickT rfl (show Act.eval a' (.tmp 26) = .bool true from ((hF 26 (by decide +kernel)).1 (by decide))) (show Act.eval a' (.tmp 32) = .bool true from ((hF 32 (by decide +kernel)).1 (by decide))))
  · exact Tl.sm_v 34 _ rfl (Tl.wanted_none rfl) hC rfl (rn_move rfl (show Act.eval a' (.tmp 33) = .bool true from ((hF 33 (by decide +kernel)).1 (by decide))))
  · exact Tl.sm_v 35 _ rfl (Tl.wanted_is rfl rfl (show Act.eval a' (.tmp 34) = .bool true from ((hF 34 (by decide +kernel)).1 (by decide)))) hC rfl (rn_move rfl ((hF 1 (by decide +kernel)).2 (by decide)))
  · exact Tl.sm_v 36 _ rfl (Tl.wanted_is rfl rfl (show Act.eval a' (.tmp 34) = .bool true from ((hF 34 (by decide +kernel)).1 (by decide)))) hC rfl (rn_ix25 (i := 0) rfl (show Act.eval a' (.tmp 35) = .slice (some ⟨g, 0, none⟩) 2 cap from ((hF 35 (by decide +kernel)).1 (by decide))) rfl (by decide))
  · exact Tl.sm_v 37 _ rfl (Tl.wanted_is rfl rfl (show Act.eval a' (.tmp 34) = .bool true from ((hF 34 (by decide +kernel)).1 (by decide)))) hC rfl (rn_fa39_1 rfl (show Act.eval a' (.tmp 36) = .pointer (some ⟨g, 0, none⟩) from ((hF 36 (by decide +kernel)).1 (by decide))))
  · exact Tl.sm_v 38 _ rfl (Tl.wanted_is rfl rfl (show Act.eval a' (.tmp 34) = .bool true from ((hF 34 (by decide +kernel)).1 (by decide)))) hC rfl (rn_load9 rfl (show Act.eval a' (.tmp 37) = .pointer (some ⟨g, 1, none⟩) from ((hF 37 (by decide +kernel)).1 (by decide))) ((hC.cell (p := ⟨g, 1, none⟩) HG.out).trans K1.out))
  · exact Tl.sm_v 39 _ rfl (Tl.wanted_is rfl rfl (show Act.eval a' (.tmp 34) = .bool true from ((hF 34 (by decide +kernel)).1 (by decide)))) hC rfl (rn_move rfl ((hF 1 (by decide +kernel)).2 (by decide)))
  · exact Tl.sm_v 40 _ rfl (Tl.wanted_is rfl rfl (show Act.eval a' (.tmp 34) = .bool true from ((hF 34 (by decide +kernel)).1 (by decide)))) hC rfl (rn_ix25 (i := 0) rfl (show Act.eval a' (.tmp 39) = .slice (some ⟨g, 0, none⟩) 2 cap from ((hF 39 (by decide +kernel)).1 (by decide))) rfl (by decide))
  · exact Tl.sm_v 41 _ rfl (Tl.wanted_is rfl rfl (show Act.eval a' (.tmp 34) = .bool true from ((hF 34 (by decide +kernel)).1 (by decide)))) hC rfl (rn_fa39_0 rfl (show Act.eval a' (.tmp 40) = .pointer (some ⟨g, 0, none⟩) from ((hF 40 (by decide +kernel)).1 (by decide))))
  · exact Tl.sm_v 42 _ rfl (Tl.wanted_is rfl rfl (show Act.eval a' (.tmp 34) = .bool true from ((hF 34 (by decide +kernel)).1 (by decide)))) hC rfl (rn_load9 rfl (show Act.eval a' (.tmp 41) = .pointer (some ⟨g, 0, none⟩) from ((hF 41 (by decide +kernel)).1 (by decide))) ((hC.cell (p := ⟨g, 0, none⟩) HG.out).trans K0.out))
  · refine Tl.sm_call 14 #[_] (Tl.wanted_is rfl rfl (show Act.eval a' (.tmp 34) = .bool true from ((hF 34 (by decide +kernel)).1 (by decide)))) (rn_call1 rfl rfl (show Act.eval a' (.tmp 42) = .string B1 from ((hF 42 (by decide +kernel)).1 (by decide))) (en14 _ _)) ((HD1.out W' (tabs_below HT.out hC (Nat.le_refl _))).mono ?_)
    rintro e W'' ⟨rfl, hb⟩
    exact ⟨_, rfl, hC.trans (hb.mono hC.size), fun d v _ h => h, fun d hd => by cases hd; rfl⟩
  · exact Tl.sm_v 44 _ rfl (Tl.wanted_is rfl rfl (show Act.eval a' (.tmp 34) = .bool true from ((hF 34 (by decide +kernel)).1 (by decide)))) hC rfl (rn_eql9 rfl (show Act.eval a' (.tmp 38) = .string D1 from ((hF 38 (by decide +kernel)).1 (by decide))) (show Act.eval a' (.tmp 43) = .string D1 from ((hF 43 (by decide +kernel)).1 (by decide))) )
  · exact Tl.sm_v 45 _ rfl (Tl.wanted_none rfl) hC rfl (rn_pickT rfl (show Act.eval a' (.tmp 34) = .bool true from ((hF 34 (by decide +kernel)).1 (by decide))) (show Act.eval a' (.tmp 44) = .bool true from ((hF 44 (by decide +kernel)).1 (by decide))))
  · exact Tl.sm_v 46 _ rfl (Tl.wanted_none rfl) hC rfl (rn_move rfl (show Act.eval a' (.tmp 45) = .bool true from ((hF 45 (by decide +kernel)).1 (by decide))))
  · exact Tl.sm_v 47 _ rfl (Tl.wanted_is rfl rfl (show Act.eval a' (.tmp 46) = .bool true from ((hF 46 (by decide +kernel)).1 (by decide)))) hC rfl (rn_move rfl ((hF 1 (by decide +kernel)).2 (by decide)))
  · exact Tl.sm_v 48 _ rfl (Tl.wanted_is rfl rfl (show Act.eval a' (.tmp 46) = .bool true from ((hF 46 (by decide +kernel)).1 (by decide)))) hC rfl (rn_ix25 (i := 1) rfl (show Act.eval a' (.tmp 47) = .slice (some ⟨g, 0, none⟩) 2 cap from ((hF 47 (by decide +kernel)).1 (by decide))) rfl (by decide))
  · exact Tl.sm_v 49 _ rfl (Tl.wanted_is rfl rfl (show Act.eval a' (.tmp 46) = .bool true from ((hF 46 (by decide +kernel)).1 (by decide)))) hC rfl (rn_fa39_2 rfl (show Act.eval a' (.tmp 48) = .pointer (some ⟨g, 4, none⟩) from ((hF 48 (by decide +kernel)).1 (by decide))))
  · exact Tl.sm_v 50 _ rfl (Tl.wanted_is rfl rfl (show Act.eval a' (.tmp 46) = .bool true from ((hF 46 (by decide +kernel)).1 (by decide)))) hC rfl (rn_load22 rfl (show Act.eval a' (.tmp 49) = .pointer (some ⟨g, 6, none⟩) from ((hF 49 (by decide +kernel)).1 (by decide))) ((hC.cell (p := ⟨g, 6, none⟩) HG.out).trans K6.out))
  · exact Tl.sm_v 51 _ rfl (Tl.wanted_is rfl rfl (show Act.eval a' (.tmp 46) = .bool true from ((hF 46 (by decide +kernel)).1 (by decide)))) hC rfl (rn_ix22 (i := 0) rfl (show Act.eval a' (.tmp 50) = .slice (some ⟨x2, 0, none⟩) 1 1 from ((hF 50 (by decide +kernel)).1 (by decide))) rfl (by decide))
  · exact Tl.sm_v 52 _ rfl (Tl.wanted_is rfl rfl (show Act.eval a' (.tmp 46) = .bool true from ((hF 46 (by decide +kernel)).1 (by decide)))) hC rfl (rn_load9 rfl (show Act.eval a' (.tmp 51) = .pointer (some ⟨x2, 0, none⟩) from ((hF 51 (by decide +kernel)).1 (by decide))) ((hC.cell (p := ⟨x2, 0, none⟩) HX2.out).trans KX.out))
  · refine Tl.sm_call 13 #[_, _] (Tl.wanted_is rfl rfl (show Act.eval a' (.tmp 46) = .bool true from ((hF 46 (by decide +kernel)).1 (by decide)))) (rn_call2 rfl rfl rfl rfl (en13 _ _)) ((HTi.out W').mono ?_)
    rintro e W'' ⟨rfl, hb⟩
    exact ⟨_, rfl, hC.trans (hb.mono hC.size), fun d v _ h => h, fun d hd => by cases hd; rfl⟩
  · refine Tl.sm_call 14 #[_] (Tl.wanted_is rfl rfl (show Act.eval a' (.tmp 46) = .bool true from ((hF 46 (by decide +kernel)).1 (by decide)))) (rn_call1 rfl rfl (show Act.eval a' (.tmp 53) = .string T from ((hF 53 (by decide +kernel)).1 (by decide))) (en14 _ _)) ((HD2.out W' (tabs_below HT.out hC (Nat.le_refl _))).mono ?_)
    rintro e W'' ⟨rfl, hb⟩
    exact ⟨_, rfl, hC.trans (hb.mono hC.size), fun d v _ h => h, fun d hd => by cases hd; rfl⟩
  · exact Tl.sm_v 55 _ rfl (Tl.wanted_is rfl rfl (show Act.eval a' (.tmp 46) = .bool true from ((hF 46 (by decide +kernel)).1 (by decide)))) hC rfl (rn_eql9 rfl (show Act.eval a' (.tmp 52) = .string D2 from ((hF 52 (by decide +kernel)).1 (by decide))) (show Act.eval a' (.tmp 54) = .string D2 from ((hF 54 (by decide +kernel)).1 (by decide))) )
  · exact Tl.sm_v 56 _ rfl (Tl.wanted_none rfl) hC rfl (rn_pickT rfl (show Act.eval a' (.tmp 46) = .bool true from ((hF 46 (by decide +kernel)).1 (by decide))) (show Act.eval a' (.tmp 55) = .bool true from ((hF 55 (by decide +kernel)).1 (by decide))))
  · exact Tl.sm_v 57 _ rfl (Tl.wanted_none rfl) hC rfl (rn_move rfl (show Act.eval a' (.tmp 56) = .bool true from ((hF 56 (by decide +kernel)).1 (by decide))))
  · exact Tl.sm_v 58 _ rfl (Tl.wanted_is rfl rfl (show Act.eval a' (.tmp 57) = .bool true from ((hF 57 (by decide +kernel)).1 (by decide)))) hC rfl (rn_move rfl ((hF 1 (by decide +kernel)).2 (by decide)))
  · refine Tl.sm_call 10 #[_] (Tl.wanted_is rfl rfl (show Act.eval a' (.tmp 57) = .bool true from ((hF 57 (by decide +kernel)).1 (by decide)))) (rn_call1 rfl rfl (show Act.eval a' (.tmp 58) = .slice (some ⟨g, 0, none⟩) 2 cap from ((hF 58 (by decide +kernel)).1 (by decide))) (en10 _ _)) ((HBy.out W' hC).mono ?_)
    rintro e W'' ⟨rfl, hb⟩
    exact ⟨_, rfl, hC.trans (hb.mono hC.size), fun d v _ h => h, fun d hd => by cases hd; rfl⟩
  · exact Tl.sm_v 60 _ rfl (Tl.wanted_is rfl rfl (show Act.eval a' (.tmp 57) = .bool true from ((hF 57 (by decide +kernel)).1 (by decide)))) hC rfl (rn_move rfl ((hF 1 (by decide +kernel)).2 (by decide)))
  · exact Tl.sm_v 61 _ rfl (Tl.wanted_is rfl rfl (show Act.eval a' (.tmp 57) = .bool true from ((hF 57 (by decide +kernel)).1 (by decide)))) hC rfl (rn_ix25 (i := 0) rfl (show Act.eval a' (.tmp 60) = .slice (some ⟨g, 0, none⟩) 2 cap from ((hF 60 (by decide +kernel)).1 (by decide))) rfl (by decide))
  · exact Tl.sm_v 62 _ rfl (Tl.wanted_is rfl rfl (show Act.eval a' (.tmp 57) = .bool true from ((hF 57 (by decide +kernel)).1 (by decide)))) hC rfl (rn_fa39_0 rfl (show Act.eval a' (.tmp 61) = .pointer (some ⟨g, 0, none⟩) from ((hF 61 (by decide +kernel)).1 (by decide))))
  · exact Tl.sm_v 63 _ rfl (Tl.wanted_is rfl rfl (show Act.eval a' (.tmp 57) = .bool true from ((hF 57 (by decide +kernel)).1 (by decide)))) hC rfl (rn_load9 rfl (show Act.eval a' (.tmp 62) = .pointer (some ⟨g, 0, none⟩) from ((hF 62 (by decide +kernel)).1 (by decide))) ((hC.cell (p := ⟨g, 0, none⟩) HG.out).trans K0.out))
  · exact Tl.sm_v 64 _ rfl (Tl.wanted_is rfl rfl (show Act.eval a' (.tmp 57) = .bool true from ((hF 57 (by decide +kernel)).1 (by decide)))) hC rfl (rn_len9 rfl (show Act.eval a' (.tmp 63) = .string B1 from ((hF 63 (by decide +kernel)).1 (by decide))) rfl)
  · exact Tl.sm_v 65 _ rfl (Tl.wanted_is rfl rfl (show Act.eval a' (.tmp 57) = .bool true from ((hF 57 (by decide +kernel)).1 (by decide)))) hC rfl (rn_move rfl ((hF 1 (by decide +kernel)).2 (by decide)))
  · exact Tl.sm_v 66 _ rfl (Tl.wanted_is rfl rfl (show Act.eval a' (.tmp 57) = .bool true from ((hF 57 (by decide +kernel)).1 (by decide)))) hC rfl (rn_ix25 (i := 1) rfl (show Act.eval a' (.tmp 65) = .slice (some ⟨g, 0, none⟩) 2 cap from ((hF 65 (by decide +kernel)).1 (by decide))) rfl (by decide))
  · exact Tl.sm_v 67 _ rfl (Tl.wanted_is rfl rfl (show Act.eval a' (.tmp 57) = .bool true from ((hF 57 (by decide +kernel)).1 (by decide)))) hC rfl (rn_fa39_0 rfl (show Act.eval a' (.tmp 66) = .pointer (some ⟨g, 4, none⟩) from ((hF 66 (by decide +kernel)).1 (by decide))))
  · exact Tl.sm_v 68 _ rfl (Tl.wanted_is rfl rfl (show Act.eval a' (.tmp 57) = .bool true from ((hF 57 (by decide +kernel)).1 (by decide)))) hC rfl (rn_load9 rfl (show Act.eval a' (.tmp 67) = .pointer (some ⟨g, 4, none⟩) from ((hF 67 (by decide +kernel)).1 (by decide))) ((hC.cell (p := ⟨g, 4, none⟩) HG.out).trans K4.out))
  · exact Tl.sm_v 69 _ rfl (Tl.wanted_is rfl rfl (show Act.eval a' (.tmp 57) = .bool true from ((hF 57 (by decide +kernel)).1 (by decide)))) hC rfl (rn_len9 rfl (show Act.eval a' (.tmp 68) = .string B2 from ((hF 68 (by decide +kernel)).1 (by decide))) rfl)
  · exact Tl.sm_v 70 _ rfl (Tl.wanted_is rfl rfl (show Act.eval a' (.tmp 57) = .bool true from ((hF 57 (by decide +kernel)).1 (by decide)))) hC rfl (rn_add3 rfl (show Act.eval a' (.tmp 64) = .int .i64 (B1.size : Int) from ((hF 64 (by decide +kernel)).1 (by decide))) (show Act.eval a' (.tmp 69) = .int .i64 (B2.size : Int) from ((hF 69 (by decide +kernel)).1 (by decide))) HW.out)
  · exact Tl.sm_v 71 _ rfl (Tl.wanted_is rfl rfl (show Act.eval a' (.tmp 57) = .bool true from ((hF 57 (by decide +kernel)).1 (by decide)))) hC rfl (rn_eql3 rfl (show Act.eval a' (.tmp 59) = .int .i64 ((B1.size + B2.size : Nat) : Int) from ((hF 59 (by decide +kernel)).1 (by decide))) (show Act.eval a' (.tmp 70) = .int .i64 ((B1.size + B2.size : Nat) : Int) from ((hF 70 (by decide +kernel)).1 (by decide))) ((by simp)))
  · exact Tl.sm_v 72 _ rfl (Tl.wanted_none rfl) hC rfl (rn_pickT rfl (show Act.eval a' (.tmp 57) = .bool true from ((hF 57 (by decide +kernel)).1 (by decide))) (show Act.eval a' (.tmp 71) = .bool true from ((hF 71 (by decide +kernel)).1 (by decide))))
  · exact Tl.sm_v 0 _ rfl (Tl.wanted_none rfl) hC rfl (rn_assign rfl (show Act.eval a' (.tmp 72) = .bool true from ((hF 72 (by decide +kernel)).1 (by decide))))
  intro v' w6 hC hv
  have e0 : v' 0 = .bool true := hv 0 (by decide)
  have B6 := hid (B5.out.trans (hC.mono B5.out.size))
  simp only [Tl.fill, List.drop]
  simp only [Act.put, List.setIfInBounds_toArray, List.set_cons_succ, List.set_cons_zero, e0]
  simp only [wpList]
  clear hv hC e0
  go_wp2_with fail
  go_ret
  exact ⟨rfl, B6.out⟩
end Go.Proofs.YtjhjolnflkekoaaDoor
