/- The examples of the chapter: works answers yes. -/
import Derived.Test.YtknddbmnciodaaaGreatZCalls
import Derived.Test.YtknddbmnciodaaaGreatLaws
import Derived.BigQuiet
namespace Go.Proofs.YtknddbmnciodaaaGreat
open Go.RowKit
open Ix
set_option linter.unusedVariables false
def wrM2 (n0 n1 n2 : Option Addr) (nc0 nc1 nc2 lo : Nat) : Nat → K
  | 20 => .v (.agg (stV stN n0 n1 n2 nc0 nc1 nc2))
  | 21 => .v (.string (dS 97))
  | 22 => .v (.tuple #[.agg (pl3 ⟨⟨#[]⟩, 0, 0⟩).toArray, .int .i64 5])
  | 19 => .v (.tuple #[.agg (pl3 ⟨⟨#[]⟩, 0, 0⟩).toArray, .int .i64 5])
  | 23 => .v (.agg (pl3 ⟨⟨#[]⟩, 0, 0⟩).toArray)
  | 24 => .v (.int .i64 5)
  | 2 => .box24 lo
  | 1000 => .fin24 ⟨⟨#[]⟩, 0, 0⟩ lo
  | _ => .v undef
theorem ok2 (n0 n1 n2 : Option Addr) (nc0 nc1 nc2 lo : Nat) (d : Nat) : (wrM2 n0 n1 n2 nc0 nc1 nc2 lo d).ok24 ⟨⟨#[]⟩, 0, 0⟩ := by
  unfold wrM2; split <;> first | trivial | rfl
def wrM4 (n0 n1 n2 : Option Addr) (nc0 nc1 nc2 lo : Nat) : Nat → K
  | 31 => .v (.agg (stV stN n0 n1 n2 nc0 nc1 nc2))
  | 32 => .v (.string (dS 97))
  | 33 => .tx [dS 97]
  | 34 => .v (.agg (pl3 ⟨dS 112, 10, 5⟩).toArray)
  | 35 => .ps [⟨dS 112, 10, 5⟩]
  | 36 => .res sT1 0
  | 30 => .res sT1 0
  | 37 => .st sT1
  | 38 => .v (.int .i64 0)
  | 6 => .box35 lo
  | 1000 => .fin35 sT1 lo
  | _ => .v undef
theorem ok4 (n0 n1 n2 : Option Addr) (nc0 nc1 nc2 lo : Nat) (d : Nat) : (wrM4 n0 n1 n2 nc0 nc1 nc2 lo d).ok35 sT1 := by
  unfold wrM4; split <;> first | trivial | rfl
def wrM5 (r0 r1 r2 : Option Addr) (rc0 rc1 rc2 lo : Nat) : Nat → K
  | 40 => .v (.agg (stV sT1 r0 r1 r2 rc0 rc1 rc2))
  | 41 => .v (.string (dS 97))
  | 42 => .v (.tuple #[.agg (pl3 ⟨dS 112, 10, 5⟩).toArray, .int .i64 0])
  | 39 => .v (.tuple #[.agg (pl3 ⟨dS 112, 10, 5⟩).toArray, .int .i64 0])
  | 43 => .v (.agg (pl3 ⟨dS 112, 10, 5⟩).toArray)
  | 44 => .v (.int .i64 0)
  | 8 => .box24 lo
  | 1000 => .fin24 ⟨dS 112, 10, 5⟩ lo
  | _ => .v undef
theorem ok5 (r0 r1 r2 : Option Addr) (rc0 rc1 rc2 lo : Nat) (d : Nat) : (wrM5 r0 r1 r2 rc0 rc1 rc2 lo d).ok24 ⟨dS 112, 10, 5⟩ := by
  unfold wrM5; split <;> first | trivial | rfl
def wrM6 (r0 r1 r2 : Option Addr) (rc0 rc1 rc2 lo : Nat) : Nat → K
  | 46 => .v (.agg (stV sT1 r0 r1 r2 rc0 rc1 rc2))
  | 47 => .v (.string (dS 98))
  | 48 => .tx [dS 98]
  | 49 => .v (.agg (pl3 ⟨dS 112, 12, 5⟩).toArray)
  | 50 => .ps [⟨dS 112, 12, 5⟩]
  | 51 => .res stN 1
  | 45 => .res stN 1
  | 52 => .st stN
  | 53 => .v (.int .i64 1)
  | 10 => .box35 lo
  | 1000 => .fin35 stN lo
  | _ => .v undef
theorem ok6 (r0 r1 r2 : Option Addr) (rc0 rc1 rc2 lo : Nat) (d : Nat) : (wrM6 r0 r1 r2 rc0 rc1 rc2 lo d).ok35 stN := by
  unfold wrM6; split <;> first | trivial | rfl
def wrM7 (r0 r1 r2 : Option Addr) (rc0 rc1 rc2 lo : Nat) : Nat → K
  | 55 => .v (.agg (stV sT1 r0 r1 r2 rc0 rc1 rc2))
  | 56 => .v (.string (dS 98))
  | 57 => .tx [dS 98]
  | 58 => .v (.agg (pl3 ⟨dS 112, 15, 5⟩).toArray)
  | 59 => .ps [⟨dS 112, 15, 5⟩]
  | 60 => .res sT2 0
  | 54 => .res sT2 0
  | 61 => .st sT2
  | 62 => .v (.int .i64 0)
  | 12 => .box35 lo
  | 1000 => .fin35 sT2 lo
  | _ => .v undef
theorem ok7 (r0 r1 r2 : Option Addr) (rc0 rc1 rc2 lo : Nat) (d : Nat) : (wrM7 r0 r1 r2 rc0 rc1 rc2 lo d).ok35 sT2 := by
  unfold wrM7; split <;> first | trivial | rfl
def wrM8 (q0 q1 q2 : Option Addr) (qc0 qc1 qc2 : Nat) : Nat → K
  | 64 => .v (.agg (stV sT2 q0 q1 q2 qc0 qc1 qc2))
  | 65 => .v (.string (dS 112))
  | 66 => .two tL 0
  | 63 => .two tL 0
  | 67 => .r1 tL
  | 68 => .r2 tL
  | 69 => .v (.int .i64 0)
  | 14 => .r1 tL
  | 15 => .r2 tL
  | 16 => .v (.int .i64 0)
  | _ => .v undef
def wrM9 (q0 q1 q2 : Option Addr) (qc0 qc1 qc2 lo : Nat) : Nat → K
  | 71 => .v (.agg (stV sT2 q0 q1 q2 qc0 qc1 qc2))
  | 72 => .v (.string (dS 97))
  | 73 => .tx [dS 97]
  | 74 => .v (.agg (pl3 ⟨dS 113, 0, 5⟩).toArray)
  | 75 => .ps [⟨dS 113, 0, 5⟩]
  | 76 => .res stN 6
  | 70 => .res stN 6
  | 77 => .st stN
  | 78 => .v (.int .i64 6)
  | 17 => .box35 lo
  | 1000 => .fin35 stN lo
  | _ => .v undef
theorem ok9 (q0 q1 q2 : Option Addr) (qc0 qc1 qc2 lo : Nat) (d : Nat) : (wrM9 q0 q1 q2 qc0 qc1 qc2 lo d).ok35 stN := by
  unfold wrM9; split <;> first | trivial | rfl
def wrM10 (A3 A14 A15 : Option Addr) (c3 c14 c15 : Nat) : Nat → K
  | 79 => .v (.int .i64 5)
  | 80 => .v (.bool true)
  | 81 => .v (.bool true)
  | 82 => .v (.int .i64 0)
  | 83 => .v (.bool true)
  | 84 => .v (.bool true)
  | 85 => .v (.bool true)
  | 86 => .v (.slice A3 0 c3)
  | 87 => .v (.int .i64 ((0 : Nat) : Int))
  | 88 => .v (.bool true)
  | 89 => .v (.bool true)
  | 90 => .v (.bool true)
  | 91 => .v (.int .i64 0)
  | 92 => .v (.bool true)
  | 93 => .v (.bool true)
  | 94 => .v (.bool true)
  | 95 => .v (.int .i64 0)
  | 96 => .v (.bool true)
  | 97 => .v (.bool true)
  | 98 => .v (.bool true)
  | 99 => .v (.agg (pl3 ⟨dS 112, 10, 5⟩).toArray)
  | 100 => .v (.agg (pl3 ⟨dS 112, 10, 5⟩).toArray)
  | 101 => .v (.bool true)
  | 102 => .v (.bool true)
  | 103 => .v (.bool true)
  | 104 => .v (.int .i64 1)
  | 105 => .v (.bool true)
  | 106 => .v (.bool true)
  | 107 => .v (.bool true)
  | 108 => .v (.int .i64 0)
  | 109 => .v (.bool true)
  | 110 => .v (.bool true)
  | 111 => .v (.bool true)
  | 112 => .v (.int .i64 0)
  | 113 => .v (.bool true)
  | 114 => .v (.bool true)
  | 115 => .v (.bool true)
  | 116 => .v (.slice A14 2 c14)
  | 117 => .v (.string (dS 97))
  | 118 => .v (.string (dS 98))
  | 119 => .tx [dS 97, dS 98]
  | 120 => .v (.bool true)
  | 121 => .v (.bool true)
  | 122 => .v (.bool true)
  | 123 => .v (.slice A15 2 c15)
  | 124 => .v (.agg (pl3 ⟨dS 112, 10, 5⟩).toArray)
  | 125 => .v (.agg (pl3 ⟨dS 112, 15, 5⟩).toArray)
  | 126 => .ps [⟨dS 112, 10, 5⟩, ⟨dS 112, 15, 5⟩]
  | 127 => .v (.bool true)
  | 128 => .v (.bool true)
  | 129 => .v (.bool true)
  | 130 => .v (.int .i64 6)
  | 131 => .v (.bool true)
  | 132 => .v (.bool true)
  | _ => .v undef
set_option maxRecDepth 20000 in
set_option maxHeartbeats 16000000 in
theorem works_any (w : World) : Calls Tryz.prog 5 #[] w fun e w' => e = .returned (.bool true) ∧ Below w.heap.size w w' := by
  obtain ⟨b1, hb1⟩ : ∃ q, q = w.heap.size := ⟨_, rfl⟩
  obtain ⟨w1, hx⟩ : ∃ x, x = w.alloc (.cells #[.int .i64 0, .int .i64 0, .int .i64 0, .slice none 0 0, .slice none 0 0, .slice none 0 0] 35) := ⟨_, rfl⟩
  have hbx : Below w.heap.size w w1 := by rw [hx]; exact (Below.refl _ _).alloc (Nat.le_refl _) _
  have HB := hid hbx
  obtain ⟨n0, n1, n2, nc0, nc1, nc2, h0, h1, h2, h3⟩ : ∃ (n0 n1 n2 : Option Addr) (nc0 nc1 nc2 : Nat), Has w1 b1 (stV stN n0 n1 n2 nc0 nc1 nc2) 35 ∧ Sn w1 n0 stN.sn ∧ Tx w1 n1 stN.C ∧ Ps w1 n2 stN.P := ⟨none, none, none, 0, 0, 0, by rw [hx]; exact Has.new _ _ _ _ hb1, Sn.nil _ _, Tx.nil _ _, Ps.nil _ _⟩
  have N1 := hid h0
  have nS := hid h1
  have nC := hid h2
  have nP := hid h3
  clear hbx h0 h1 h2 h3
  go_enter Tryz.func5, Tryz.ntmps5
  go_upto_region 2 with fail
  rw [← hx, ← hb1]
  clear hx hb1
  refine Tl.wp_mixs_lit (by kernel_rfl) 8 [20, 21, 22, 19, 23, 24, 2] 133 rfl (by kernel_rfl) (fun W => Below w1.heap.size w1 W) (fun d v W => KF (wrM2 n0 n1 n2 nc0 nc1 nc2 w1.heap.size d) v W) 2 1000 (by decide) ((Below.refl _ _).drew)
    ⟨fun a' W' hC hF => ?_, fun a' W' hC hF => ?_, fun a' W' hC hF => ?_, fun a' W' hC hF => ?_, fun a' W' hC hF => ?_, fun a' W' hC hF => ?_, fun a' W' hC hF => ?_, ⟨rfl, by decide +kernel, fun a' W' hC hF => ?_⟩, trivial⟩ ?_
  · exact Tl.sm_v 20 _ rfl (Tl.wanted_none rfl) hC rfl (zn_load35 rfl ((hF 1 (by decide +kernel)).2 (by decide)) (N1.out.below hC N1.out.lt))
  · refine Tl.sm_call 7 #[_] (Tl.wanted_none rfl) (zn_call1 rfl rfl rfl (en7z _ _)) ((d_any 97 W').mono ?_)
    rintro e W'' ⟨rfl, hb⟩
    exact ⟨_, rfl, hC.trans (hb.mono hC.size), fun d v _ h => KF_mono hb h, fun d hd => by cases hd; rfl⟩
  · refine Tl.sm_call 11 #[_, _] (Tl.wanted_none rfl) (zn_call2 rfl rfl (show Act.eval a' (.tmp 20) = (.agg (stV stN n0 n1 n2 nc0 nc1 nc2)) from ((hF 20 (by decide +kernel)).1 (by decide))) (show Act.eval a' (.tmp 21) = (.string (dS 97)) from ((hF 21 (by decide +kernel)).1 (by decide))) (en11z _ _)) ((find_is (dS 97) ⟨⟨#[]⟩, 0, 0⟩ 5 f2 (by decide) (by decide) (nC.out.below hC) (nP.out.below hC)).mono ?_)
    rintro e W'' ⟨rfl, hb⟩
    exact ⟨_, rfl, hC.trans (hb.mono hC.size), fun d v _ h => KF_mono hb h, fun d hd => by cases hd; rfl⟩
  · exact Tl.sm_v 19 _ rfl (Tl.wanted_none rfl) hC rfl (zn_move rfl (show Act.eval a' (.tmp 22) = (.tuple #[.agg (pl3 ⟨⟨#[]⟩, 0, 0⟩).toArray, .int .i64 5]) from ((hF 22 (by decide +kernel)).1 (by decide))))
  · exact Tl.sm_v 23 _ rfl (Tl.wanted_none rfl) hC rfl (zn_ext0 rfl (show Act.eval a' (.tmp 19) = (.tuple #[.agg (pl3 ⟨⟨#[]⟩, 0, 0⟩).toArray, .int .i64 5]) from ((hF 19 (by decide +kernel)).1 (by decide))))
  · exact Tl.sm_v 24 _ rfl (Tl.wanted_none rfl) hC rfl (zn_ext1 rfl (show Act.eval a' (.tmp 19) = (.tuple #[.agg (pl3 ⟨⟨#[]⟩, 0, 0⟩).toArray, .int .i64 5]) from ((hF 19 (by decide +kernel)).1 (by decide))))
  · exact Tl.sm_w _ (Tl.wanted_none rfl) (zn_alloc24 rfl) (hC.alloc hC.size _) (fun d v _ h => KF_mono ((Below.refl _ _).alloc (Nat.le_refl _) _) h) (fun d hd => by cases hd; exact ⟨_, rfl, hC.size, _, _, _, Has.new _ _ _ _ rfl⟩)
  · obtain ⟨b, hb1, hlo, u0, u1, u2, hb⟩ := ((hF 2 (by decide +kernel)).1 (by decide))
    refine Tl.ss_w (zn_store24 (p := ⟨⟨#[]⟩, 0, 0⟩) rfl ?_ ?_ hb) rfl ?_ ?_ ?_
    · exact hb1
    · exact ((hF 23 (by decide +kernel)).1 (by decide))
    · exact below_put3 hC hlo _ _ _
    · exact fun d v h => KF_put3 (ok2 n0 n1 n2 nc0 nc1 nc2 w1.heap.size d) hb h
    · exact ⟨b, hb1, hlo, put3 hb _ _ _⟩
  intro v' w2 hC hv hS
  obtain ⟨b2, e2, -, hN⟩ := hS 7 (by decide) rfl
  have e24 : v' 24 = .int .i64 5 := hv 24 (by decide)
  clear hv hS
  have HB' := hid (HB.out.trans (hC.mono HB.out.size))
  have N1' := hid (N1.out.below hC N1.out.lt)
  have nS' := hid (nS.out.below hC)
  have nC' := hid (nC.out.below hC)
  have nP' := hid (nP.out.below hC)
  clear HB N1 nS nC nP hC
  have HB := HB'
  have N1 := N1'
  have nS := nS'
  have nC := nC'
  have nP := nP'
  clear HB' N1' nS' nC' nP'
  have N2 := hid hN
  clear hN
  simp only [Tl.fill, List.drop]
  simp only [Act.put, List.setIfInBounds_toArray, List.set_cons_succ, List.set_cons_zero, e24, e2]
  generalize v' 20 = z20
  generalize v' 21 = z21
  generalize v' 22 = z22
  generalize v' 19 = z19
  generalize v' 23 = z23
  clear e24 e2
  go_upto_region 3 with fail
  obtain ⟨k0, k1, k2, k3, k4, k5⟩ := cells6 N1.out
  have C1 := packs_any stN n0 n1 n2 nc0 nc1 nc2 (by decide) (by decide) w2 nC.out nP.out
  rw [p3e, p3v] at C1
  unfold stV at C1
  go_wp2_with fail
  refine C1.mono ?_
  rintro e w3 ⟨v, rfl, hown, hb⟩
  obtain ⟨A3, c3, hv3, -, -⟩ := own_tx (l := []) hown
  obtain rfl : v = .slice A3 0 c3 := hv3
  have HB' := hid (HB.out.trans (hb.mono HB.out.size))
  have N1' := hid (N1.out.below hb N1.out.lt)
  have nS' := hid (nS.out.below hb)
  have nC' := hid (nC.out.below hb)
  have nP' := hid (nP.out.below hb)
  have N2' := hid (N2.out.below hb N2.out.lt)
  clear HB N1 nS nC nP N2 hb hown C1 k0 k1 k2 k3 k4 k5
  have HB := HB'
  have N1 := N1'
  have nS := nS'
  have nC := nC'
  have nP := nP'
  have N2 := N2'
  clear HB' N1' nS' nC' nP' N2'
  go_upto_region 4 with fail
  refine Tl.wp_mixs_lit (by kernel_rfl) 11 [31, 32, 33, 34, 35, 36, 30, 37, 38, 6] 133 rfl (by kernel_rfl) (fun W => Below w3.heap.size w3 W) (fun d v W => KF (wrM4 n0 n1 n2 nc0 nc1 nc2 w3.heap.size d) v W) 6 1000 (by decide) ((Below.refl _ _).drew)
    ⟨fun a' W' hC hF => ?_, fun a' W' hC hF => ?_, fun a' W' hC hF => ?_, fun a' W' hC hF => ?_, fun a' W' hC hF => ?_, fun a' W' hC hF => ?_, fun a' W' hC hF => ?_, fun a' W' hC hF => ?_, fun a' W' hC hF => ?_, fun a' W' hC hF => ?_, ⟨rfl, by decide +kernel, fun a' W' hC hF => ?_⟩, trivial⟩ ?_
  · exact Tl.sm_v 31 _ rfl (Tl.wanted_none rfl) hC rfl (zn_load35 rfl ((hF 1 (by decide +kernel)).2 (by decide)) (N1.out.below hC N1.out.lt))
  · refine Tl.sm_call 7 #[_] (Tl.wanted_none rfl) (zn_call1 rfl rfl rfl (en7z _ _)) ((d_any 97 W').mono ?_)
    rintro e W'' ⟨rfl, hb⟩
    exact ⟨_, rfl, hC.trans (hb.mono hC.size), fun d v _ h => KF_mono hb h, fun d hd => by cases hd; rfl⟩
  · exact Tl.sm_w _ (Tl.wanted_none rfl) (zn_bs29_1 rfl (show Act.eval a' (.tmp 32) = (.string (dS 97)) from ((hF 32 (by decide +kernel)).1 (by decide)))) (hC.alloc hC.size _) (fun d v _ h => KF_mono ((Below.refl _ _).alloc (Nat.le_refl _) _) h) (fun d hd => by cases hd; exact ⟨_, rfl, lit_tx _ _⟩)
  · refine Tl.sm_call 6 #[_, _, _] (Tl.wanted_none rfl) (zn_call3 rfl rfl rfl rfl rfl (en6z _ _)) ((at_any 112 10 5 W').mono ?_)
    rintro e W'' ⟨rfl, hb⟩
    exact ⟨_, rfl, hC.trans (hb.mono hC.size), fun d v _ h => KF_mono hb h, fun d hd => by cases hd; rfl⟩
  · exact Tl.sm_w _ (Tl.wanted_none rfl) (zn_bs30_1 rfl (show Act.eval a' (.tmp 34) = (.agg (pl3 ⟨dS 112, 10, 5⟩).toArray) from ((hF 34 (by decide +kernel)).1 (by decide)))) (hC.alloc hC.size _) (fun d v _ h => KF_mono ((Below.refl _ _).alloc (Nat.le_refl _) _) h) (fun d hd => by cases hd; exact ⟨_, rfl, lit_ps _ _⟩)
  · obtain ⟨g1, hg1, ht1⟩ := ((hF 33 (by decide +kernel)).1 (by decide))
    obtain ⟨g2, hg2, ht2⟩ := ((hF 35 (by decide +kernel)).1 (by decide))
    refine Tl.sm_call 8 #[_, _, _] (Tl.wanted_none rfl) (zn_call3 rfl rfl (show Act.eval a' (.tmp 31) = (.agg (stV stN n0 n1 n2 nc0 nc1 nc2)) from ((hF 31 (by decide +kernel)).1 (by decide))) hg1 hg2 (en8z _ _)) ((add_is [dS 97] [⟨dS 112, 10, 5⟩] sT1 0 e4 i4 (by decide) (by decide) (by decide) (by decide) (fun _ => by decide) (fun _ h => by cases h) (nS.out.below hC) (nC.out.below hC) (nP.out.below hC) ht1 ht2).mono ?_)
    rintro e W'' ⟨u, rfl, hs, hb⟩
    exact ⟨_, rfl, hC.trans (hb.mono hC.size), fun d v _ h => KF_mono hb h, fun d hd => by cases hd; exact ⟨_, rfl, hs⟩⟩
  · exact Tl.sm_v 30 _ rfl (Tl.wanted_none rfl) hC ((hF 36 (by decide +kernel)).1 (by decide)) (zn_move rfl rfl)
  · obtain ⟨u, hu, hs⟩ := ((hF 30 (by decide +kernel)).1 (by decide))
    exact Tl.sm_v 37 _ rfl (Tl.wanted_none rfl) hC hs (zn_ext0 rfl hu)
  · obtain ⟨u, hu, hs⟩ := ((hF 30 (by decide +kernel)).1 (by decide))
    exact Tl.sm_v 38 _ rfl (Tl.wanted_none rfl) hC rfl (zn_ext1 rfl hu)
  · exact Tl.sm_w _ (Tl.wanted_none rfl) (zn_alloc35 rfl) (hC.alloc hC.size _) (fun d v _ h => KF_mono ((Below.refl _ _).alloc (Nat.le_refl _) _) h) (fun d hd => by cases hd; exact ⟨_, rfl, hC.size, _, _, _, _, _, _, Has.new _ _ _ _ rfl, noS_z⟩)
  · obtain ⟨b, hb1, hlo, u0, u1, u2, u3, u4, u5, hb, hn⟩ := ((hF 6 (by decide +kernel)).1 (by decide))
    obtain ⟨A0, A1, A2, d0, d1, d2, hv1, h0, h1, h2⟩ := ((hF 37 (by decide +kernel)).1 (by decide))
    refine Tl.ss_w (zn_store35 (s := sT1) (A0 := A0) (A1 := A1) (A2 := A2) (e0 := d0) (e1 := d1) (e2 := d2) rfl ?_ ?_ hb) rfl ?_ ?_ ?_
    · exact hb1
    · exact hv1
    · exact below_put6 hC hlo _ _ _ _ _ _
    · exact fun d v h => KF_put6 (ok4 n0 n1 n2 nc0 nc1 nc2 w3.heap.size d) hb hn h0 h1 h2 h
    · exact ⟨b, A0, A1, A2, d0, d1, d2, hb1, hlo, put6 hb _ _ _ _ _ _, sn_past h0 hb hn (onl_put6 _ _ _ _ _ _ _ _), tx_past h1 hb hn (onl_put6 _ _ _ _ _ _ _ _), ps_past h2 hb hn (onl_put6 _ _ _ _ _ _ _ _)⟩
  intro v' w4 hC hv hS
  obtain ⟨b6, r0, r1, r2, rc0, rc1, rc2, e6, -, hN, rS', rC', rP'⟩ := hS 10 (by decide) rfl
  have e38 : v' 38 = .int .i64 0 := hv 38 (by decide)
  clear hv hS
  have HB' := hid (HB.out.trans (hC.mono HB.out.size))
  have N1' := hid (N1.out.below hC N1.out.lt)
  have nS' := hid (nS.out.below hC)
  have nC' := hid (nC.out.below hC)
  have nP' := hid (nP.out.below hC)
  have N2' := hid (N2.out.below hC N2.out.lt)
  clear HB N1 nS nC nP N2 hC
  have HB := HB'
  have N1 := N1'
  have nS := nS'
  have nC := nC'
  have nP := nP'
  have N2 := N2'
  clear HB' N1' nS' nC' nP' N2'
  have N6 := hid hN
  have rS := hid rS'
  have rC := hid rC'
  have rP := hid rP'
  clear hN rS' rC' rP'
  simp only [Tl.fill, List.drop]
  simp only [Act.put, List.setIfInBounds_toArray, List.set_cons_succ, List.set_cons_zero, e38, e6]
  generalize v' 31 = z31
  generalize v' 32 = z32
  generalize v' 33 = z33
  generalize v' 34 = z34
  generalize v' 35 = z35
  generalize v' 36 = z36
  generalize v' 30 = z30
  generalize v' 37 = z37
  clear e38 e6
  go_upto_region 5 with fail
  refine Tl.wp_mixs_lit (by kernel_rfl) 8 [40, 41, 42, 39, 43, 44, 8] 133 rfl (by kernel_rfl) (fun W => Below w4.heap.size w4 W) (fun d v W => KF (wrM5 r0 r1 r2 rc0 rc1 rc2 w4.heap.size d) v W) 8 1000 (by decide) ((Below.refl _ _).drew)
    ⟨fun a' W' hC hF => ?_, fun a' W' hC hF => ?_, fun a' W' hC hF => ?_, fun a' W' hC hF => ?_, fun a' W' hC hF => ?_, fun a' W' hC hF => ?_, fun a' W' hC hF => ?_, ⟨rfl, by decide +kernel, fun a' W' hC hF => ?_⟩, trivial⟩ ?_
  · exact Tl.sm_v 40 _ rfl (Tl.wanted_none rfl) hC rfl (zn_load35 rfl ((hF 6 (by decide +kernel)).2 (by decide)) (N6.out.below hC N6.out.lt))
  · refine Tl.sm_call 7 #[_] (Tl.wanted_none rfl) (zn_call1 rfl rfl rfl (en7z _ _)) ((d_any 97 W').mono ?_)
    rintro e W'' ⟨rfl, hb⟩
    exact ⟨_, rfl, hC.trans (hb.mono hC.size), fun d v _ h => KF_mono hb h, fun d hd => by cases hd; rfl⟩
  · refine Tl.sm_call 11 #[_, _] (Tl.wanted_none rfl) (zn_call2 rfl rfl (show Act.eval a' (.tmp 40) = (.agg (stV sT1 r0 r1 r2 rc0 rc1 rc2)) from ((hF 40 (by decide +kernel)).1 (by decide))) (show Act.eval a' (.tmp 41) = (.string (dS 97)) from ((hF 41 (by decide +kernel)).1 (by decide))) (en11z _ _)) ((find_is (dS 97) ⟨dS 112, 10, 5⟩ 0 f5 (by decide) (by decide) (rC.out.below hC) (rP.out.below hC)).mono ?_)
    rintro e W'' ⟨rfl, hb⟩
    exact ⟨_, rfl, hC.trans (hb.mono hC.size), fun d v _ h => KF_mono hb h, fun d hd => by cases hd; rfl⟩
  · exact Tl.sm_v 39 _ rfl (Tl.wanted_none rfl) hC rfl (zn_move rfl (show Act.eval a' (.tmp 42) = (.tuple #[.agg (pl3 ⟨dS 112, 10, 5⟩).toArray, .int .i64 0]) from ((hF 42 (by decide +kernel)).1 (by decide))))
  · exact Tl.sm_v 43 _ rfl (Tl.wanted_none rfl) hC rfl (zn_ext0 rfl (show Act.eval a' (.tmp 39) = (.tuple #[.agg (pl3 ⟨dS 112, 10, 5⟩).toArray, .int .i64 0]) from ((hF 39 (by decide +kernel)).1 (by decide))))
  · exact Tl.sm_v 44 _ rfl (Tl.wanted_none rfl) hC rfl (zn_ext1 rfl (show Act.eval a' (.tmp 39) = (.tuple #[.agg (pl3 ⟨dS 112, 10, 5⟩).toArray, .int .i64 0]) from ((hF 39 (by decide +kernel)).1 (by decide))))
  · exact Tl.sm_w _ (Tl.wanted_none rfl) (zn_alloc24 rfl) (hC.alloc hC.size _) (fun d v _ h => KF_mono ((Below.refl _ _).alloc (Nat.le_refl _) _) h) (fun d hd => by cases hd; exact ⟨_, rfl, hC.size, _, _, _, Has.new _ _ _ _ rfl⟩)
  · obtain ⟨b, hb1, hlo, u0, u1, u2, hb⟩ := ((hF 8 (by decide +kernel)).1 (by decide))
    refine Tl.ss_w (zn_store24 (p := ⟨dS 112, 10, 5⟩) rfl ?_ ?_ hb) rfl ?_ ?_ ?_
    · exact hb1
    · exact ((hF 43 (by decide +kernel)).1 (by decide))
    · exact below_put3 hC hlo _ _ _
    · exact fun d v h => KF_put3 (ok5 r0 r1 r2 rc0 rc1 rc2 w4.heap.size d) hb h
    · exact ⟨b, hb1, hlo, put3 hb _ _ _⟩
  intro v' w5 hC hv hS
  obtain ⟨b8, e8, -, hN⟩ := hS 7 (by decide) rfl
  have e44 : v' 44 = .int .i64 0 := hv 44 (by decide)
  clear hv hS
  have HB' := hid (HB.out.trans (hC.mono HB.out.size))
  have N1' := hid (N1.out.below hC N1.out.lt)
  have nS' := hid (nS.out.below hC)
  have nC' := hid (nC.out.below hC)
  have nP' := hid (nP.out.below hC)
  have N2' := hid (N2.out.below hC N2.out.lt)
  have rS' := hid (rS.out.below hC)
  have rC' := hid (rC.out.below hC)
  have rP' := hid (rP.out.below hC)
  have N6' := hid (N6.out.below hC N6.out.lt)
  clear HB N1 nS nC nP N2 rS rC rP N6 hC
  have HB := HB'
  have N1 := N1'
  have nS := nS'
  have nC := nC'
  have nP := nP'
  have N2 := N2'
  have rS := rS'
  have rC := rC'
  have rP := rP'
  have N6 := N6'
  clear HB' N1' nS' nC' nP' N2' rS' rC' rP' N6'
  have N8 := hid hN
  clear hN
  simp only [Tl.fill, List.drop]
  simp only [Act.put, List.setIfInBounds_toArray, List.set_cons_succ, List.set_cons_zero, e44, e8]
  generalize v' 40 = z40
  generalize v' 41 = z41
  generalize v' 42 = z42
  generalize v' 39 = z39
  generalize v' 43 = z43
  clear e44 e8
  go_upto_region 6 with fail
  refine Tl.wp_mixs_lit (by kernel_rfl) 11 [46, 47, 48, 49, 50, 51, 45, 52, 53, 10] 133 rfl (by kernel_rfl) (fun W => Below w5.heap.size w5 W) (fun d v W => KF (wrM6 r0 r1 r2 rc0 rc1 rc2 w5.heap.size d) v W) 10 1000 (by decide) ((Below.refl _ _).drew)
    ⟨fun a' W' hC hF => ?_, fun a' W' hC hF => ?_, fun a' W' hC hF => ?_, fun a' W' hC hF => ?_, fun a' W' hC hF => ?_, fun a' W' hC hF => ?_, fun a' W' hC hF => ?_, fun a' W' hC hF => ?_, fun a' W' hC hF => ?_, fun a' W' hC hF => ?_, ⟨rfl, by decide +kernel, fun a' W' hC hF => ?_⟩, trivial⟩ ?_
  · exact Tl.sm_v 46 _ rfl (Tl.wanted_none rfl) hC rfl (zn_load35 rfl ((hF 6 (by decide +kernel)).2 (by decide)) (N6.out.below hC N6.out.lt))
  · refine Tl.sm_call 7 #[_] (Tl.wanted_none rfl) (zn_call1 rfl rfl rfl (en7z _ _)) ((d_any 98 W').mono ?_)
    rintro e W'' ⟨rfl, hb⟩
    exact ⟨_, rfl, hC.trans (hb.mono hC.size), fun d v _ h => KF_mono hb h, fun d hd => by cases hd; rfl⟩
  · exact Tl.sm_w _ (Tl.wanted_none rfl) (zn_bs29_1 rfl (show Act.eval a' (.tmp 47) = (.string (dS 98)) from ((hF 47 (by decide +kernel)).1 (by decide)))) (hC.alloc hC.size _) (fun d v _ h => KF_mono ((Below.refl _ _).alloc (Nat.le_refl _) _) h) (fun d hd => by cases hd; exact ⟨_, rfl, lit_tx _ _⟩)
  · refine Tl.sm_call 6 #[_, _, _] (Tl.wanted_none rfl) (zn_call3 rfl rfl rfl rfl rfl (en6z _ _)) ((at_any 112 12 5 W').mono ?_)
    rintro e W'' ⟨rfl, hb⟩
    exact ⟨_, rfl, hC.trans (hb.mono hC.size), fun d v _ h => KF_mono hb h, fun d hd => by cases hd; rfl⟩
  · exact Tl.sm_w _ (Tl.wanted_none rfl) (zn_bs30_1 rfl (show Act.eval a' (.tmp 49) = (.agg (pl3 ⟨dS 112, 12, 5⟩).toArray) from ((hF 49 (by decide +kernel)).1 (by decide)))) (hC.alloc hC.size _) (fun d v _ h => KF_mono ((Below.refl _ _).alloc (Nat.le_refl _) _) h) (fun d hd => by cases hd; exact ⟨_, rfl, lit_ps _ _⟩)
  · obtain ⟨g1, hg1, ht1⟩ := ((hF 48 (by decide +kernel)).1 (by decide))
    obtain ⟨g2, hg2, ht2⟩ := ((hF 50 (by decide +kernel)).1 (by decide))
    refine Tl.sm_call 8 #[_, _, _] (Tl.wanted_none rfl) (zn_call3 rfl rfl (show Act.eval a' (.tmp 46) = (.agg (stV sT1 r0 r1 r2 rc0 rc1 rc2)) from ((hF 46 (by decide +kernel)).1 (by decide))) hg1 hg2 (en8z _ _)) ((add_is [dS 98] [⟨dS 112, 12, 5⟩] stN 1 e6 i6 (by decide) (by decide) (by decide) (by decide) (fun _ => by decide) (fun _ h => by cases h) (rS.out.below hC) (rC.out.below hC) (rP.out.below hC) ht1 ht2).mono ?_)
    rintro e W'' ⟨u, rfl, hs, hb⟩
    exact ⟨_, rfl, hC.trans (hb.mono hC.size), fun d v _ h => KF_mono hb h, fun d hd => by cases hd; exact ⟨_, rfl, hs⟩⟩
  · exact Tl.sm_v 45 _ rfl (Tl.wanted_none rfl) hC ((hF 51 (by decide +kernel)).1 (by decide)) (zn_move rfl rfl)
  · obtain ⟨u, hu, hs⟩ := ((hF 45 (by decide +kernel)).1 (by decide))
    exact Tl.sm_v 52 _ rfl (Tl.wanted_none rfl) hC hs (zn_ext0 rfl hu)
  · obtain ⟨u, hu, hs⟩ := ((hF 45 (by decide +kernel)).1 (by decide))
    exact Tl.sm_v 53 _ rfl (Tl.wanted_none rfl) hC rfl (zn_ext1 rfl hu)
  · exact Tl.sm_w _ (Tl.wanted_none rfl) (zn_alloc35 rfl) (hC.alloc hC.size _) (fun d v _ h => KF_mono ((Below.refl _ _).alloc (Nat.le_refl _) _) h) (fun d hd => by cases hd; exact ⟨_, rfl, hC.size, _, _, _, _, _, _, Has.new _ _ _ _ rfl, noS_z⟩)
  · obtain ⟨b, hb1, hlo, u0, u1, u2, u3, u4, u5, hb, hn⟩ := ((hF 10 (by decide +kernel)).1 (by decide))
    obtain ⟨A0, A1, A2, d0, d1, d2, hv1, h0, h1, h2⟩ := ((hF 52 (by decide +kernel)).1 (by decide))
    refine Tl.ss_w (zn_store35 (s := stN) (A0 := A0) (A1 := A1) (A2 := A2) (e0 := d0) (e1 := d1) (e2 := d2) rfl ?_ ?_ hb) rfl ?_ ?_ ?_
    · exact hb1
    · exact hv1
    · exact below_put6 hC hlo _ _ _ _ _ _
    · exact fun d v h => KF_put6 (ok6 r0 r1 r2 rc0 rc1 rc2 w5.heap.size d) hb hn h0 h1 h2 h
    · exact ⟨b, A0, A1, A2, d0, d1, d2, hb1, hlo, put6 hb _ _ _ _ _ _, sn_past h0 hb hn (onl_put6 _ _ _ _ _ _ _ _), tx_past h1 hb hn (onl_put6 _ _ _ _ _ _ _ _), ps_past h2 hb hn (onl_put6 _ _ _ _ _ _ _ _)⟩
  intro v' w6 hC hv hS
  obtain ⟨b10, p0, p1, p2, pc0, pc1, pc2, e10, -, hN, pS', pC', pP'⟩ := hS 10 (by decide) rfl
  have e53 : v' 53 = .int .i64 1 := hv 53 (by decide)
  clear hv hS
  have HB' := hid (HB.out.trans (hC.mono HB.out.size))
  have N1' := hid (N1.out.below hC N1.out.lt)
  have nS' := hid (nS.out.below hC)
  have nC' := hid (nC.out.below hC)
  have nP' := hid (nP.out.below hC)
  have N2' := hid (N2.out.below hC N2.out.lt)
  have rS' := hid (rS.out.below hC)
  have rC' := hid (rC.out.below hC)
  have rP' := hid (rP.out.below hC)
  have N6' := hid (N6.out.below hC N6.out.lt)
  have N8' := hid (N8.out.below hC N8.out.lt)
  clear HB N1 nS nC nP N2 rS rC rP N6 N8 hC
  have HB := HB'
  have N1 := N1'
  have nS := nS'
  have nC := nC'
  have nP := nP'
  have N2 := N2'
  have rS := rS'
  have rC := rC'
  have rP := rP'
  have N6 := N6'
  have N8 := N8'
  clear HB' N1' nS' nC' nP' N2' rS' rC' rP' N6' N8'
  have N10 := hid hN
  have pS := hid pS'
  have pC := hid pC'
  have pP := hid pP'
  clear hN pS' pC' pP'
  simp only [Tl.fill, List.drop]
  simp only [Act.put, List.setIfInBounds_toArray, List.set_cons_succ, List.set_cons_zero, e53, e10]
  generalize v' 46 = z46
  generalize v' 47 = z47
  generalize v' 48 = z48
  generalize v' 49 = z49
  generalize v' 50 = z50
  generalize v' 51 = z51
  generalize v' 45 = z45
  generalize v' 52 = z52
  clear e53 e10
  go_upto_region 7 with fail
  refine Tl.wp_mixs_lit (by kernel_rfl) 11 [55, 56, 57, 58, 59, 60, 54, 61, 62, 12] 133 rfl (by kernel_rfl) (fun W => Below w6.heap.size w6 W) (fun d v W => KF (wrM7 r0 r1 r2 rc0 rc1 rc2 w6.heap.size d) v W) 12 1000 (by decide) ((Below.refl _ _).drew)
    ⟨fun a' W' hC hF => ?_, fun a' W' hC hF => ?_, fun a' W' hC hF => ?_, fun a' W' hC hF => ?_, fun a' W' hC hF => ?_, fun a' W' hC hF => ?_, fun a' W' hC hF => ?_, fun a' W' hC hF => ?_, fun a' W' hC hF => ?_, fun a' W' hC hF => ?_, ⟨rfl, by decide +kernel, fun a' W' hC hF => ?_⟩, trivial⟩ ?_
  · exact Tl.sm_v 55 _ rfl (Tl.wanted_none rfl) hC rfl (zn_load35 rfl ((hF 6 (by decide +kernel)).2 (by decide)) (N6.out.below hC N6.out.lt))
  · refine Tl.sm_call 7 #[_] (Tl.wanted_none rfl) (zn_call1 rfl rfl rfl (en7z _ _)) ((d_any 98 W').mono ?_)
    rintro e W'' ⟨rfl, hb⟩
    exact ⟨_, rfl, hC.trans (hb.mono hC.size), fun d v _ h => KF_mono hb h, fun d hd => by cases hd; rfl⟩
  · exact Tl.sm_w _ (Tl.wanted_none rfl) (zn_bs29_1 rfl (show Act.eval a' (.tmp 56) = (.string (dS 98)) from ((hF 56 (by decide +kernel)).1 (by decide)))) (hC.alloc hC.size _) (fun d v _ h => KF_mono ((Below.refl _ _).alloc (Nat.le_refl _) _) h) (fun d hd => by cases hd; exact ⟨_, rfl, lit_tx _ _⟩)
  · refine Tl.sm_call 6 #[_, _, _] (Tl.wanted_none rfl) (zn_call3 rfl rfl rfl rfl rfl (en6z _ _)) ((at_any 112 15 5 W').mono ?_)
    rintro e W'' ⟨rfl, hb⟩
    exact ⟨_, rfl, hC.trans (hb.mono hC.size), fun d v _ h => KF_mono hb h, fun d hd => by cases hd; rfl⟩
  · exact Tl.sm_w _ (Tl.wanted_none rfl) (zn_bs30_1 rfl (show Act.eval a' (.tmp 58) = (.agg (pl3 ⟨dS 112, 15, 5⟩).toArray) from ((hF 58 (by decide +kernel)).1 (by decide)))) (hC.alloc hC.size _) (fun d v _ h => KF_mono ((Below.refl _ _).alloc (Nat.le_refl _) _) h) (fun d hd => by cases hd; exact ⟨_, rfl, lit_ps _ _⟩)
  · obtain ⟨g1, hg1, ht1⟩ := ((hF 57 (by decide +kernel)).1 (by decide))
    obtain ⟨g2, hg2, ht2⟩ := ((hF 59 (by decide +kernel)).1 (by decide))
    refine Tl.sm_call 8 #[_, _, _] (Tl.wanted_none rfl) (zn_call3 rfl rfl (show Act.eval a' (.tmp 55) = (.agg (stV sT1 r0 r1 r2 rc0 rc1 rc2)) from ((hF 55 (by decide +kernel)).1 (by decide))) hg1 hg2 (en8z _ _)) ((add_is [dS 98] [⟨dS 112, 15, 5⟩] sT2 0 e7 i7 (by decide) (by decide) (by decide) (by decide) (fun _ => by decide) (fun _ h => by cases h) (rS.out.below hC) (rC.out.below hC) (rP.out.below hC) ht1 ht2).mono ?_)
    rintro e W'' ⟨u, rfl, hs, hb⟩
    exact ⟨_, rfl, hC.trans (hb.mono hC.size), fun d v _ h => KF_mono hb h, fun d hd => by cases hd; exact ⟨_, rfl, hs⟩⟩
  · exact Tl.sm_v 54 _ rfl (Tl.wanted_none rfl) hC ((hF 60 (by decide +kernel)).1 (by decide)) (zn_move rfl rfl)
  · obtain ⟨u, hu, hs⟩ := ((hF 54 (by decide +kernel)).1 (by decide))
    exact Tl.sm_v 61 _ rfl (Tl.wanted_none rfl) hC hs (zn_ext0 rfl hu)
  · obtain ⟨u, hu, hs⟩ := ((hF 54 (by decide +kernel)).1 (by decide))
    exact Tl.sm_v 62 _ rfl (Tl.wanted_none rfl) hC rfl (zn_ext1 rfl hu)
  · exact Tl.sm_w _ (Tl.wanted_none rfl) (zn_alloc35 rfl) (hC.alloc hC.size _) (fun d v _ h => KF_mono ((Below.refl _ _).alloc (Nat.le_refl _) _) h) (fun d hd => by cases hd; exact ⟨_, rfl, hC.size, _, _, _, _, _, _, Has.new _ _ _ _ rfl, noS_z⟩)
  · obtain ⟨b, hb1, hlo, u0, u1, u2, u3, u4, u5, hb, hn⟩ := ((hF 12 (by decide +kernel)).1 (by decide))
    obtain ⟨A0, A1, A2, d0, d1, d2, hv1, h0, h1, h2⟩ := ((hF 61 (by decide +kernel)).1 (by decide))
    refine Tl.ss_w (zn_store35 (s := sT2) (A0 := A0) (A1 := A1) (A2 := A2) (e0 := d0) (e1 := d1) (e2 := d2) rfl ?_ ?_ hb) rfl ?_ ?_ ?_
    · exact hb1
    · exact hv1
    · exact below_put6 hC hlo _ _ _ _ _ _
    · exact fun d v h => KF_put6 (ok7 r0 r1 r2 rc0 rc1 rc2 w6.heap.size d) hb hn h0 h1 h2 h
    · exact ⟨b, A0, A1, A2, d0, d1, d2, hb1, hlo, put6 hb _ _ _ _ _ _, sn_past h0 hb hn (onl_put6 _ _ _ _ _ _ _ _), tx_past h1 hb hn (onl_put6 _ _ _ _ _ _ _ _), ps_past h2 hb hn (onl_put6 _ _ _ _ _ _ _ _)⟩
  intro v' w7 hC hv hS
  obtain ⟨b12, q0, q1, q2, qc0, qc1, qc2, e12, -, hN, qS', qC', qP'⟩ := hS 10 (by decide) rfl
  have e62 : v' 62 = .int .i64 0 := hv 62 (by decide)
  clear hv hS
  have HB' := hid (HB.out.trans (hC.mono HB.out.size))
  have N1' := hid (N1.out.below hC N1.out.lt)
  have nS' := hid (nS.out.below hC)
  have nC' := hid (nC.out.below hC)
  have nP' := hid (nP.out.below hC)
  have N2' := hid (N2.out.below hC N2.out.lt)
  have rS' := hid (rS.out.below hC)
  have rC' := hid (rC.out.below hC)
  have rP' := hid (rP.out.below hC)
  have N6' := hid (N6.out.below hC N6.out.lt)
  have N8' := hid (N8.out.below hC N8.out.lt)
  have pS' := hid (pS.out.below hC)
  have pC' := hid (pC.out.below hC)
  have pP' := hid (pP.out.below hC)
  have N10' := hid (N10.out.below hC N10.out.lt)
  clear HB N1 nS nC nP N2 rS rC rP N6 N8 pS pC pP N10 hC
  have HB := HB'
  have N1 := N1'
  have nS := nS'
  have nC := nC'
  have nP := nP'
  have N2 := N2'
  have rS := rS'
  have rC := rC'
  have rP := rP'
  have N6 := N6'
  have N8 := N8'
  have pS := pS'
  have pC := pC'
  have pP := pP'
  have N10 := N10'
  clear HB' N1' nS' nC' nP' N2' rS' rC' rP' N6' N8' pS' pC' pP' N10'
  have N12 := hid hN
  have qS := hid qS'
  have qC := hid qC'
  have qP := hid qP'
  clear hN qS' qC' qP'
  simp only [Tl.fill, List.drop]
  simp only [Act.put, List.setIfInBounds_toArray, List.set_cons_succ, List.set_cons_zero, e62, e12]
  generalize v' 55 = z55
  generalize v' 56 = z56
  generalize v' 57 = z57
  generalize v' 58 = z58
  generalize v' 59 = z59
  generalize v' 60 = z60
  generalize v' 54 = z54
  generalize v' 61 = z61
  clear e62 e12
  go_upto_region 8 with fail
  refine Tl.wp_mix_lit (by kernel_rfl) 10 [64, 65, 66, 63, 67, 68, 69, 14, 15, 16] 133 rfl (by kernel_rfl) (fun W => Below w7.heap.size w7 W) (fun d v W => KF (wrM8 q0 q1 q2 qc0 qc1 qc2 d) v W) ((Below.refl _ _).drew)
    ⟨fun a' W' hC hF => ?_, fun a' W' hC hF => ?_, fun a' W' hC hF => ?_, fun a' W' hC hF => ?_, fun a' W' hC hF => ?_, fun a' W' hC hF => ?_, fun a' W' hC hF => ?_, fun a' W' hC hF => ?_, fun a' W' hC hF => ?_, fun a' W' hC hF => ?_, trivial⟩ ?_
  · exact Tl.sm_v 64 _ rfl (Tl.wanted_none rfl) hC rfl (zn_load35 rfl ((hF 12 (by decide +kernel)).2 (by decide)) (N12.out.below hC N12.out.lt))
  · refine Tl.sm_call 7 #[_] (Tl.wanted_none rfl) (zn_call1 rfl rfl rfl (en7z _ _)) ((d_any 112 W').mono ?_)
    rintro e W'' ⟨rfl, hb⟩
    exact ⟨_, rfl, hC.trans (hb.mono hC.size), fun d v _ h => KF_mono hb h, fun d hd => by cases hd; rfl⟩
  · refine Tl.sm_call 14 #[_, _] (Tl.wanted_none rfl) (zn_call2 rfl rfl (show Act.eval a' (.tmp 64) = (.agg (stV sT2 q0 q1 q2 qc0 qc1 qc2)) from ((hF 64 (by decide +kernel)).1 (by decide))) (show Act.eval a' (.tmp 65) = (.string (dS 112)) from ((hF 65 (by decide +kernel)).1 (by decide))) (en14z _ _)) ((of_is (dS 112) tL 0 o8 v8 (by decide) (by decide) (qC.out.below hC) (qP.out.below hC)).mono ?_)
    rintro e W'' ⟨u, rfl, hs, hb⟩
    exact ⟨_, rfl, hC.trans (hb.mono hC.size), fun d v _ h => KF_mono hb h, fun d hd => by cases hd; exact hs⟩
  · exact Tl.sm_v 63 _ rfl (Tl.wanted_none rfl) hC ((hF 66 (by decide +kernel)).1 (by decide)) (zn_move rfl rfl)
  · obtain ⟨A1, A2, e1, e2, hu, h1, h2⟩ := ((hF 63 (by decide +kernel)).1 (by decide))
    exact Tl.sm_v 67 _ rfl (Tl.wanted_none rfl) hC ⟨A1, e1, rfl, h1⟩ (zn_et0 rfl hu)
  · obtain ⟨A1, A2, e1, e2, hu, h1, h2⟩ := ((hF 63 (by decide +kernel)).1 (by decide))
    exact Tl.sm_v 68 _ rfl (Tl.wanted_none rfl) hC ⟨A2, e2, rfl, h2⟩ (zn_et1 rfl hu)
  · obtain ⟨A1, A2, e1, e2, hu, h1, h2⟩ := ((hF 63 (by decide +kernel)).1 (by decide))
    exact Tl.sm_v 69 _ rfl (Tl.wanted_none rfl) hC rfl (zn_et2 rfl hu)
  · exact Tl.sm_v 14 _ rfl (Tl.wanted_none rfl) hC ((hF 67 (by decide +kernel)).1 (by decide)) (zn_assign rfl rfl)
  · exact Tl.sm_v 15 _ rfl (Tl.wanted_none rfl) hC ((hF 68 (by decide +kernel)).1 (by decide)) (zn_assign rfl rfl)
  · exact Tl.sm_v 16 _ rfl (Tl.wanted_none rfl) hC rfl (zn_assign rfl (show Act.eval a' (.tmp 69) = (.int .i64 0) from ((hF 69 (by decide +kernel)).1 (by decide))))
  intro v' w8 hC hv
  obtain ⟨A14, c14, e14, h1⟩ := hv 14 (by decide)
  obtain ⟨A15, c15, e15, h2⟩ := hv 15 (by decide)
  have e16 : v' 16 = .int .i64 0 := hv 16 (by decide)
  clear hv
  have HB' := hid (HB.out.trans (hC.mono HB.out.size))
  have N1' := hid (N1.out.below hC N1.out.lt)
  have nS' := hid (nS.out.below hC)
  have nC' := hid (nC.out.below hC)
  have nP' := hid (nP.out.below hC)
  have N2' := hid (N2.out.below hC N2.out.lt)
  have rS' := hid (rS.out.below hC)
  have rC' := hid (rC.out.below hC)
  have rP' := hid (rP.out.below hC)
  have N6' := hid (N6.out.below hC N6.out.lt)
  have N8' := hid (N8.out.below hC N8.out.lt)
  have pS' := hid (pS.out.below hC)
  have pC' := hid (pC.out.below hC)
  have pP' := hid (pP.out.below hC)
  have N10' := hid (N10.out.below hC N10.out.lt)
  have qS' := hid (qS.out.below hC)
  have qC' := hid (qC.out.below hC)
  have qP' := hid (qP.out.below hC)
  have N12' := hid (N12.out.below hC N12.out.lt)
  clear HB N1 nS nC nP N2 rS rC rP N6 N8 pS pC pP N10 qS qC qP N12 hC
  have HB := HB'
  have N1 := N1'
  have nS := nS'
  have nC := nC'
  have nP := nP'
  have N2 := N2'
  have rS := rS'
  have rC := rC'
  have rP := rP'
  have N6 := N6'
  have N8 := N8'
  have pS := pS'
  have pC := pC'
  have pP := pP'
  have N10 := N10'
  have qS := qS'
  have qC := qC'
  have qP := qP'
  have N12 := N12'
  clear HB' N1' nS' nC' nP' N2' rS' rC' rP' N6' N8' pS' pC' pP' N10' qS' qC' qP' N12'
  have T14 : Hid (Tx w8 A14 [dS 97, dS 98]) := hid h1
  have T15 : Hid (Ps w8 A15 [⟨dS 112, 10, 5⟩, ⟨dS 112, 15, 5⟩]) := hid h2
  clear h1 h2
  simp only [Tl.fill, List.drop]
  simp only [Act.put, List.setIfInBounds_toArray, List.set_cons_succ, List.set_cons_zero, e14, e15, e16]
  generalize v' 64 = z64
  generalize v' 65 = z65
  generalize v' 66 = z66
  generalize v' 63 = z63
  generalize v' 67 = z67
  generalize v' 68 = z68
  generalize v' 69 = z69
  clear e14 e15 e16
  go_upto_region 9 with fail
  refine Tl.wp_mixs_lit (by kernel_rfl) 11 [71, 72, 73, 74, 75, 76, 70, 77, 78, 17] 133 rfl (by kernel_rfl) (fun W => Below w8.heap.size w8 W) (fun d v W => KF (wrM9 q0 q1 q2 qc0 qc1 qc2 w8.heap.size d) v W) 17 1000 (by decide) ((Below.refl _ _).drew)
    ⟨fun a' W' hC hF => ?_, fun a' W' hC hF => ?_, fun a' W' hC hF => ?_, fun a' W' hC hF => ?_, fun a' W' hC hF => ?_, fun a' W' hC hF => ?_, fun a' W' hC hF => ?_, fun a' W' hC hF => ?_, fun a' W' hC hF => ?_, fun a' W' hC hF => ?_, ⟨rfl, by decide +kernel, fun a' W' hC hF => ?_⟩, trivial⟩ ?_
  · exact Tl.sm_v 71 _ rfl (Tl.wanted_none rfl) hC rfl (zn_load35 rfl ((hF 12 (by decide +kernel)).2 (by decide)) (N12.out.below hC N12.out.lt))
  · refine Tl.sm_call 7 #[_] (Tl.wanted_none rfl) (zn_call1 rfl rfl rfl (en7z _ _)) ((d_any 97 W').mono ?_)
    rintro e W'' ⟨rfl, hb⟩
    exact ⟨_, rfl, hC.trans (hb.mono hC.size), fun d v _ h => KF_mono hb h, fun d hd => by cases hd; rfl⟩
  · exact Tl.sm_w _ (Tl.wanted_none rfl) (zn_bs29_1 rfl (show Act.eval a' (.tmp 72) = (.string (dS 97)) from ((hF 72 (by decide +kernel)).1 (by decide)))) (hC.alloc hC.size _) (fun d v _ h => KF_mono ((Below.refl _ _).alloc (Nat.le_refl _) _) h) (fun d hd => by cases hd; exact ⟨_, rfl, lit_tx _ _⟩)
  · refine Tl.sm_call 6 #[_, _, _] (Tl.wanted_none rfl) (zn_call3 rfl rfl rfl rfl rfl (en6z _ _)) ((at_any 113 0 5 W').mono ?_)
    rintro e W'' ⟨rfl, hb⟩
    exact ⟨_, rfl, hC.trans (hb.mono hC.size), fun d v _ h => KF_mono hb h, fun d hd => by cases hd; rfl⟩
  · exact Tl.sm_w _ (Tl.wanted_none rfl) (zn_bs30_1 rfl (show Act.eval a' (.tmp 74) = (.agg (pl3 ⟨dS 113, 0, 5⟩).toArray) from ((hF 74 (by decide +kernel)).1 (by decide)))) (hC.alloc hC.size _) (fun d v _ h => KF_mono ((Below.refl _ _).alloc (Nat.le_refl _) _) h) (fun d hd => by cases hd; exact ⟨_, rfl, lit_ps _ _⟩)
  · obtain ⟨g1, hg1, ht1⟩ := ((hF 73 (by decide +kernel)).1 (by decide))
    obtain ⟨g2, hg2, ht2⟩ := ((hF 75 (by decide +kernel)).1 (by decide))
    refine Tl.sm_call 8 #[_, _, _] (Tl.wanted_none rfl) (zn_call3 rfl rfl (show Act.eval a' (.tmp 71) = (.agg (stV sT2 q0 q1 q2 qc0 qc1 qc2)) from ((hF 71 (by decide +kernel)).1 (by decide))) hg1 hg2 (en8z _ _)) ((add_is [dS 97] [⟨dS 113, 0, 5⟩] stN 6 e9 i9 (by decide) (by decide) (by decide) (by decide) (fun _ => by decide) (fun _ h => by cases h) (qS.out.below hC) (qC.out.below hC) (qP.out.below hC) ht1 ht2).mono ?_)
    rintro e W'' ⟨u, rfl, hs, hb⟩
    exact ⟨_, rfl, hC.trans (hb.mono hC.size), fun d v _ h => KF_mono hb h, fun d hd => by cases hd; exact ⟨_, rfl, hs⟩⟩
  · exact Tl.sm_v 70 _ rfl (Tl.wanted_none rfl) hC ((hF 76 (by decide +kernel)).1 (by decide)) (zn_move rfl rfl)
  · obtain ⟨u, hu, hs⟩ := ((hF 70 (by decide +kernel)).1 (by decide))
    exact Tl.sm_v 77 _ rfl (Tl.wanted_none rfl) hC hs (zn_ext0 rfl hu)
  · obtain ⟨u, hu, hs⟩ := ((hF 70 (by decide +kernel)).1 (by decide))
    exact Tl.sm_v 78 _ rfl (Tl.wanted_none rfl) hC rfl (zn_ext1 rfl hu)
  · exact Tl.sm_w _ (Tl.wanted_none rfl) (zn_alloc35 rfl) (hC.alloc hC.size _) (fun d v _ h => KF_mono ((Below.refl _ _).alloc (Nat.le_refl _) _) h) (fun d hd => by cases hd; exact ⟨_, rfl, hC.size, _, _, _, _, _, _, Has.new _ _ _ _ rfl, noS_z⟩)
  · obtain ⟨b, hb1, hlo, u0, u1, u2, u3, u4, u5, hb, hn⟩ := ((hF 17 (by decide +kernel)).1 (by decide))
    obtain ⟨A0, A1, A2, d0, d1, d2, hv1, h0, h1, h2⟩ := ((hF 77 (by decide +kernel)).1 (by decide))
    refine Tl.ss_w (zn_store35 (s := stN) (A0 := A0) (A1 := A1) (A2 := A2) (e0 := d0) (e1 := d1) (e2 := d2) rfl ?_ ?_ hb) rfl ?_ ?_ ?_
    · exact hb1
    · exact hv1
    · exact below_put6 hC hlo _ _ _ _ _ _
    · exact fun d v h => KF_put6 (ok9 q0 q1 q2 qc0 qc1 qc2 w8.heap.size d) hb hn h0 h1 h2 h
    · exact ⟨b, A0, A1, A2, d0, d1, d2, hb1, hlo, put6 hb _ _ _ _ _ _, sn_past h0 hb hn (onl_put6 _ _ _ _ _ _ _ _), tx_past h1 hb hn (onl_put6 _ _ _ _ _ _ _ _), ps_past h2 hb hn (onl_put6 _ _ _ _ _ _ _ _)⟩
  intro v' w9 hC hv hS
  obtain ⟨b17, y0, y1, y2, yc0, yc1, yc2, e17, -, hN, yS', yC', yP'⟩ := hS 10 (by decide) rfl
  have e78 : v' 78 = .int .i64 6 := hv 78 (by decide)
  clear hv hS
  have HB' := hid (HB.out.trans (hC.mono HB.out.size))
  have N1' := hid (N1.out.below hC N1.out.lt)
  have nS' := hid (nS.out.below hC)
  have nC' := hid (nC.out.below hC)
  have nP' := hid (nP.out.below hC)
  have N2' := hid (N2.out.below hC N2.out.lt)
  have rS' := hid (rS.out.below hC)
  have rC' := hid (rC.out.below hC)
  have rP' := hid (rP.out.below hC)
  have N6' := hid (N6.out.below hC N6.out.lt)
  have N8' := hid (N8.out.below hC N8.out.lt)
  have pS' := hid (pS.out.below hC)
  have pC' := hid (pC.out.below hC)
  have pP' := hid (pP.out.below hC)
  have N10' := hid (N10.out.below hC N10.out.lt)
  have qS' := hid (qS.out.below hC)
  have qC' := hid (qC.out.below hC)
  have qP' := hid (qP.out.below hC)
  have N12' := hid (N12.out.below hC N12.out.lt)
  have T14' := hid (T14.out.below hC)
  have T15' := hid (T15.out.below hC)
  clear HB N1 nS nC nP N2 rS rC rP N6 N8 pS pC pP N10 qS qC qP N12 T14 T15 hC
  have HB := HB'
  have N1 := N1'
  have nS := nS'
  have nC := nC'
  have nP := nP'
  have N2 := N2'
  have rS := rS'
  have rC := rC'
  have rP := rP'
  have N6 := N6'
  have N8 := N8'
  have pS := pS'
  have pC := pC'
  have pP := pP'
  have N10 := N10'
  have qS := qS'
  have qC := qC'
  have qP := qP'
  have N12 := N12'
  have T14 := T14'
  have T15 := T15'
  clear HB' N1' nS' nC' nP' N2' rS' rC' rP' N6' N8' pS' pC' pP' N10' qS' qC' qP' N12' T14' T15'
  have N17 := hid hN
  have yS := hid yS'
  have yC := hid yC'
  have yP := hid yP'
  clear hN yS' yC' yP'
  simp only [Tl.fill, List.drop]
  simp only [Act.put, List.setIfInBounds_toArray, List.set_cons_succ, List.set_cons_zero, e78, e17]
  generalize v' 71 = z71
  generalize v' 72 = z72
  generalize v' 73 = z73
  generalize v' 74 = z74
  generalize v' 75 = z75
  generalize v' 76 = z76
  generalize v' 70 = z70
  generalize v' 77 = z77
  clear e78 e17
  go_upto_region 10 with fail
  refine Tl.wp_mix_lit (by kernel_rfl) 54 [79, 80, 81, 82, 83, 84, 85, 86, 87, 88, 89, 90, 91, 92, 93, 94, 95, 96, 97, 98, 99, 100, 101, 102, 103, 104, 105, 106, 107, 108, 109, 110, 111, 112, 113, 114, 115, 116, 117, 118, 119, 120, 121, 122, 123, 124, 125, 126, 127, 128, 129, 130, 131, 132] 133 rfl (by kernel_rfl) (fun W => Below w9.heap.size w9 W) (fun d v W => KF (wrM10 A3 A14 A15 c3 c14 c15 d) v W) ((Below.refl _ _).drew)
    ⟨fun a' W' hC hF => ?_, fun a' W' hC hF => ?_, fun a' W' hC hF => ?_, fun a' W' hC hF => ?_, fun a' W' hC hF => ?_, fun a' W' hC hF => ?_, fun a' W' hC hF => ?_, fun a' W' hC hF => ?_, fun a' W' hC hF => ?_, fun a' W' hC hF => ?_, fun a' W' hC hF => ?_, fun a' W' hC hF => ?_, fun a' W' hC hF => ?_, fun a' W' hC hF => ?_, fun a' W' hC hF => ?_, fun a' W' hC hF => ?_, fun a' W' hC hF => ?_, fun a' W' hC hF => ?_, fun a' W' hC hF => ?_, fun a' W' hC hF => ?_, fun a' W' hC hF => ?_, fun a' W' hC hF => ?_, fun a' W' hC hF => ?_, fun a' W' hC hF => ?_, fun a' W' hC hF => ?_, fun a' W' hC hF => ?_, fun a' W' hC hF => ?_, fun a' W' hC hF => ?_, fun a' W' hC hF => ?_, fun a' W' hC hF => ?_, fun a' W' hC hF => ?_, fun a' W' hC hF => ?_, fun a' W' hC hF => ?_, fun a' W' hC hF => ?_, fun a' W' hC hF => ?_, fun a' W' hC hF => ?_, fun a' W' hC hF => ?_, fun a' W' hC hF => ?_, fun a' W' hC hF => ?_, fun a' W' hC hF => ?_, fun a' W' hC hF => ?_, fun a' W' hC hF => ?_, fun a' W' hC hF => ?_, fun a' W' hC hF => ?_, fun a' W' hC hF => ?_, fun a' W' hC hF => ?_, fun a' W' hC hF => ?_, fun a' W' hC hF => ?_, fun a' W' hC hF => ?_, fun a' W' hC hF => ?_, fun a' W' hC hF => ?_, fun a' W' hC hF => ?_, fun a' W' hC hF => ?_, fun a' W' hC hF => ?_, trivial⟩ ?_
  · exact Tl.sm_v 79 _ rfl (Tl.wanted_none rfl) hC rfl (zn_move rfl ((hF 3 (by decide +kernel)).2 (by decide)))
  · exact Tl.sm_v 80 _ rfl (Tl.wanted_none rfl) hC rfl (zn_eql36 rfl (show Act.eval a' (.tmp 79) = (.int .i64 5) from ((hF 79 (by decide +kernel)).1 (by decide))) rfl ((by decide)))
  · exact Tl.sm_v 81 _ rfl (Tl.wanted_none rfl) hC rfl (zn_move rfl (show Act.eval a' (.tmp 80) = (.bool true) from ((hF 80 (by decide +kernel)).1 (by decide))))
  · exact Tl.sm_v 82 _ rfl (Tl.wanted_is rfl rfl (show Act.eval a' (.tmp 81) = (.bool true) from ((hF 81 (by decide +kernel)).1 (by decide)))) hC rfl (zn_move rfl ((hF 5 (by decide +kernel)).2 (by decide)))
  · exact Tl.sm_v 83 _ rfl (Tl.wanted_is rfl rfl (show Act.eval a' (.tmp 81) = (.bool true) from ((hF 81 (by decide +kernel)).1 (by decide)))) hC rfl (zn_eql36 rfl (show Act.eval a' (.tmp 82) = (.int .i64 0) from ((hF 82 (by decide +kernel)).1 (by decide))) rfl ((by decide)))
  · exact Tl.sm_v 84 _ rfl (Tl.wanted_none rfl) hC rfl (zn_pickT rfl (show Act.eval a' (.tmp 81) = (.bool true) from ((hF 81 (by decide +kernel)).1 (by decide))) (show Act.eval a' (.tmp 83) = (.bool true) from ((hF 83 (by decide +kernel)).1 (by decide))))
  · exact Tl.sm_v 85 _ rfl (Tl.wanted_none rfl) hC rfl (zn_move rfl (show Act.eval a' (.tmp 84) = (.bool true) from ((hF 84 (by decide +kernel)).1 (by decide))))
  · exact Tl.sm_v 86 _ rfl (Tl.wanted_is rfl rfl (show Act.eval a' (.tmp 85) = (.bool true) from ((hF 85 (by decide +kernel)).1 (by decide)))) hC rfl (zn_move rfl ((hF 4 (by decide +kernel)).2 (by decide)))
  · exact Tl.sm_v 87 _ rfl (Tl.wanted_is rfl rfl (show Act.eval a' (.tmp 85) = (.bool true) from ((hF 85 (by decide +kernel)).1 (by decide)))) hC rfl (zn_len29 rfl (show Act.eval a' (.tmp 86) = (.slice A3 0 c3) from ((hF 86 (by decide +kernel)).1 (by decide))) )
  · exact Tl.sm_v 88 _ rfl (Tl.wanted_is rfl rfl (show Act.eval a' (.tmp 85) = (.bool true) from ((hF 85 (by decide +kernel)).1 (by decide)))) hC rfl (zn_eql3 rfl (show Act.eval a' (.tmp 87) = (.int .i64 ((0 : Nat) : Int)) from ((hF 87 (by decide +kernel)).1 (by decide))) rfl ((by decide)))
  · exact Tl.sm_v 89 _ rfl (Tl.wanted_none rfl) hC rfl (zn_pickT rfl (show Act.eval a' (.tmp 85) = (.bool true) from ((hF 85 (by decide +kernel)).1 (by decide))) (show Act.eval a' (.tmp 88) = (.bool true) from ((hF 88 (by decide +kernel)).1 (by decide))))
  · exact Tl.sm_v 90 _ rfl (Tl.wanted_none rfl) hC rfl (zn_move rfl (show Act.eval a' (.tmp 89) = (.bool true) from ((hF 89 (by decide +kernel)).1 (by decide))))
  · exact Tl.sm_v 91 _ rfl (Tl.wanted_is rfl rfl (show Act.eval a' (.tmp 90) = (.bool true) from ((hF 90 (by decide +kernel)).1 (by decide)))) hC rfl (zn_move rfl ((hF 7 (by decide +kernel)).2 (by decide)))
  · exact Tl.sm_v 92 _ rfl (Tl.wanted_is rfl rfl (show Act.eval a' (.tmp 90) = (.bool true) from ((hF 90 (by decide +kernel)).1 (by decide)))) hC rfl (zn_eql36 rfl (show Act.eval a' (.tmp 91) = (.int .i64 0) from ((hF 91 (by decide +kernel)).1 (by decide))) rfl ((by decide)))
  · exact Tl.sm_v 93 _ rfl (Tl.wanted_none rfl) hC rfl (zn_pickT rfl (show Act.eval a' (.tmp 90) = (.bool true) from ((hF 90 (by decide +kernel)).1 (by decide))) (show Act.eval a' (.tmp 92) = (.bool true) from ((hF 92 (by decide +kernel)).1 (by decide))))
  · exact Tl.sm_v 94 _ rfl (Tl.wanted_none rfl) hC rfl (zn_move rfl (show Act.eval a' (.tmp 93) = (.bool true) from ((hF 93 (by decide +kernel)).1 (by decide))))
  · exact Tl.sm_v 95 _ rfl (Tl.wanted_is rfl rfl (show Act.eval a' (.tmp 94) = (.bool true) from ((hF 94 (by decide +kernel)).1 (by decide)))) hC rfl (zn_move rfl ((hF 9 (by decide +kernel)).2 (by decide)))
  · exact Tl.sm_v 96 _ rfl (Tl.wanted_is rfl rfl (show Act.eval a' (.tmp 94) = (.bool true) from ((hF 94 (by decide +kernel)).1 (by decide)))) hC rfl (zn_eql36 rfl (show Act.eval a' (.tmp 95) = (.int .i64 0) from ((hF 95 (by decide +kernel)).1 (by decide))) rfl ((by decide)))
  · exact Tl.sm_v 97 _ rfl (Tl.wanted_none rfl) hC rfl (zn_pickT rfl (show Act.eval a' (.tmp 94) = (.bool true) from ((hF 94 (by decide +kernel)).1 (by decide))) (show Act.eval a' (.tmp 96) = (.bool true) from ((hF 96 (by decide +kernel)).1 (by decide))))
  · exact Tl.sm_v 98 _ rfl (Tl.wanted_none rfl) hC rfl (zn_move rfl (show Act.eval a' (.tmp 97) = (.bool true) from ((hF 97 (by decide +kernel)).1 (by decide))))
  · exact Tl.sm_v 99 _ rfl (Tl.wanted_is rfl rfl (show Act.eval a' (.tmp 98) = (.bool true) from ((hF 98 (by decide +kernel)).1 (by decide)))) hC rfl (zn_load24 rfl ((hF 8 (by decide +kernel)).2 (by decide)) ((cells3p (N8.out.below hC N8.out.lt)).1) ((cells3p (N8.out.below hC N8.out.lt)).2.1) ((cells3p (N8.out.below hC N8.out.lt)).2.2))
  · refine Tl.sm_call 6 #[_, _, _] (Tl.wanted_is rfl rfl (show Act.eval a' (.tmp 98) = (.bool true) from ((hF 98 (by decide +kernel)).1 (by decide)))) (zn_call3 rfl rfl rfl rfl rfl (en6z _ _)) ((at_any 112 10 5 W').mono ?_)
    rintro e W'' ⟨rfl, hb⟩
    exact ⟨_, rfl, hC.trans (hb.mono hC.size), fun d v _ h => KF_mono hb h, fun d hd => by cases hd; rfl⟩
  · exact Tl.sm_v 101 _ rfl (Tl.wanted_is rfl rfl (show Act.eval a' (.tmp 98) = (.bool true) from ((hF 98 (by decide +kernel)).1 (by decide)))) hC rfl (zn_eql24 rfl (show Act.eval a' (.tmp 99) = (.agg (pl3 ⟨dS 112, 10, 5⟩).toArray) from ((hF 99 (by decide +kernel)).1 (by decide))) (show Act.eval a' (.tmp 100) = (.agg (pl3 ⟨dS 112, 10, 5⟩).toArray) from ((hF 100 (by decide +kernel)).1 (by decide))) )
  · exact Tl.sm_v 102 _ rfl (Tl.wanted_none rfl) hC rfl (zn_pickT rfl (show Act.eval a' (.tmp 98) = (.bool true) from ((hF 98 (by decide +kernel)).1 (by decide))) (show Act.eval a' (.tmp 101) = (.bool true) from ((hF 101 (by decide +kernel)).1 (by decide))))
  · exact Tl.sm_v 103 _ rfl (Tl.wanted_none rfl) hC rfl (zn_move rfl (show Act.eval a' (.tmp 102) = (.bool true) from ((hF 102 (by decide +kernel)).1 (by decide))))
  · exact Tl.sm_v 104 _ rfl (Tl.wanted_is rfl rfl (show Act.eval a' (.tmp 103) = (.bool true) from ((hF 103 (by decide +kernel)).1 (by decide)))) hC rfl (zn_move rfl ((hF 11 (by decide +kernel)).2 (by decide)))
  · exact Tl.sm_v 105 _ rfl (Tl.wanted_is rfl rfl (show Act.eval a' (.tmp 103) = (.bool true) from ((hF 103 (by decide +kernel)).1 (by decide)))) hC rfl (zn_eql36 rfl (show Act.eval a' (.tmp 104) = (.int .i64 1) from ((hF 104 (by decide +kernel)).1 (by decide))) rfl ((by decide)))
  · exact Tl.sm_v 106 _ rfl (Tl.wanted_none rfl) hC rfl (zn_pickT rfl (show Act.eval a' (.tmp 103) = (.bool true) from ((hF 103 (by decide +kernel)).1 (by decide))) (show Act.eval a' (.tmp 105) = (.bool true) from ((hF 105 (by decide +kernel)).1 (by decide))))
  · exact Tl.sm_v 107 _ rfl (Tl.wanted_none rfl) hC rfl (zn_move rfl (show Act.eval a' (.tmp 106) = (.bool true) from ((hF 106 (by decide +kernel)).1 (by decide))))
  · exact Tl.sm_v 108 _ rfl (Tl.wanted_is rfl rfl (show Act.eval a' (.tmp 107) = (.bool true) from ((hF 107 (by decide +kernel)).1 (by decide)))) hC rfl (zn_move rfl ((hF 13 (by decide +kernel)).2 (by decide)))
  · exact Tl.sm_v 109 _ rfl (Tl.wanted_is rfl rfl (show Act.eval a' (.tmp 107) = (.bool true) from ((hF 107 (by decide +kernel)).1 (by decide)))) hC rfl (zn_eql36 rfl (show Act.eval a' (.tmp 108) = (.int .i64 0) from ((hF 108 (by decide +kernel)).1 (by decide))) rfl ((by decide)))
  · exact Tl.sm_v 110 _ rfl (Tl.wanted_none rfl) hC rfl (zn_pickT rfl (show Act.eval a' (.tmp 107) = (.bool true) from ((hF 107 (by decide +kernel)).1 (by decide))) (show Act.eval a' (.tmp 109) = (.bool true) from ((hF 109 (by decide +kernel)).1 (by decide))))
  · exact Tl.sm_v 111 _ rfl (Tl.wanted_none rfl) hC rfl (zn_move rfl (show Act.eval a' (.tmp 110) = (.bool true) from ((hF 110 (by decide +kernel)).1 (by decide))))
  · exact Tl.sm_v 112 _ rfl (Tl.wanted_is rfl rfl (show Act.eval a' (.tmp 111) = (.bool true) from ((hF 111 (by decide +kernel)).1 (by decide)))) hC rfl (zn_move rfl ((hF 16 (by decide +kernel)).2 (by decide)))
  · exact Tl.sm_v 113 _ rfl (Tl.wanted_is rfl rfl (show Act.eval a' (.tmp 111) = (.bool true) from ((hF 111 (by decide +kernel)).1 (by decide)))) hC rfl (zn_eql36 rfl (show Act.eval a' (.tmp 112) = (.int .i64 0) from ((hF 112 (by decide +kernel)).1 (by decide))) rfl ((by decide)))
  · exact Tl.sm_v 114 _ rfl (Tl.wanted_none rfl) hC rfl (zn_pickT rfl (show Act.eval a' (.tmp 111) = (.bool true) from ((hF 111 (by decide +kernel)).1 (by decide))) (show Act.eval a' (.tmp 113) = (.bool true) from ((hF 113 (by decide +kernel)).1 (by decide))))
  · exact Tl.sm_v 115 _ rfl (Tl.wanted_none rfl) hC rfl (zn_move rfl (show Act.eval a' (.tmp 114) = (.bool true) from ((hF 114 (by decide +kernel)).1 (by decide))))
  · exact Tl.sm_v 116 _ rfl (Tl.wanted_is rfl rfl (show Act.eval a' (.tmp 115) = (.bool true) from ((hF 115 (by decide +kernel)).1 (by decide)))) hC rfl (zn_move rfl ((hF 14 (by decide +kernel)).2 (by decide)))
  · refine Tl.sm_call 7 #[_] (Tl.wanted_is rfl rfl (show Act.eval a' (.tmp 115) = (.bool true) from ((hF 115 (by decide +kernel)).1 (by decide)))) (zn_call1 rfl rfl rfl (en7z _ _)) ((d_any 97 W').mono ?_)
    rintro e W'' ⟨rfl, hb⟩
    exact ⟨_, rfl, hC.trans (hb.mono hC.size), fun d v _ h => KF_mono hb h, fun d hd => by cases hd; rfl⟩
  · refine Tl.sm_call 7 #[_] (Tl.wanted_is rfl rfl (show Act.eval a' (.tmp 115) = (.bool true) from ((hF 115 (by decide +kernel)).1 (by decide)))) (zn_call1 rfl rfl rfl (en7z _ _)) ((d_any 98 W').mono ?_)
    rintro e W'' ⟨rfl, hb⟩
    exact ⟨_, rfl, hC.trans (hb.mono hC.size), fun d v _ h => KF_mono hb h, fun d hd => by cases hd; rfl⟩
  · exact Tl.sm_w _ (Tl.wanted_is rfl rfl (show Act.eval a' (.tmp 115) = (.bool true) from ((hF 115 (by decide +kernel)).1 (by decide)))) (zn_bs29_2 rfl (show Act.eval a' (.tmp 117) = (.string (dS 97)) from ((hF 117 (by decide +kernel)).1 (by decide))) (show Act.eval a' (.tmp 118) = (.string (dS 98)) from ((hF 118 (by decide +kernel)).1 (by decide)))) (hC.alloc hC.size _) (fun d v _ h => KF_mono ((Below.refl _ _).alloc (Nat.le_refl _) _) h) (fun d hd => by cases hd; exact ⟨_, rfl, lit_tx _ _⟩)
  · obtain ⟨g, hg, ht⟩ := ((hF 119 (by decide +kernel)).1 (by decide))
    refine Tl.sm_call 16 #[_, _] (Tl.wanted_is rfl rfl (show Act.eval a' (.tmp 115) = (.bool true) from ((hF 115 (by decide +kernel)).1 (by decide)))) (zn_call2 rfl rfl (show Act.eval a' (.tmp 116) = (.slice A14 2 c14) from ((hF 116 (by decide +kernel)).1 (by decide))) hg (en16z _ _)) ((texts_any [dS 97, dS 98] A14 (some ⟨g, 0, none⟩) c14 2 (by decide) W' (T14.out.below hC) ht).mono ?_)
    rintro e W'' ⟨rfl, hb⟩
    exact ⟨_, rfl, hC.trans (hb.mono hC.size), fun d v _ h => KF_mono hb h, fun d hd => by cases hd; rfl⟩
  · exact Tl.sm_v 121 _ rfl (Tl.wanted_none rfl) hC rfl (zn_pickT rfl (show Act.eval a' (.tmp 115) = (.bool true) from ((hF 115 (by decide +kernel)).1 (by decide))) (show Act.eval a' (.tmp 120) = (.bool true) from ((hF 120 (by decide +kernel)).1 (by decide))))
  · exact Tl.sm_v 122 _ rfl (Tl.wanted_none rfl) hC rfl (zn_move rfl (show Act.eval a' (.tmp 121) = (.bool true) from ((hF 121 (by decide +kernel)).1 (by decide))))
  · exact Tl.sm_v 123 _ rfl (Tl.wanted_is rfl rfl (show Act.eval a' (.tmp 122) = (.bool true) from ((hF 122 (by decide +kernel)).1 (by decide)))) hC rfl (zn_move rfl ((hF 15 (by decide +kernel)).2 (by decide)))
  · refine Tl.sm_call 6 #[_, _, _] (Tl.wanted_is rfl rfl (show Act.eval a' (.tmp 122) = (.bool true) from ((hF 122 (by decide +kernel)).1 (by decide)))) (zn_call3 rfl rfl rfl rfl rfl (en6z _ _)) ((at_any 112 10 5 W').mono ?_)
    rintro e W'' ⟨rfl, hb⟩
    exact ⟨_, rfl, hC.trans (hb.mono hC.size), fun d v _ h => KF_mono hb h, fun d hd => by cases hd; rfl⟩
  · refine Tl.sm_call 6 #[_, _, _] (Tl.wanted_is rfl rfl (show Act.eval a' (.tmp 122) = (.bool true) from ((hF 122 (by decide +kernel)).1 (by decide)))) (zn_call3 rfl rfl rfl rfl rfl (en6z _ _)) ((at_any 112 15 5 W').mono ?_)
    rintro e W'' ⟨rfl, hb⟩
    exact ⟨_, rfl, hC.trans (hb.mono hC.size), fun d v _ h => KF_mono hb h, fun d hd => by cases hd; rfl⟩
  · exact Tl.sm_w _ (Tl.wanted_is rfl rfl (show Act.eval a' (.tmp 122) = (.bool true) from ((hF 122 (by decide +kernel)).1 (by decide)))) (zn_bs30_2 rfl (show Act.eval a' (.tmp 124) = (.agg (pl3 ⟨dS 112, 10, 5⟩).toArray) from ((hF 124 (by decide +kernel)).1 (by decide))) (show Act.eval a' (.tmp 125) = (.agg (pl3 ⟨dS 112, 15, 5⟩).toArray) from ((hF 125 (by decide +kernel)).1 (by decide)))) (hC.alloc hC.size _) (fun d v _ h => KF_mono ((Below.refl _ _).alloc (Nat.le_refl _) _) h) (fun d hd => by cases hd; exact ⟨_, rfl, lit_ps _ _⟩)
  · obtain ⟨g, hg, ht⟩ := ((hF 126 (by decide +kernel)).1 (by decide))
    refine Tl.sm_call 19 #[_, _] (Tl.wanted_is rfl rfl (show Act.eval a' (.tmp 122) = (.bool true) from ((hF 122 (by decide +kernel)).1 (by decide)))) (zn_call2 rfl rfl (show Act.eval a' (.tmp 123) = (.slice A15 2 c15) from ((hF 123 (by decide +kernel)).1 (by decide))) hg (en19z _ _)) ((places_any [⟨dS 112, 10, 5⟩, ⟨dS 112, 15, 5⟩] A15 (some ⟨g, 0, none⟩) c15 2 (by decide) W' (T15.out.below hC) ht).mono ?_)
    rintro e W'' ⟨rfl, hb⟩
    exact ⟨_, rfl, hC.trans (hb.mono hC.size), fun d v _ h => KF_mono hb h, fun d hd => by cases hd; rfl⟩
  · exact Tl.sm_v 128 _ rfl (Tl.wanted_none rfl) hC rfl (zn_pickT rfl (show Act.eval a' (.tmp 122) = (.bool true) from ((hF 122 (by decide +kernel)).1 (by decide))) (show Act.eval a' (.tmp 127) = (.bool true) from ((hF 127 (by decide +kernel)).1 (by decide))))
  · exact Tl.sm_v 129 _ rfl (Tl.wanted_none rfl) hC rfl (zn_move rfl (show Act.eval a' (.tmp 128) = (.bool true) from ((hF 128 (by decide +kernel)).1 (by decide))))
  · exact Tl.sm_v 130 _ rfl (Tl.wanted_is rfl rfl (show Act.eval a' (.tmp 129) = (.bool true) from ((hF 129 (by decide +kernel)).1 (by decide)))) hC rfl (zn_move rfl ((hF 18 (by decide +kernel)).2 (by decide)))
  · exact Tl.sm_v 131 _ rfl (Tl.wanted_is rfl rfl (show Act.eval a' (.tmp 129) = (.bool true) from ((hF 129 (by decide +kernel)).1 (by decide)))) hC rfl (zn_eql36 rfl (show Act.eval a' (.tmp 130) = (.int .i64 6) from ((hF 130 (by decide +kernel)).1 (by decide))) rfl ((by decide)))
  · exact Tl.sm_v 132 _ rfl (Tl.wanted_none rfl) hC rfl (zn_pickT rfl (show Act.eval a' (.tmp 129) = (.bool true) from ((hF 129 (by decide +kernel)).1 (by decide))) (show Act.eval a' (.tmp 131) = (.bool true) from ((hF 131 (by decide +kernel)).1 (by decide))))
  intro v' w10 hC hv
  have e132 : v' 132 = .bool true := hv 132 (by decide)
  clear hv
  have HB' := hid (HB.out.trans (hC.mono HB.out.size))
  have N1' := hid (N1.out.below hC N1.out.lt)
  have nS' := hid (nS.out.below hC)
  have nC' := hid (nC.out.below hC)
  have nP' := hid (nP.out.below hC)
  have N2' := hid (N2.out.below hC N2.out.lt)
  have rS' := hid (rS.out.below hC)
  have rC' := hid (rC.out.below hC)
  have rP' := hid (rP.out.below hC)
  have N6' := hid (N6.out.below hC N6.out.lt)
  have N8' := hid (N8.out.below hC N8.out.lt)
  have pS' := hid (pS.out.below hC)
  have pC' := hid (pC.out.below hC)
  have pP' := hid (pP.out.below hC)
  have N10' := hid (N10.out.below hC N10.out.lt)
  have qS' := hid (qS.out.below hC)
  have qC' := hid (qC.out.below hC)
  have qP' := hid (qP.out.below hC)
  have N12' := hid (N12.out.below hC N12.out.lt)
  have T14' := hid (T14.out.below hC)
  have T15' := hid (T15.out.below hC)
  have yS' := hid (yS.out.below hC)
  have yC' := hid (yC.out.below hC)
  have yP' := hid (yP.out.below hC)
  have N17' := hid (N17.out.below hC N17.out.lt)
  clear HB N1 nS nC nP N2 rS rC rP N6 N8 pS pC pP N10 qS qC qP N12 T14 T15 yS yC yP N17 hC
  have HB := HB'
  have N1 := N1'
  have nS := nS'
  have nC := nC'
  have nP := nP'
  have N2 := N2'
  have rS := rS'
  have rC := rC'
  have rP := rP'
  have N6 := N6'
  have N8 := N8'
  have pS := pS'
  have pC := pC'
  have pP := pP'
  have N10 := N10'
  have qS := qS'
  have qC := qC'
  have qP := qP'
  have N12 := N12'
  have T14 := T14'
  have T15 := T15'
  have yS := yS'
  have yC := yC'
  have yP := yP'
  have N17 := N17'
  clear HB' N1' nS' nC' nP' N2' rS' rC' rP' N6' N8' pS' pC' pP' N10' qS' qC' qP' N12' T14' T15' yS' yC' yP' N17'
  simp only [Tl.fill, List.drop]
  simp only [Act.put, List.setIfInBounds_toArray, List.set_cons_succ, List.set_cons_zero, e132]
  generalize v' 79 = z79
  generalize v' 80 = z80
  generalize v' 81 = z81
  generalize v' 82 = z82
  generalize v' 83 = z83
  generalize v' 84 = z84
  generalize v' 85 = z85
  generalize v' 86 = z86
  generalize v' 87 = z87
  generalize v' 88 = z88
  generalize v' 89 = z89
  generalize v' 90 = z90
  generalize v' 91 = z91
  generalize v' 92 = z92
  generalize v' 93 = z93
  generalize v' 94 = z94
  generalize v' 95 = z95
  generalize v' 96 = z96
  generalize v' 97 = z97
  generalize v' 98 = z98
  generalize v' 99 = z99
  generalize v' 100 = z100
  generalize v' 101 = z101
  generalize v' 102 = z102
  generalize v' 103 = z103
  generalize v' 104 = z104
  generalize v' 105 = z105
  generalize v' 106 = z106
  generalize v' 107 = z107
  generalize v' 108 = z108
  generalize v' 109 = z109
  generalize v' 110 = z110
  generalize v' 111 = z111
  generalize v' 112 = z112
  generalize v' 113 = z113
  generalize v' 114 = z114
  generalize v' 115 = z115
  generalize v' 116 = z116
  generalize v' 117 = z117
  generalize v' 118 = z118
  generalize v' 119 = z119
  generalize v' 120 = z120
  generalize v' 121 = z121
  generalize v' 122 = z122
  generalize v' 123 = z123
  generalize v' 124 = z124
  generalize v' 125 = z125
  generalize v' 126 = z126
  generalize v' 127 = z127
  generalize v' 128 = z128
  generalize v' 129 = z129
  generalize v' 130 = z130
  generalize v' 131 = z131
  clear e132
  go_wp2_with fail
  go_ret
  exact ⟨rfl, HB.out⟩
end Go.Proofs.YtknddbmnciodaaaGreat
