/- The walk of the statement IndexStays. -/
import Derived.Test.YtknddbmnciodaaaGreatWorks
import Derived.Test.YtknddbmnciodaaaGreatWhole
namespace Go.Proofs.YtknddbmnciodaaaGreat
open Go.RowKit
open Ix
set_option linter.unusedVariables false
theorem wrap_nat (n : Nat) (h : n ≤ 1000000) : IntKind.i64.wrap ((n : Int) + 1) = ((n + 1 : Nat) : Int) := by rw [IntKind.wrap_i64]; omega
theorem res_ok {s : St} : resS s 0 = s := by rw [resS, if_pos rfl]
theorem res_no {s : St} {er : Int} (h : er ≠ 0) : resS s er = stN := by rw [resS, if_neg h]
theorem drop_sn (s : St) (D : List ByteArray) : (droS s D).sn = s.sn := rfl
def stM11 (t : St) (A0 A1 A2 : Option Addr) (e0 e1 e2 g o m d1 i : Nat) (x : ByteArray) (y : Pl) (lo : Nat) : Nat → K
  | 85 => .v (.agg (stV t A0 A1 A2 e0 e1 e2))
  | 86 => .v (.slice (some ⟨g, o, none⟩) m d1)
  | 87 => .v (.int .i64 (i : Int))
  | 88 => .v (.pointer (some ⟨g, o + i, none⟩))
  | 89 => .v (.string x)
  | 90 => .v (.tuple #[.agg (pl3 y).toArray, .int .i64 0])
  | 84 => .v (.tuple #[.agg (pl3 y).toArray, .int .i64 0])
  | 91 => .v (.agg (pl3 y).toArray)
  | 92 => .v (.int .i64 0)
  | 12 => .box24 lo
  | 1000 => .fin24 y lo
  | _ => .v undef
theorem stok11 (t : St) (A0 A1 A2 : Option Addr) (e0 e1 e2 g o m d1 i : Nat) (x : ByteArray) (y : Pl) (lo : Nat) (d : Nat) : (stM11 t A0 A1 A2 e0 e1 e2 g o m d1 i x y lo d).ok24 y := by
  unfold stM11; split <;> first | trivial | rfl
def stM20 (t : St) (A0 A1 A2 : Option Addr) (e0 e1 e2 b g o n c1 k : Nat) (x : ByteArray) (y : Pl) (fe : Int) (lo : Nat) : Nat → K
  | 128 => .v (.agg (stV t A0 A1 A2 e0 e1 e2))
  | 129 => .v (.pointer (some ⟨b, 0 + 4, none⟩))
  | 130 => .v (.slice (some ⟨g, o, none⟩) n c1)
  | 131 => .v (.int .i64 (k : Int))
  | 132 => .v (.pointer (some ⟨g, o + k, none⟩))
  | 133 => .v (.string x)
  | 134 => .v (.tuple #[.agg (pl3 y).toArray, .int .i64 fe])
  | 127 => .v (.tuple #[.agg (pl3 y).toArray, .int .i64 fe])
  | 135 => .v (.agg (pl3 y).toArray)
  | 136 => .v (.int .i64 fe)
  | 17 => .box24 lo
  | 1000 => .fin24 y lo
  | _ => .v undef
theorem stok20 (t : St) (A0 A1 A2 : Option Addr) (e0 e1 e2 b g o n c1 k : Nat) (x : ByteArray) (y : Pl) (fe : Int) (lo : Nat) (d : Nat) : (stM20 t A0 A1 A2 e0 e1 e2 b g o n c1 k x y fe lo d).ok24 y := by
  unfold stM20; split <;> first | trivial | rfl
def stM28 (t : St) (A0 A1 A2 : Option Addr) (e0 e1 e2 b g o n c1 k : Nat) (x : ByteArray) (y : Pl) (fe : Int) (lo : Nat) : Nat → K
  | 172 => .v (.agg (stV t A0 A1 A2 e0 e1 e2))
  | 173 => .v (.pointer (some ⟨b, 0 + 4, none⟩))
  | 174 => .v (.slice (some ⟨g, o, none⟩) n c1)
  | 175 => .v (.int .i64 (k : Int))
  | 176 => .v (.pointer (some ⟨g, o + k, none⟩))
  | 177 => .v (.string x)
  | 178 => .v (.tuple #[.agg (pl3 y).toArray, .int .i64 fe])
  | 171 => .v (.tuple #[.agg (pl3 y).toArray, .int .i64 fe])
  | 179 => .v (.agg (pl3 y).toArray)
  | 180 => .v (.int .i64 fe)
  | 1000 => .at24 lo y
  | _ => .v undef
theorem stok28 (t : St) (A0 A1 A2 : Option Addr) (e0 e1 e2 b g o n c1 k : Nat) (x : ByteArray) (y : Pl) (fe : Int) (lo : Nat) (d : Nat) : (stM28 t A0 A1 A2 e0 e1 e2 b g o n c1 k x y fe lo d).ok24 y := by
  unfold stM28; split <;> first | trivial | rfl
set_option maxRecDepth 20000 in
set_option maxHeartbeats 32000000 in
theorem stays_walk (s : St) (a0 a1 a2 b1 b2 : Option Addr) (c0 c1 c2 d1 d2 : Nat) (D : List ByteArray) (Q : List Pl) (hn : s.C.length ≤ 4611686018427387903) (hn2 : s.P.length ≤ 4611686018427387903) (hn3 : s.sn.length ≤ 4611686018427387903) (hm : D.length ≤ 4611686018427387903) (hm2 : Q.length ≤ 4611686018427387903)
    (hr : ∀ x ∈ s.sn, x.root.size ≤ 281474976710656) (w : World) (hS : Sn w a0 s.sn) (hC : Tx w a1 s.C) (hP : Ps w a2 s.P) (hD : Tx w b1 D) (hQ : Ps w b2 Q) :
    Calls Tryz.prog 4 #[.agg (stV s a0 a1 a2 c0 c1 c2), .slice b1 D.length d1, .slice b2 Q.length d2] w fun e w' => e = .returned (.bool true) ∧ Below w.heap.size w w' := by
  obtain ⟨w1, hw1, hB, n1⟩ := box_state (w := w) s a0 a1 a2 c0 c1 c2
  obtain ⟨b, hb⟩ : ∃ b, b = w.heap.size := ⟨_, rfl⟩
  rw [← hb] at n1
  have HLA := hid (fun W => large_any s a0 a1 a2 c0 c1 c2 (by omega) (by omega) (by omega) W)
  have HS := hid (hS.below hB)
  have HC := hid (hC.below hB)
  have HP := hid (hP.below hB)
  have HD := hid (hD.below hB)
  have HQ := hid (hQ.below hB)
  have HB1 := hid hB
  have HN := hid n1
  have HR := hid hr
  have HK := hid (fun W (hW : Below w1.heap.size w1 W) => cells6 (n1.below hW n1.lt))
  clear hB n1 hS hC hP hD hQ hr hn hn2 hn3 hm hm2
  change w1 = w.alloc (.cells #[.int .i64 s.k, .int .i64 s.n, .int .i64 s.nx, .slice a0 s.sn.length c0, .slice a1 s.C.length c1, .slice a2 s.P.length c2] 35) at hw1
  show Calls Tryz.prog 4 #[.agg #[.int .i64 s.k, .int .i64 s.n, .int .i64 s.nx, .slice a0 s.sn.length c0, .slice a1 s.C.length c1, .slice a2 s.P.length c2], .slice b1 D.length d1, .slice b2 Q.length d2] w _
  obtain ⟨m, hmm⟩ : ∃ m, m = D.length := ⟨_, rfl⟩
  obtain ⟨r, hrr⟩ : ∃ r, r = Q.length := ⟨_, rfl⟩
  have HMM := hid hmm
  have HRR := hid hrr
  rw [← hmm, ← hrr]
  clear hmm hrr
  go_enter Tryz.func4, Tryz.ntmps4
  go_upto_region 1 with fail
  rw [← hw1, ← hb]
  clear hw1 hb
  go_wp2_with fail
  refine (works_any w1).mono ?_
  rintro e w2 ⟨rfl, b2'⟩
  have B2 := hid b2'
  have HB2 := hid (HB1.out.trans (b2'.mono HB1.out.size))
  clear b2'
  obtain ⟨k0, k1, k2, k3, k4, k5⟩ := HK.out w2 B2.out
  have C1 := HLA.out w2
  unfold stV at C1
  go_wp2_with fail
  refine C1.mono ?_
  rintro e w3 ⟨rfl, b3'⟩
  have B3 := hid (B2.out.trans (b3'.mono B2.out.size))
  have HB3 := hid (HB2.out.trans (b3'.mono HB2.out.size))
  clear C1 b3' B2 HB2 HLA k0 k1 k2 k3 k4 k5
  cases hlg : largeB s with
  | true =>
    go_wp2_with fail
    refine (works_any w3).mono ?_
    rintro e wx ⟨rfl, bx⟩
    have HBX := hid (HB3.out.trans (bx.mono HB3.out.size))
    clear bx
    go_wp2_with fail
    go_ret
    exact ⟨rfl, HBX.out⟩
  | false =>
    by_cases hm4 : 400 < m
    · have i4 : (400 : Int) < (m : Int) := by omega
      go_wp2_with fail
      refine (works_any w3).mono ?_
      rintro e wx ⟨rfl, bx⟩
      have HBX := hid (HB3.out.trans (bx.mono HB3.out.size))
      clear bx
      go_wp2_with fail
      go_ret
      exact ⟨rfl, HBX.out⟩
    have i4 : ¬ (400 : Int) < (m : Int) := by omega
    have hsz : s.C.length + s.P.length ≤ 2000 ∧ s.sn.length ≤ 2000 := by
      unfold largeB at hlg
      rw [Bool.or_eq_false_iff, decide_eq_false_iff_not, decide_eq_false_iff_not] at hlg
      omega
    have HZ1 : Hid (s.C.length ≤ 100000) := hid (by omega)
    have HZ2 : Hid (s.P.length ≤ 100000) := hid (by omega)
    have HZ3 : Hid (s.sn.length ≤ 100000) := hid (by omega)
    have HM4 : Hid (D.length ≤ 400) := hid (by have := HMM.out; omega)
    clear hlg hsz
    obtain ⟨k0, k1, k2, k3, k4, k5⟩ := HK.out w3 B3.out
    have C1 := may_any s a0 a1 a2 c0 c1 c2 HZ1.out HZ2.out w3 (HC.out.below B3.out) (HP.out.below B3.out)
    unfold stV at C1
    go_wp2_with fail
    refine C1.mono ?_
    rintro e w4 ⟨rfl, b4'⟩
    have B4 := hid (B3.out.trans (b4'.mono B3.out.size))
    have HB4 := hid (HB3.out.trans (b4'.mono HB3.out.size))
    clear C1 b4' B3 HB3 k0 k1 k2 k3 k4 k5
    cases hmy : mayS s.C s.P with
    | false =>
      go_wp2_with fail
      refine (works_any w4).mono ?_
      rintro e wx ⟨rfl, bx⟩
      have HBX := hid (HB4.out.trans (bx.mono HB4.out.size))
      clear bx
      go_wp2_with fail
      go_ret
      exact ⟨rfl, HBX.out⟩
    | true =>
      have HMY := hid hmy
      clear hmy
      obtain ⟨er, her⟩ : ∃ er, er = addR s.C s.P D Q := ⟨_, rfl⟩
      obtain ⟨t, ht⟩ : ∃ t, t = resS (addS s D Q) er := ⟨_, rfl⟩
      have HER := hid her
      have HT := hid ht
      clear her ht
      have HTZ : Hid (t.C.length ≤ 100000 ∧ t.P.length ≤ 100000 ∧ t.sn.length ≤ 100000 ∧ ∀ x ∈ t.sn, x.root.size ≤ 281474976710656) := hid (by
        rw [HT.out]
        by_cases h0 : er = 0
        · subst h0
          have ha := addS_ok (s := s) (D := D) (Q := Q) HER.out.symm
          rw [res_ok]
          have h1 := ha.most
          have h2 := ha.ee
          have h3 := HZ3.out
          refine ⟨by omega, by omega, ?_, ?_⟩
          · rw [ha.sn]; exact h3
          · rw [ha.sn]; exact HR.out
        · rw [res_no h0]
          exact ⟨by decide, by decide, by decide, fun x hx => by cases hx⟩)
      obtain ⟨k0, k1, k2, k3, k4, k5⟩ := HK.out w4 B4.out
      have C1 := add_is (s := s) (a0 := a0) (a1 := a1) (a2 := a2) (c0 := c0) (c1 := c1) (c2 := c2) (w := w4) (b1 := b1) (b2 := b2) (d1 := d1) (d2 := d2) D Q t er HER.out.symm HT.out.symm HZ1.out HZ2.out HZ3.out (by have := HM4.out; omega) (fun h => by have := HM4.out; omega) HR.out (HS.out.below B4.out) (HC.out.below B4.out) (HP.out.below B4.out) (HD.out.below B4.out) (HQ.out.below B4.out)
      rw [← HMM.out, ← HRR.out] at C1
      unfold stV at C1
      go_wp2_with fail
      refine C1.mono ?_
      rintro e w5 ⟨u, rfl, hst, b5'⟩
      obtain ⟨A0, A1, A2, e0, e1, e2, rfl, hS', hC', hP'⟩ := hst
      clear C1 k0 k1 k2 k3 k4 k5
      unfold stV
      obtain ⟨q7, hq7⟩ : ∃ q, q = w5.heap.size := ⟨_, rfl⟩
      obtain ⟨x5, hx5⟩ : ∃ x, x = w5.alloc (.cells #[.int .i64 t.k, .int .i64 t.n, .int .i64 t.nx, .slice A0 t.sn.length e0, .slice A1 t.C.length e1, .slice A2 t.P.length e2] 35) := ⟨_, rfl⟩
      have hbx : Below w5.heap.size w5 x5 := by rw [hx5]; exact (Below.refl _ _).alloc (Nat.le_refl _) _
      have N7 : Hid (Has x5 q7 (stV t A0 A1 A2 e0 e1 e2) 35) := hid (by rw [hx5]; exact Has.new _ _ _ _ hq7)
      have S7 := hid (hS'.below hbx)
      have C7 := hid (hC'.below hbx)
      have P7 := hid (hP'.below hbx)
      have X5 := hid (b5'.trans (hbx.mono b5'.size))
      have B5 := hid (B4.out.trans (X5.out.mono B4.out.size))
      have HB5 := hid (HB4.out.trans (X5.out.mono HB4.out.size))
      clear hS' hC' hP' b5' hbx B4 HB4 X5
      go_upto_region 4 with fail
      rw [← hx5, ← hq7]
      clear hx5 hq7
      by_cases he0 : er = 0
      · subst he0
        have HA : Hid (Added s t D Q) := hid (by rw [HT.out, res_ok]; exact addS_ok HER.out.symm)
        obtain ⟨k0, k1, k2, k3, k4, k5⟩ := cells6 N7.out
        have C1 := drop_is (s := t) (a0 := A0) (a1 := A1) (a2 := A2) (c0 := e0) (c1 := e1) (c2 := e2) (w := x5) (b1 := b1) (d1 := d1) D s 0 HA.out.back (by rw [HA.out.was, res_ok]) HTZ.out.1 HTZ.out.2.1 HTZ.out.2.2.1 (by have := HM4.out; omega) HTZ.out.2.2.2 S7.out C7.out P7.out (HD.out.below B5.out)
        rw [← HMM.out] at C1
        unfold stV at C1
        go_wp2_with fail
        refine C1.mono ?_
        rintro e w6 ⟨uv, rfl, hst, b6'⟩
        obtain ⟨B0, B1, B2', g0, g1, g2, rfl, hS', hC', hP'⟩ := hst
        clear C1 k0 k1 k2 k3 k4 k5
        unfold stV
        obtain ⟨q9, hq9⟩ : ∃ q, q = w6.heap.size := ⟨_, rfl⟩
        obtain ⟨x6, hx6⟩ : ∃ x, x = w6.alloc (.cells #[.int .i64 s.k, .int .i64 s.n, .int .i64 s.nx, .slice B0 s.sn.length g0, .slice B1 s.C.length g1, .slice B2' s.P.length g2] 35) := ⟨_, rfl⟩
        have hbx : Below w6.heap.size w6 x6 := by rw [hx6]; exact (Below.refl _ _).alloc (Nat.le_refl _) _
        have N9 : Hid (Has x6 q9 (stV s B0 B1 B2' g0 g1 g2) 35) := hid (by rw [hx6]; exact Has.new _ _ _ _ hq9)
        have S9 := hid (hS'.below hbx)
        have C9 := hid (hC'.below hbx)
        have P9 := hid (hP'.below hbx)
        have X6 := hid (b6'.trans (hbx.mono b6'.size))
        clear hS' hC' hP' b6' hbx
        go_upto_region 6 with fail
        rw [← hx6, ← hq9]
        clear hx6 hq9
        obtain ⟨k0, k1, k2, k3, k4, k5⟩ := cells6 (N7.out.below X6.out N7.out.lt)
        have C1 := may_any t A0 A1 A2 e0 e1 e2 HTZ.out.1 HTZ.out.2.1 x6 (C7.out.below X6.out) (P7.out.below X6.out)
        rw [HA.out.may] at C1
        unfold stV at C1
        go_wp2_with fail
        refine C1.mono ?_
        rintro e y6 ⟨rfl, v6⟩
        have V6 := hid v6
        have X7 := hid (X6.out.trans (v6.mono X6.out.size))
        have W7 := hid (B5.out.trans (X7.out.mono B5.out.size))
        clear C1 v6 k0 k1 k2 k3 k4 k5
        obtain ⟨k0, k1, k2, k3, k4, k5⟩ := cells6 (N9.out.below V6.out N9.out.lt)
        obtain ⟨l0, l1, l2, l3, l4, l5⟩ := HK.out y6 W7.out
        have C1 := same_any s B0 B1 B2' a0 a1 a2 g0 g1 g2 c0 c1 c2 HZ1.out HZ2.out HZ3.out y6 (S9.out.below V6.out) (C9.out.below V6.out) (P9.out.below V6.out) (HS.out.below W7.out) (HC.out.below W7.out) (HP.out.below W7.out)
        unfold stV at C1
        go_wp2_with fail
        refine C1.mono ?_
        rintro e y7 ⟨rfl, v7⟩
        have X8 := hid (X7.out.trans (v7.mono X7.out.size))
        have W8 := hid (B5.out.trans (X8.out.mono B5.out.size))
        clear C1 v7 k0 k1 k2 k3 k4 k5 l0 l1 l2 l3 l4 l5 V6 X7 W7 X6 N9 S9 C9 P9
        obtain ⟨k0, k1, k2, k3, k4, k5⟩ := cells6 (N7.out.below X8.out N7.out.lt)
        obtain ⟨l0, l1, l2, l3, l4, l5⟩ := HK.out y7 W8.out
        have wl : IntKind.i64.wrap ((s.C.length : Int) + (m : Int)) = (t.C.length : Int) := by
          have h1 := HA.out.len
          have h2 := HMM.out
          have h3 := HTZ.out.1
          rw [IntKind.wrap_i64]; omega
        have ql : ((t.C.length : Int) != (t.C.length : Int)) = false := by simp
        have hmr : Hid (m = r) := hid (by rw [HMM.out, HRR.out]; exact HA.out.lD)
        have HM4' := hid (show m ≤ 400 by omega)
        go_wp2_with fail
        clear wl ql k0 k1 k2 k3 k4 k5 l0 l1 l2 l3 l4 l5
        go_loopw [11, 12, 13] (fun v11 _ _ wr => ∃ i : Nat, i ≤ m ∧ v11 = .int .i64 (i : Int) ∧ Hid (Below x5.heap.size x5 wr)) (fun v11 _ _ _ => m - (intOf v11).toNat)
        case atStart => exact ⟨0, Nat.zero_le _, rfl, X8⟩
        case round =>
          obtain ⟨i, hi, rfl, HX⟩ := hrel
          by_cases hli : i < m
          · have n1 : (i : Int) < (m : Int) := by omega
            have n2 : (i : Int) < (r : Int) := by have := hmr.out; omega
            have n0 : (0 : Int) ≤ (i : Int) := by omega
            have wi : IntKind.i64.wrap ((i : Int) + 1) = ((i + 1 : Nat) : Int) := wrap_nat i (by have := HM4'.out; omega)
            have hli' : i < D.length := by rw [← HMM.out]; exact hli
            have HBX := hid (B5.out.trans (HX.out.mono B5.out.size))
            obtain ⟨g, o, rfl, hg, hc⟩ := tx_cell HD.out HBX.out hli'
            obtain ⟨gp, op, rfl, hgp, hp0, hp1, hp2⟩ := ps_cell HQ.out HBX.out (show i < Q.length by rw [← HRR.out, ← hmr.out]; exact hli)
            have HPC := hid (fun W (hW : Below w1.heap.size w1 W) => (show W.cell? ⟨gp, op + i * 3, none⟩ = some (.string (Q.getD i default).pack) ∧ W.cell? ⟨gp, op + i * 3 + 1, none⟩ = some (.int .i64 (Q.getD i default).at_) ∧ W.cell? ⟨gp, op + i * 3 + 2, none⟩ = some (.int .i64 (Q.getD i default).len) from by
              obtain ⟨g9, o9, e9, _, u0, u1, u2⟩ := ps_cell HQ.out hW (show i < Q.length by rw [← HRR.out, ← hmr.out]; exact hli)
              injection e9 with e9
              injection e9 with e10 e11
              subst e10 e11
              exact ⟨u0, u1, u2⟩))
            have HCC := hid (fun W (hW : Below w1.heap.size w1 W) => (hW.cell (p := ⟨g, o + i, none⟩) hg).trans ((HBX.out.cell (p := ⟨g, o + i, none⟩) hg).symm.trans hc))
            have HF1 := hid (HA.out.found i hli')
            clear hp0 hp1 hp2 hgp hg hli' hc
            generalize D.getD i ⟨#[]⟩ = x at *
            generalize Q.getD i default = y at *
            go_wp2_with fail
            refine Tl.wp_mixs_lit (by kernel_rfl) 11 [85, 86, 87, 88, 89, 90, 84, 91, 92, 12] 204 rfl (by kernel_rfl) (fun W => Below wr.heap.size wr W) (fun d v W => KF (stM11 t A0 A1 A2 e0 e1 e2 g o m d1 i x y wr.heap.size d) v W) 12 1000 (by decide) ((Below.refl _ _).drew)
              ⟨fun a' W' hC hF => ?_, fun a' W' hC hF => ?_, fun a' W' hC hF => ?_, fun a' W' hC hF => ?_, fun a' W' hC hF => ?_, fun a' W' hC hF => ?_, fun a' W' hC hF => ?_, fun a' W' hC hF => ?_, fun a' W' hC hF => ?_, fun a' W' hC hF => ?_, ⟨rfl, by decide +kernel, fun a' W' hC hF => ?_⟩, trivial⟩ ?_
            · exact Tl.sm_v 85 _ rfl (Tl.wanted_none rfl) hC rfl (zn_load35 rfl ((hF 7 (by decide +kernel)).2 (by decide)) (N7.out.below (HX.out.trans (hC.mono HX.out.size)) N7.out.lt))
            · exact Tl.sm_v 86 _ rfl (Tl.wanted_none rfl) hC rfl (zn_move rfl ((hF 1 (by decide +kernel)).2 (by decide)))
            · exact Tl.sm_v 87 _ rfl (Tl.wanted_none rfl) hC rfl (zn_move rfl ((hF 11 (by decide +kernel)).2 (by decide)))
            · exact Tl.sm_v 88 _ rfl (Tl.wanted_none rfl) hC rfl (zn_ix29 rfl (show Act.eval a' (.tmp 86) = (.slice (some ⟨g, o, none⟩) m d1) from ((hF 86 (by decide +kernel)).1 (by decide))) (show Act.eval a' (.tmp 87) = (.int .i64 (i : Int)) from ((hF 87 (by decide +kernel)).1 (by decide))) hli)
            · exact Tl.sm_v 89 _ rfl (Tl.wanted_none rfl) hC rfl (zn_load9 rfl (show Act.eval a' (.tmp 88) = (.pointer (some ⟨g, o + i, none⟩)) from ((hF 88 (by decide +kernel)).1 (by decide))) (HCC.out W' (HBX.out.trans (hC.mono HBX.out.size))))
            · refine Tl.sm_call 11 #[_, _] (Tl.wanted_none rfl) (zn_call2 rfl rfl (show Act.eval a' (.tmp 85) = (.agg (stV t A0 A1 A2 e0 e1 e2)) from ((hF 85 (by decide +kernel)).1 (by decide))) (show Act.eval a' (.tmp 89) = (.string x) from ((hF 89 (by decide +kernel)).1 (by decide))) (en11z _ _)) ((find_is x y 0 HF1.out HTZ.out.1 HTZ.out.2.1 (C7.out.below (HX.out.trans (hC.mono HX.out.size))) (P7.out.below (HX.out.trans (hC.mono HX.out.size)))).mono ?_)
              rintro e W'' ⟨rfl, hb⟩
              exact ⟨_, rfl, hC.trans (hb.mono hC.size), fun d v _ h => KF_mono hb h, fun d hd => by cases hd; rfl⟩
            · exact Tl.sm_v 84 _ rfl (Tl.wanted_none rfl) hC rfl (zn_move rfl (show Act.eval a' (.tmp 90) = (.tuple #[.agg (pl3 y).toArray, .int .i64 0]) from ((hF 90 (by decide +kernel)).1 (by decide))))
            · exact Tl.sm_v 91 _ rfl (Tl.wanted_none rfl) hC rfl (zn_ext0 rfl (show Act.eval a' (.tmp 84) = (.tuple #[.agg (pl3 y).toArray, .int .i64 0]) from ((hF 84 (by decide +kernel)).1 (by decide))))
            · exact Tl.sm_v 92 _ rfl (Tl.wanted_none rfl) hC rfl (zn_ext1 rfl (show Act.eval a' (.tmp 84) = (.tuple #[.agg (pl3 y).toArray, .int .i64 0]) from ((hF 84 (by decide +kernel)).1 (by decide))))
            · exact Tl.sm_w _ (Tl.wanted_none rfl) (zn_alloc24 rfl) (hC.alloc hC.size _) (fun d v _ h => KF_mono ((Below.refl _ _).alloc (Nat.le_refl _) _) h) (fun d hd => by cases hd; exact ⟨_, rfl, hC.size, _, _, _, Has.new _ _ _ _ rfl⟩)
            · obtain ⟨bb, hb1, hlo, u0, u1, u2, hb⟩ := ((hF 12 (by decide +kernel)).1 (by decide))
              refine Tl.ss_w (zn_store24 (p := y) rfl ?_ ?_ hb) rfl ?_ ?_ ?_
              · exact hb1
              · exact ((hF 91 (by decide +kernel)).1 (by decide))
              · exact below_put3 hC hlo _ _ _
              · exact fun d v h => KF_put3 (stok11 t A0 A1 A2 e0 e1 e2 g o m d1 i x y wr.heap.size d) hb h
              · exact ⟨bb, hb1, hlo, put3 hb _ _ _⟩
            intro v' w8 hC hv hS
            obtain ⟨b12, e12, -, hN⟩ := hS 10 (by decide) rfl
            have e92 : v' 92 = .int .i64 0 := hv 92 (by decide)
            clear hv hS
            have HX8 := hid (HX.out.trans (hC.mono HX.out.size))
            have HB8 := hid (B5.out.trans (HX8.out.mono B5.out.size))
            clear hC HX HBX
            simp only [Tl.fill, List.drop]
            simp only [Act.put, List.setIfInBounds_toArray, List.set_cons_succ, List.set_cons_zero, e12, e92]
            generalize v' 85 = z85
            generalize v' 86 = z86
            generalize v' 87 = z87
            generalize v' 88 = z88
            generalize v' 89 = z89
            generalize v' 90 = z90
            generalize v' 84 = z84
            generalize v' 91 = z91
            clear e12 e92
            go_upto_region 12 with fail
            obtain ⟨r0, r1, r2⟩ := cells3p hN
            obtain ⟨y0, y1, y2⟩ := HPC.out w8 HB8.out
            have hne : ∀ W, (binOp .neq 24 (.agg #[.string y.pack, .int .i64 y.at_, .int .i64 y.len]) (.agg #[.string y.pack, .int .i64 y.at_, .int .i64 y.len])).run Tryz.prog W = .ok (.bool false) W := fun W => neq37 W y
            clear hN HPC HCC HF1
            generalize y.pack = q0 at *
            generalize y.at_ = q1 at *
            generalize y.len = q2 at *
            go_quiet (fail)
            clear r0 r1 r2 y0 y1 y2 hne
            go_wp2_with fail
            go_roundw
            case rel => exact ⟨i + 1, by omega, by rfl, hid (below_draws' HX8.out _)⟩
            case measure => first | (simp [intOf]; done) | (simp [intOf]; omega)
          · have him : m = i := by omega
            subst him
            have n1 : ¬ (m : Int) < (m : Int) := by omega
            obtain ⟨wq, hwq⟩ : ∃ wq, wq = wr := ⟨_, rfl⟩
            rw [← hwq]
            rw [← hwq] at HX
            have HXQ := HX
            clear hwq HX X8 W8
            go_upto_region 14 with fail
            have HBQ := hid (B5.out.trans (HXQ.out.mono B5.out.size))
            have HHQ := hid (HB5.out.trans (HXQ.out.mono HB5.out.size))
            obtain ⟨ez, hez⟩ : ∃ ez, ez = droE s.C s.P D := ⟨_, rfl⟩
            obtain ⟨u, hu⟩ : ∃ u, u = resS (droS s D) ez := ⟨_, rfl⟩
            have HEZ := hid hez
            have HU := hid hu
            clear hez hu
            have HUZ : Hid (u.C.length ≤ 100000 ∧ u.P.length ≤ 100000) := hid (by
              rw [HU.out]
              by_cases h0 : ez = 0
              · subst h0
                rw [res_ok]
                have h1 := droS_len s D
                have h2 := HZ1.out
                omega
              · rw [res_no h0]
                exact ⟨by decide, by decide⟩)
            obtain ⟨k0, k1, k2, k3, k4, k5⟩ := HK.out wq HBQ.out
            have C1 := drop_is (s := s) (a0 := a0) (a1 := a1) (a2 := a2) (c0 := c0) (c1 := c1) (c2 := c2) (w := wq) (b1 := b1) (d1 := d1) D u ez HEZ.out.symm HU.out.symm HZ1.out HZ2.out HZ3.out (by have := HM4.out; omega) HR.out (HS.out.below HBQ.out) (HC.out.below HBQ.out) (HP.out.below HBQ.out) (HD.out.below HBQ.out)
            rw [← HMM.out] at C1
            unfold stV at C1
            go_wp2_with fail
            refine C1.mono ?_
            rintro e w7 ⟨uv, rfl, hst, b7'⟩
            obtain ⟨U0, U1, U2, f0, f1, f2, rfl, hS', hC', hP'⟩ := hst
            clear C1 k0 k1 k2 k3 k4 k5
            unfold stV
            obtain ⟨q14, hq14⟩ : ∃ q, q = w7.heap.size := ⟨_, rfl⟩
            obtain ⟨x7, hx7⟩ : ∃ x, x = w7.alloc (.cells #[.int .i64 u.k, .int .i64 u.n, .int .i64 u.nx, .slice U0 u.sn.length f0, .slice U1 u.C.length f1, .slice U2 u.P.length f2] 35) := ⟨_, rfl⟩
            have hbx : Below w7.heap.size w7 x7 := by rw [hx7]; exact (Below.refl _ _).alloc (Nat.le_refl _) _
            have N14 : Hid (Has x7 q14 (stV u U0 U1 U2 f0 f1 f2) 35) := hid (by rw [hx7]; exact Has.new _ _ _ _ hq14)
            have S14 := hid (hS'.below hbx)
            have C14 := hid (hC'.below hbx)
            have P14 := hid (hP'.below hbx)
            have X7 := hid (b7'.trans (hbx.mono b7'.size))
            have HX7 := hid (HXQ.out.trans (X7.out.mono HXQ.out.size))
            have B7 := hid (HBQ.out.trans (X7.out.mono HBQ.out.size))
            have HB7 := hid (HHQ.out.trans (X7.out.mono HHQ.out.size))
            clear hS' hC' hP' b7' hbx X7 HBQ HHQ HXQ
            go_upto_region 15 with fail
            rw [← hx7, ← hq14]
            clear hx7 hq14
            obtain ⟨nC, hnC⟩ : ∃ n, n = s.C.length := ⟨_, rfl⟩
            have HNC := hid hnC
            have hC4 : nC ≤ 400 := by
              have h1 := (mayS_iff.1 HMY.out).1
              have h2 := (mayS_iff.1 HMY.out).2.most
              rw [List.length_zip] at h2
              omega
            have hPn : Hid (nC = s.P.length) := hid (by have h1 := (mayS_iff.1 HMY.out).1; omega)
            clear hnC
            by_cases hz0 : ez = 0
            · subst hz0
              have HDR : Hid (Dropped s u D) := hid (by rw [HU.out, res_ok]; exact droS_ok HMY.out)
              obtain ⟨k0, k1, k2, k3, k4, k5⟩ := cells6 N14.out
              have C1 := may_any u U0 U1 U2 f0 f1 f2 HUZ.out.1 HUZ.out.2 x7 C14.out P14.out
              rw [HDR.out.may] at C1
              unfold stV at C1
              go_wp2_with fail
              refine C1.mono ?_
              rintro e wl ⟨rfl, bl⟩
              have HXL := hid bl
              clear C1 bl k0 k1 k2 k3 k4 k5
              go_wp2_with fail
              go_loopw [16, 17, 18, 19, 20] (fun v16 _ _ _ _ wr => ∃ k : Nat, k ≤ nC ∧ k ≤ 60 ∧ v16 = .int .i64 (k : Int) ∧ Hid (Below x7.heap.size x7 wr)) (fun v16 _ _ _ _ _ => 60 - (intOf v16).toNat)
              case atStart => exact ⟨0, Nat.zero_le _, Nat.zero_le _, rfl, HXL⟩
              case round =>
                obtain ⟨k, hk, hk60, rfl, HX⟩ := hrel
                have HBX := hid (B7.out.trans (HX.out.mono B7.out.size))
                obtain ⟨k0, k1, k2, k3, k4, k5⟩ := HK.out wr HBX.out
                rw [← HNC.out] at k4
                rw [← hPn.out] at k5
                by_cases hgo : k < nC ∧ k < 60
                · obtain ⟨hlt, h60⟩ := hgo
                  have i1 : (k : Int) < (nC : Int) := by omega
                  have i2 : (k : Int) < 60 := by omega
                  have i0 : (0 : Int) ≤ (k : Int) := by omega
                  have wk : IntKind.i64.wrap ((k : Int) + 1) = ((k + 1 : Nat) : Int) := wrap_nat k (by omega)
                  have hlt' : k < s.C.length := by rw [← HNC.out]; exact hlt
                  obtain ⟨g, o, rfl, hg, hc⟩ := tx_cell HC.out HBX.out hlt'
                  obtain ⟨gp, op, rfl, hgp, hp0, hp1, hp2⟩ := ps_cell HP.out HBX.out (show k < s.P.length by rw [← hPn.out]; exact hlt)
                  have HPC := hid (fun W (hW : Below w1.heap.size w1 W) => (show W.cell? ⟨gp, op + k * 3, none⟩ = some (.string (s.P.getD k default).pack) ∧ W.cell? ⟨gp, op + k * 3 + 1, none⟩ = some (.int .i64 (s.P.getD k default).at_) ∧ W.cell? ⟨gp, op + k * 3 + 2, none⟩ = some (.int .i64 (s.P.getD k default).len) from by
                    obtain ⟨g9, o9, e9, _, u0, u1, u2⟩ := ps_cell HP.out hW (show k < s.P.length by rw [← hPn.out]; exact hlt)
                    injection e9 with e9
                    injection e9 with e10 e11
                    subst e10 e11
                    exact ⟨u0, u1, u2⟩))
                  have HCC := hid (fun W (hW : Below w1.heap.size w1 W) => (hW.cell (p := ⟨g, o + k, none⟩) hg).trans ((HBX.out.cell (p := ⟨g, o + k, none⟩) hg).symm.trans hc))
                  clear hp0 hp1 hp2 hgp hg
                  have hf1 := HA.out.stays k hlt'
                  obtain ⟨fp, hfp⟩ : ∃ fp, fp = s.P.getD k default := ⟨_, rfl⟩
                  rw [← hfp] at hf1
                  have hf2 := HDR.out.stays k hlt'
                  generalize s.C.getD k ⟨#[]⟩ = x at *
                  have HF1 := hid hf1
                  have HF2 := hid hf2
                  clear hf1 hf2 hlt'
                  have HXX := hid (HX7.out.trans (HX.out.mono HX7.out.size))
                  go_wp2_with fail
                  refine Tl.wp_mixs_lit (by kernel_rfl) 12 [128, 129, 130, 131, 132, 133, 134, 127, 135, 136, 17] 204 rfl (by kernel_rfl) (fun W => Below wr.heap.size wr W) (fun d v W => KF (stM20 t A0 A1 A2 e0 e1 e2 b g o nC c1 k x fp 0 wr.heap.size d) v W) 17 1000 (by decide) ((Below.refl _ _).drew)
                    ⟨fun a' W' hC hF => ?_, fun a' W' hC hF => ?_, fun a' W' hC hF => ?_, fun a' W' hC hF => ?_, fun a' W' hC hF => ?_, fun a' W' hC hF => ?_, fun a' W' hC hF => ?_, fun a' W' hC hF => ?_, fun a' W' hC hF => ?_, fun a' W' hC hF => ?_, fun a' W' hC hF => ?_, ⟨rfl, by decide +kernel, fun a' W' hC hF => ?_⟩, trivial⟩ ?_
                  · exact Tl.sm_v 128 _ rfl (Tl.wanted_none rfl) hC rfl (zn_load35 rfl ((hF 7 (by decide +kernel)).2 (by decide)) (N7.out.below (HXX.out.trans (hC.mono HXX.out.size)) N7.out.lt))
                  · exact Tl.sm_v 129 _ rfl (Tl.wanted_none rfl) hC rfl (zn_fa35_3 rfl ((hF 3 (by decide +kernel)).2 (by decide)))
                  · exact Tl.sm_v 130 _ rfl (Tl.wanted_none rfl) hC rfl (zn_load29 rfl (show Act.eval a' (.tmp 129) = (.pointer (some ⟨b, 0 + 4, none⟩)) from ((hF 129 (by decide +kernel)).1 (by decide))) ((cells6 (HN.out.below (HBX.out.trans (hC.mono HBX.out.size)) HN.out.lt)).2.2.2.2.1.trans (by rw [HNC.out])))
                  · exact Tl.sm_v 131 _ rfl (Tl.wanted_none rfl) hC rfl (zn_move rfl ((hF 16 (by decide +kernel)).2 (by decide)))
                  · exact Tl.sm_v 132 _ rfl (Tl.wanted_none rfl) hC rfl (zn_ix29 rfl (show Act.eval a' (.tmp 130) = (.slice (some ⟨g, o, none⟩) nC c1) from ((hF 130 (by decide +kernel)).1 (by decide))) (show Act.eval a' (.tmp 131) = (.int .i64 (k : Int)) from ((hF 131 (by decide +kernel)).1 (by decide))) hlt)
                  · exact Tl.sm_v 133 _ rfl (Tl.wanted_none rfl) hC rfl (zn_load9 rfl (show Act.eval a' (.tmp 132) = (.pointer (some ⟨g, o + k, none⟩)) from ((hF 132 (by decide +kernel)).1 (by decide))) (HCC.out W' (HBX.out.trans (hC.mono HBX.out.size))))
                  · refine Tl.sm_call 11 #[_, _] (Tl.wanted_none rfl) (zn_call2 rfl rfl (show Act.eval a' (.tmp 128) = (.agg (stV t A0 A1 A2 e0 e1 e2)) from ((hF 128 (by decide +kernel)).1 (by decide))) (show Act.eval a' (.tmp 133) = (.string x) from ((hF 133 (by decide +kernel)).1 (by decide))) (en11z _ _)) ((find_is x fp 0 HF1.out HTZ.out.1 HTZ.out.2.1 (C7.out.below (HXX.out.trans (hC.mono HXX.out.size))) (P7.out.below (HXX.out.trans (hC.mono HXX.out.size)))).mono ?_)
                    rintro e W'' ⟨rfl, hb⟩
                    exact ⟨_, rfl, hC.trans (hb.mono hC.size), fun d v _ h => KF_mono hb h, fun d hd => by cases hd; rfl⟩
                  · exact Tl.sm_v 127 _ rfl (Tl.wanted_none rfl) hC rfl (zn_move rfl (show Act.eval a' (.tmp 134) = (.tuple #[.agg (pl3 fp).toArray, .int .i64 0]) from ((hF 134 (by decide +kernel)).1 (by decide))))
                  · exact Tl.sm_v 135 _ rfl (Tl.wanted_none rfl) hC rfl (zn_ext0 rfl (show Act.eval a' (.tmp 127) = (.tuple #[.agg (pl3 fp).toArray, .int .i64 0]) from ((hF 127 (by decide +kernel)).1 (by decide))))
                  · exact Tl.sm_v 136 _ rfl (Tl.wanted_none rfl) hC rfl (zn_ext1 rfl (show Act.eval a' (.tmp 127) = (.tuple #[.agg (pl3 fp).toArray, .int .i64 0]) from ((hF 127 (by decide +kernel)).1 (by decide))))
                  · exact Tl.sm_w _ (Tl.wanted_none rfl) (zn_alloc24 rfl) (hC.alloc hC.size _) (fun d v _ h => KF_mono ((Below.refl _ _).alloc (Nat.le_refl _) _) h) (fun d hd => by cases hd; exact ⟨_, rfl, hC.size, _, _, _, Has.new _ _ _ _ rfl⟩)
                  · obtain ⟨bb, hb1, hlo, u0, u1, u2, hb⟩ := ((hF 17 (by decide +kernel)).1 (by decide))
                    refine Tl.ss_w (zn_store24 (p := fp) rfl ?_ ?_ hb) rfl ?_ ?_ ?_
                    · exact hb1
                    · exact ((hF 135 (by decide +kernel)).1 (by decide))
                    · exact below_put3 hC hlo _ _ _
                    · exact fun d v h => KF_put3 (stok20 t A0 A1 A2 e0 e1 e2 b g o nC c1 k x fp 0 wr.heap.size d) hb h
                    · exact ⟨bb, hb1, hlo, put3 hb _ _ _⟩
                  intro v' w8 hC hv hS
                  obtain ⟨b17, e17, hlo, hN⟩ := hS 11 (by decide) rfl
                  have e136 : v' 136 = .int .i64 0 := hv 136 (by decide)
                  clear hv hS
                  have HX8 := hid (HX.out.trans (hC.mono HX.out.size))
                  have HB8 := hid (B7.out.trans (HX8.out.mono B7.out.size))
                  have N17 := hid hN
                  have HLO : Hid (x7.heap.size ≤ b17) := hid (Nat.le_trans HX.out.size hlo)
                  clear hC hN hlo hc HX HBX HXX k0 k1 k2 k3 k4 k5
                  simp only [Tl.fill, List.drop]
                  simp only [Act.put, List.setIfInBounds_toArray, List.set_cons_succ, List.set_cons_zero, e17, e136]
                  generalize v' 128 = z128
                  generalize v' 129 = z129
                  generalize v' 130 = z130
                  generalize v' 131 = z131
                  generalize v' 132 = z132
                  generalize v' 133 = z133
                  generalize v' 134 = z134
                  generalize v' 127 = z127
                  generalize v' 135 = z135
                  clear e17 e136
                  go_upto_region 21 with fail
                  obtain ⟨r0, r1, r2⟩ := cells3p N17.out
                  obtain ⟨k0, k1, k2, k3, k4, k5⟩ := HK.out w8 HB8.out
                  rw [← hPn.out] at k5
                  obtain ⟨y0, y1, y2⟩ := HPC.out w8 HB8.out
                  rw [← hfp] at y0 y1 y2
                  have hne : ∀ W, (binOp .neq 24 (.agg #[.string fp.pack, .int .i64 fp.at_, .int .i64 fp.len]) (.agg #[.string fp.pack, .int .i64 fp.at_, .int .i64 fp.len])).run Tryz.prog W = .ok (.bool false) W := fun W => neq37 W fp
                  generalize hq0 : fp.pack = q0 at r0 y0 hne
                  generalize hq1 : fp.at_ = q1 at r1 y1 hne
                  generalize hq2 : fp.len = q2 at r2 y2 hne
                  clear hq0 hq1 hq2
                  go_quiet (fail)
                  clear r0 r1 r2 y0 y1 y2 hne k0 k1 k2 k3 k4 k5
                  go_wp2_with fail
                  have HMX := hid (show m ≤ 400 by omega)
                  go_loopw [19, 20] (fun v19 v20 wr => ∃ i : Nat, i ≤ m ∧ v20 = .int .i64 (i : Int) ∧ v19 = .bool (goneK D x i) ∧ Hid (Below w8.heap.size w8 wr)) (fun _ v20 _ => m - (intOf v20).toNat)
                  case atStart => exact ⟨0, Nat.zero_le _, rfl, by rw [gone_zero], hid (below_draws' (Below.refl _ _) _)⟩
                  case round =>
                    obtain ⟨i, hi, rfl, rfl, HI⟩ := hrel
                    by_cases hli : i < m
                    · have n1 : (i : Int) < (m : Int) := by omega
                      have n0 : (0 : Int) ≤ (i : Int) := by omega
                      have wi : IntKind.i64.wrap ((i : Int) + 1) = ((i + 1 : Nat) : Int) := wrap_nat i (by have := HMX.out; omega)
                      have hli' : i < D.length := by rw [← HMM.out]; exact hli
                      have HBI := hid (HB8.out.trans (HI.out.mono HB8.out.size))
                      obtain ⟨gd, od, rfl, hgd, hd⟩ := tx_cell HD.out HBI.out hli'
                      have HGS := hid (gone_succ (x := x) hli')
                      have hc := HCC.out wr HBI.out
                      obtain ⟨k0, k1, k2, k3, k4, k5⟩ := HK.out wr HBI.out
                      rw [← HNC.out] at k4
                      clear k0 k1 k2 k3 k5 hgd
                      generalize D.getD i ⟨#[]⟩ = dd at *
                      cases hgi : goneK D x i with
                      | true =>
                        rw [hgi, Bool.true_or] at HGS
                        clear hgi
                        go_wp2_with fail
                        go_quiet (fail)
                        go_wp2_with fail
                        go_roundw
                        case rel => exact ⟨i + 1, by omega, by rfl, by rw [HGS.out], hid (below_draws' HI.out _)⟩
                        case measure => first | (simp [intOf]; done) | (simp [intOf]; omega)
                      | false =>
                        rw [hgi, Bool.false_or] at HGS
                        clear hgi
                        by_cases hdx : dd = x
                        · have q1 := str_eq hdx
                          rw [decide_eq_true hdx] at HGS
                          clear hdx
                          go_wp2_with fail
                          go_quiet (fail)
                          go_wp2_with fail
                          go_roundw
                          case rel => exact ⟨i + 1, by omega, by rfl, by rw [HGS.out], hid (below_draws' HI.out _)⟩
                          case measure => first | (simp [intOf]; done) | (simp [intOf]; omega)
                        · have q1 := str_ne hdx
                          rw [decide_eq_false hdx] at HGS
                          clear hdx
                          go_wp2_with fail
                          go_quiet (fail)
                          go_wp2_with fail
                          go_roundw
                          case rel => exact ⟨i + 1, by omega, by rfl, by rw [HGS.out], hid (below_draws' HI.out _)⟩
                          case measure => first | (simp [intOf]; done) | (simp [intOf]; omega)
                    · obtain rfl : i = m := by omega
                      have n1 : ¬ (i : Int) < (i : Int) := by omega
                      have HX9 := hid (HX8.out.trans (HI.out.mono HX8.out.size))
                      have HB9 := hid (B7.out.trans (HX9.out.mono B7.out.size))
                      have N17' := hid (N17.out.below HI.out N17.out.lt)
                      clear HX8 HB8 HI N17
                      have HG := hid (gone_all D x)
                      rw [← HMM.out] at HG
                      cases hgi : goneK D x i with
                      | true =>
                        rw [hgi] at HG
                        have hf2 := HF2.out
                        rw [if_pos HG.out.symm] at hf2
                        have HF2' := hid hf2
                        clear hf2
                        have HXX := hid HX9.out
                        go_wp2_with fail
                        refine Tl.wp_mixs_lit (by kernel_rfl) 11 [172, 173, 174, 175, 176, 177, 178, 171, 179, 180] 204 rfl (by kernel_rfl) (fun W => Below x7.heap.size x7 W ∧ ∃ u0 u1 u2, Has W b17 #[u0, u1, u2] 24) (fun d v W => KF (stM28 u U0 U1 U2 f0 f1 f2 b g o nC c1 k x ⟨⟨#[]⟩, 0, 0⟩ 5 b17 d) v W) 17 1000 (by decide) ⟨HX9.out.drew, _, _, _, N17'.out.drew⟩
                          ⟨fun a' W' hC hF => ?_, fun a' W' hC hF => ?_, fun a' W' hC hF => ?_, fun a' W' hC hF => ?_, fun a' W' hC hF => ?_, fun a' W' hC hF => ?_, fun a' W' hC hF => ?_, fun a' W' hC hF => ?_, fun a' W' hC hF => ?_, fun a' W' hC hF => ?_, ⟨rfl, by decide +kernel, fun a' W' hC hF => ?_⟩, trivial⟩ ?_
                        · exact Tl.sm_v 172 _ rfl (Tl.wanted_none rfl) hC rfl (zn_load35 rfl ((hF 14 (by decide +kernel)).2 (by decide)) (N14.out.below hC.1 N14.out.lt))
                        · exact Tl.sm_v 173 _ rfl (Tl.wanted_none rfl) hC rfl (zn_fa35_3 rfl ((hF 3 (by decide +kernel)).2 (by decide)))
                        · exact Tl.sm_v 174 _ rfl (Tl.wanted_none rfl) hC rfl (zn_load29 rfl (show Act.eval a' (.tmp 173) = (.pointer (some ⟨b, 0 + 4, none⟩)) from ((hF 173 (by decide +kernel)).1 (by decide))) ((cells6 (HN.out.below (B7.out.trans (hC.1.mono B7.out.size)) HN.out.lt)).2.2.2.2.1.trans (by rw [HNC.out])))
                        · exact Tl.sm_v 175 _ rfl (Tl.wanted_none rfl) hC rfl (zn_move rfl ((hF 16 (by decide +kernel)).2 (by decide)))
                        · exact Tl.sm_v 176 _ rfl (Tl.wanted_none rfl) hC rfl (zn_ix29 rfl (show Act.eval a' (.tmp 174) = (.slice (some ⟨g, o, none⟩) nC c1) from ((hF 174 (by decide +kernel)).1 (by decide))) (show Act.eval a' (.tmp 175) = (.int .i64 (k : Int)) from ((hF 175 (by decide +kernel)).1 (by decide))) hlt)
                        · exact Tl.sm_v 177 _ rfl (Tl.wanted_none rfl) hC rfl (zn_load9 rfl (show Act.eval a' (.tmp 176) = (.pointer (some ⟨g, o + k, none⟩)) from ((hF 176 (by decide +kernel)).1 (by decide))) (HCC.out W' (B7.out.trans (hC.1.mono B7.out.size))))
                        · refine Tl.sm_call 11 #[_, _] (Tl.wanted_none rfl) (zn_call2 rfl rfl (show Act.eval a' (.tmp 172) = (.agg (stV u U0 U1 U2 f0 f1 f2)) from ((hF 172 (by decide +kernel)).1 (by decide))) (show Act.eval a' (.tmp 177) = (.string x) from ((hF 177 (by decide +kernel)).1 (by decide))) (en11z _ _)) ((find_is x ⟨⟨#[]⟩, 0, 0⟩ 5 HF2'.out HUZ.out.1 HUZ.out.2 (C14.out.below hC.1) (P14.out.below hC.1)).mono ?_)
                          rintro e W'' ⟨rfl, hb⟩
                          exact ⟨_, rfl, ⟨hC.1.trans (hb.mono hC.1.size), by obtain ⟨u0, u1, u2, hh⟩ := hC.2; exact ⟨u0, u1, u2, hh.below hb hh.lt⟩⟩, fun d v _ h => KF_mono hb h, fun d hd => by cases hd; rfl⟩
                        · exact Tl.sm_v 171 _ rfl (Tl.wanted_none rfl) hC rfl (zn_move rfl (show Act.eval a' (.tmp 178) = (.tuple #[.agg (pl3 ⟨⟨#[]⟩, 0, 0⟩).toArray, .int .i64 5]) from ((hF 178 (by decide +kernel)).1 (by decide))))
                        · exact Tl.sm_v 179 _ rfl (Tl.wanted_none rfl) hC rfl (zn_ext0 rfl (show Act.eval a' (.tmp 171) = (.tuple #[.agg (pl3 ⟨⟨#[]⟩, 0, 0⟩).toArray, .int .i64 5]) from ((hF 171 (by decide +kernel)).1 (by decide))))
                        · exact Tl.sm_v 180 _ rfl (Tl.wanted_none rfl) hC rfl (zn_ext1 rfl (show Act.eval a' (.tmp 171) = (.tuple #[.agg (pl3 ⟨⟨#[]⟩, 0, 0⟩).toArray, .int .i64 5]) from ((hF 171 (by decide +kernel)).1 (by decide))))
                        · obtain ⟨u0, u1, u2, hb⟩ := hC.2
                          refine Tl.ss_w (zn_store24 (b := b17) (p := ⟨⟨#[]⟩, 0, 0⟩) rfl ?_ ?_ hb) rfl ?_ ?_ ?_
                          · exact ((hF 17 (by decide +kernel)).2 (by decide))
                          · exact ((hF 179 (by decide +kernel)).1 (by decide))
                          · exact ⟨below_put3 hC.1 HLO.out _ _ _, _, _, _, put3 hb _ _ _⟩
                          · exact fun d v h => KF_put3 (stok28 u U0 U1 U2 f0 f1 f2 b g o nC c1 k x ⟨⟨#[]⟩, 0, 0⟩ 5 b17 d) hb h
                          · exact put3 hb _ _ _
                        intro v' w10 hC hv hS
                        have hN : Has w10 b17 (pl3 ⟨⟨#[]⟩, 0, 0⟩).toArray 24 := hS 10 (by decide) rfl
                        have e180 : v' 180 = .int .i64 5 := hv 180 (by decide)
                        clear hv hS
                        have HXA := hid hC.1
                        have HBA := hid (B7.out.trans (HXA.out.mono B7.out.size))
                        clear hC N17' HX9 HB9
                        simp only [Tl.fill, List.drop]
                        simp only [Act.put, List.setIfInBounds_toArray, List.set_cons_succ, List.set_cons_zero, e180]
                        generalize v' 172 = z172 at *
                        generalize v' 173 = z173 at *
                        generalize v' 174 = z174 at *
                        generalize v' 175 = z175 at *
                        generalize v' 176 = z176 at *
                        generalize v' 177 = z177 at *
                        generalize v' 178 = z178 at *
                        generalize v' 171 = z171 at *
                        generalize v' 179 = z179 at *
                        clear e180
                        go_upto_region 29 with fail
                        go_quiet (fail)
                        go_wp2_with fail
                        go_roundw
                        case rel => exact ⟨k + 1, by omega, by omega, by rfl, hid (below_draws' HXA.out _)⟩
                        case measure => first | (simp [intOf]; done) | (simp [intOf]; omega)
                      | false =>
                        rw [hgi] at HG
                        have hf2 := HF2.out
                        rw [if_neg (by rw [← HG.out]; decide)] at hf2
                        rw [← hfp] at hf2
                        have HF2' := hid hf2
                        clear hf2
                        have HXX := hid HX9.out
                        go_wp2_with fail
                        refine Tl.wp_mixs_lit (by kernel_rfl) 11 [172, 173, 174, 175, 176, 177, 178, 171, 179, 180] 204 rfl (by kernel_rfl) (fun W => Below x7.heap.size x7 W ∧ ∃ u0 u1 u2, Has W b17 #[u0, u1, u2] 24) (fun d v W => KF (stM28 u U0 U1 U2 f0 f1 f2 b g o nC c1 k x fp 0 b17 d) v W) 17 1000 (by decide) ⟨HX9.out.drew, _, _, _, N17'.out.drew⟩
                          ⟨fun a' W' hC hF => ?_, fun a' W' hC hF => ?_, fun a' W' hC hF => ?_, fun a' W' hC hF => ?_, fun a' W' hC hF => ?_, fun a' W' hC hF => ?_, fun a' W' hC hF => ?_, fun a' W' hC hF => ?_, fun a' W' hC hF => ?_, fun a' W' hC hF => ?_, ⟨rfl, by decide +kernel, fun a' W' hC hF => ?_⟩, trivial⟩ ?_
                        · exact Tl.sm_v 172 _ rfl (Tl.wanted_none rfl) hC rfl (zn_load35 rfl ((hF 14 (by decide +kernel)).2 (by decide)) (N14.out.below hC.1 N14.out.lt))
                        · exact Tl.sm_v 173 _ rfl (Tl.wanted_none rfl) hC rfl (zn_fa35_3 rfl ((hF 3 (by decide +kernel)).2 (by decide)))
                        · exact Tl.sm_v 174 _ rfl (Tl.wanted_none rfl) hC rfl (zn_load29 rfl (show Act.eval a' (.tmp 173) = (.pointer (some ⟨b, 0 + 4, none⟩)) from ((hF 173 (by decide +kernel)).1 (by decide))) ((cells6 (HN.out.below (B7.out.trans (hC.1.mono B7.out.size)) HN.out.lt)).2.2.2.2.1.trans (by rw [HNC.out])))
                        · exact Tl.sm_v 175 _ rfl (Tl.wanted_none rfl) hC rfl (zn_move rfl ((hF 16 (by decide +kernel)).2 (by decide)))
                        · exact Tl.sm_v 176 _ rfl (Tl.wanted_none rfl) hC rfl (zn_ix29 rfl (show Act.eval a' (.tmp 174) = (.slice (some ⟨g, o, none⟩) nC c1) from ((hF 174 (by decide +kernel)).1 (by decide))) (show Act.eval a' (.tmp 175) = (.int .i64 (k : Int)) from ((hF 175 (by decide +kernel)).1 (by decide))) hlt)
                        · exact Tl.sm_v 177 _ rfl (Tl.wanted_none rfl) hC rfl (zn_load9 rfl (show Act.eval a' (.tmp 176) = (.pointer (some ⟨g, o + k, none⟩)) from ((hF 176 (by decide +kernel)).1 (by decide))) (HCC.out W' (B7.out.trans (hC.1.mono B7.out.size))))
                        · refine Tl.sm_call 11 #[_, _] (Tl.wanted_none rfl) (zn_call2 rfl rfl (show Act.eval a' (.tmp 172) = (.agg (stV u U0 U1 U2 f0 f1 f2)) from ((hF 172 (by decide +kernel)).1 (by decide))) (show Act.eval a' (.tmp 177) = (.string x) from ((hF 177 (by decide +kernel)).1 (by decide))) (en11z _ _)) ((find_is x fp 0 HF2'.out HUZ.out.1 HUZ.out.2 (C14.out.below hC.1) (P14.out.below hC.1)).mono ?_)
                          rintro e W'' ⟨rfl, hb⟩
                          exact ⟨_, rfl, ⟨hC.1.trans (hb.mono hC.1.size), by obtain ⟨u0, u1, u2, hh⟩ := hC.2; exact ⟨u0, u1, u2, hh.below hb hh.lt⟩⟩, fun d v _ h => KF_mono hb h, fun d hd => by cases hd; rfl⟩
                        · exact Tl.sm_v 171 _ rfl (Tl.wanted_none rfl) hC rfl (zn_move rfl (show Act.eval a' (.tmp 178) = (.tuple #[.agg (pl3 fp).toArray, .int .i64 0]) from ((hF 178 (by decide +kernel)).1 (by decide))))
                        · exact Tl.sm_v 179 _ rfl (Tl.wanted_none rfl) hC rfl (zn_ext0 rfl (show Act.eval a' (.tmp 171) = (.tuple #[.agg (pl3 fp).toArray, .int .i64 0]) from ((hF 171 (by decide +kernel)).1 (by decide))))
                        · exact Tl.sm_v 180 _ rfl (Tl.wanted_none rfl) hC rfl (zn_ext1 rfl (show Act.eval a' (.tmp 171) = (.tuple #[.agg (pl3 fp).toArray, .int .i64 0]) from ((hF 171 (by decide +kernel)).1 (by decide))))
                        · obtain ⟨u0, u1, u2, hb⟩ := hC.2
                          refine Tl.ss_w (zn_store24 (b := b17) (p := fp) rfl ?_ ?_ hb) rfl ?_ ?_ ?_
                          · exact ((hF 17 (by decide +kernel)).2 (by decide))
                          · exact ((hF 179 (by decide +kernel)).1 (by decide))
                          · exact ⟨below_put3 hC.1 HLO.out _ _ _, _, _, _, put3 hb _ _ _⟩
                          · exact fun d v h => KF_put3 (stok28 u U0 U1 U2 f0 f1 f2 b g o nC c1 k x fp 0 b17 d) hb h
                          · exact put3 hb _ _ _
                        intro v' w10 hC hv hS
                        have hN : Has w10 b17 (pl3 fp).toArray 24 := hS 10 (by decide) rfl
                        have e180 : v' 180 = .int .i64 0 := hv 180 (by decide)
                        clear hv hS
                        have HXA := hid hC.1
                        have HBA := hid (B7.out.trans (HXA.out.mono B7.out.size))
                        clear hC N17' HX9 HB9
                        simp only [Tl.fill, List.drop]
                        simp only [Act.put, List.setIfInBounds_toArray, List.set_cons_succ, List.set_cons_zero, e180]
                        generalize v' 172 = z172 at *
                        generalize v' 173 = z173 at *
                        generalize v' 174 = z174 at *
                        generalize v' 175 = z175 at *
                        generalize v' 176 = z176 at *
                        generalize v' 177 = z177 at *
                        generalize v' 178 = z178 at *
                        generalize v' 171 = z171 at *
                        generalize v' 179 = z179 at *
                        clear e180
                        go_upto_region 29 with fail
                        obtain ⟨r0, r1, r2⟩ := cells3p hN
                        obtain ⟨k0, k1, k2, k3, k4, k5⟩ := HK.out w10 HBA.out
                        rw [← hPn.out] at k5
                        obtain ⟨y0, y1, y2⟩ := HPC.out w10 HBA.out
                        rw [← hfp] at y0 y1 y2
                        have hne : ∀ W, (binOp .neq 24 (.agg #[.string fp.pack, .int .i64 fp.at_, .int .i64 fp.len]) (.agg #[.string fp.pack, .int .i64 fp.at_, .int .i64 fp.len])).run Tryz.prog W = .ok (.bool false) W := fun W => neq37 W fp
                        generalize hq0 : fp.pack = q0 at r0 y0 hne
                        generalize hq1 : fp.at_ = q1 at r1 y1 hne
                        generalize hq2 : fp.len = q2 at r2 y2 hne
                        clear hq0 hq1 hq2
                        go_quiet (fail)
                        clear r0 r1 r2 y0 y1 y2 hne k0 k1 k2 k3 k4 k5
                        go_wp2_with fail
                        go_roundw
                        case rel => exact ⟨k + 1, by omega, by omega, by rfl, hid (below_draws' HXA.out _)⟩
                        case measure => first | (simp [intOf]; done) | (simp [intOf]; omega)
                · clear k0 k1 k2 k3 k4 k5
                  by_cases hlt : k < nC
                  · obtain rfl : k = 60 := by omega
                    have i1 : (60 : Int) < (nC : Int) := by omega
                    rw [show ((60 : Nat) : Int) = 60 from rfl]
                    have HHX := hid (HB7.out.trans (HX.out.mono HB7.out.size))
                    obtain ⟨k0, k1, k2, k3, k4, k5⟩ := HK.out wr HBX.out
                    have C1 := whole_any s a0 a1 a2 c0 c1 c2 HMY.out wr (HC.out.below HBX.out) (HP.out.below HBX.out)
                    unfold stV at C1
                    first | rw [← HNC.out] at k4 C1 | skip
                    first | rw [← hPn.out] at k5 C1 | skip
                    go_wp2_with fail
                    refine C1.mono ?_
                    rintro e wz ⟨rfl, bz⟩
                    have HEND := hid (HHX.out.trans (bz.mono HHX.out.size))
                    clear bz C1 k0 k1 k2 k3 k4 k5
                    go_wp2_with fail
                    go_ret
                    exact ⟨rfl, HEND.out⟩
                  · obtain rfl : k = nC := by omega
                    have i1 : ¬ (k : Int) < (k : Int) := by omega
                    have HHX := hid (HB7.out.trans (HX.out.mono HB7.out.size))
                    obtain ⟨k0, k1, k2, k3, k4, k5⟩ := HK.out wr HBX.out
                    have C1 := whole_any s a0 a1 a2 c0 c1 c2 HMY.out wr (HC.out.below HBX.out) (HP.out.below HBX.out)
                    unfold stV at C1
                    first | rw [← HNC.out] at k4 C1 | skip
                    first | rw [← hPn.out] at k5 C1 | skip
                    go_wp2_with fail
                    refine C1.mono ?_
                    rintro e wz ⟨rfl, bz⟩
                    have HEND := hid (HHX.out.trans (bz.mono HHX.out.size))
                    clear bz C1 k0 k1 k2 k3 k4 k5
                    go_wp2_with fail
                    go_ret
                    exact ⟨rfl, HEND.out⟩
            · have qz : (ez == 0) = false := by rw [beq_eq_false_iff_ne]; exact hz0
              obtain ⟨wl, hwl⟩ : ∃ wl, wl = x7 := ⟨_, rfl⟩
              have HXL : Hid (Below x7.heap.size x7 wl) := hid (by rw [hwl]; exact Below.refl _ _)
              rw [← hwl]
              clear hwl
              go_wp2_with fail
              go_loopw [16, 17, 18, 19, 20] (fun v16 _ _ _ _ wr => ∃ k : Nat, k ≤ nC ∧ k ≤ 60 ∧ v16 = .int .i64 (k : Int) ∧ Hid (Below x7.heap.size x7 wr)) (fun v16 _ _ _ _ _ => 60 - (intOf v16).toNat)
              case atStart => exact ⟨0, Nat.zero_le _, Nat.zero_le _, rfl, HXL⟩
              case round =>
                obtain ⟨k, hk, hk60, rfl, HX⟩ := hrel
                have HBX := hid (B7.out.trans (HX.out.mono B7.out.size))
                obtain ⟨k0, k1, k2, k3, k4, k5⟩ := HK.out wr HBX.out
                rw [← HNC.out] at k4
                rw [← hPn.out] at k5
                by_cases hgo : k < nC ∧ k < 60
                · obtain ⟨hlt, h60⟩ := hgo
                  have i1 : (k : Int) < (nC : Int) := by omega
                  have i2 : (k : Int) < 60 := by omega
                  have i0 : (0 : Int) ≤ (k : Int) := by omega
                  have wk : IntKind.i64.wrap ((k : Int) + 1) = ((k + 1 : Nat) : Int) := wrap_nat k (by omega)
                  have hlt' : k < s.C.length := by rw [← HNC.out]; exact hlt
                  obtain ⟨g, o, rfl, hg, hc⟩ := tx_cell HC.out HBX.out hlt'
                  obtain ⟨gp, op, rfl, hgp, hp0, hp1, hp2⟩ := ps_cell HP.out HBX.out (show k < s.P.length by rw [← hPn.out]; exact hlt)
                  have HPC := hid (fun W (hW : Below w1.heap.size w1 W) => (show W.cell? ⟨gp, op + k * 3, none⟩ = some (.string (s.P.getD k default).pack) ∧ W.cell? ⟨gp, op + k * 3 + 1, none⟩ = some (.int .i64 (s.P.getD k default).at_) ∧ W.cell? ⟨gp, op + k * 3 + 2, none⟩ = some (.int .i64 (s.P.getD k default).len) from by
                    obtain ⟨g9, o9, e9, _, u0, u1, u2⟩ := ps_cell HP.out hW (show k < s.P.length by rw [← hPn.out]; exact hlt)
                    injection e9 with e9
                    injection e9 with e10 e11
                    subst e10 e11
                    exact ⟨u0, u1, u2⟩))
                  have HCC := hid (fun W (hW : Below w1.heap.size w1 W) => (hW.cell (p := ⟨g, o + k, none⟩) hg).trans ((HBX.out.cell (p := ⟨g, o + k, none⟩) hg).symm.trans hc))
                  clear hp0 hp1 hp2 hgp hg
                  have hf1 := HA.out.stays k hlt'
                  obtain ⟨fp, hfp⟩ : ∃ fp, fp = s.P.getD k default := ⟨_, rfl⟩
                  rw [← hfp] at hf1
                  obtain ⟨fp2, fe2, hf2⟩ : ∃ fp fe, findV u.C u.P (s.C.getD k ⟨#[]⟩) = (fp, fe) := ⟨_, _, rfl⟩
                  generalize s.C.getD k ⟨#[]⟩ = x at *
                  have HF1 := hid hf1
                  have HF2 := hid hf2
                  clear hf1 hf2 hlt'
                  have HXX := hid (HX7.out.trans (HX.out.mono HX7.out.size))
                  go_wp2_with fail
                  refine Tl.wp_mixs_lit (by kernel_rfl) 12 [128, 129, 130, 131, 132, 133, 134, 127, 135, 136, 17] 204 rfl (by kernel_rfl) (fun W => Below wr.heap.size wr W) (fun d v W => KF (stM20 t A0 A1 A2 e0 e1 e2 b g o nC c1 k x fp 0 wr.heap.size d) v W) 17 1000 (by decide) ((Below.refl _ _).drew)
                    ⟨fun a' W' hC hF => ?_, fun a' W' hC hF => ?_, fun a' W' hC hF => ?_, fun a' W' hC hF => ?_, fun a' W' hC hF => ?_, fun a' W' hC hF => ?_, fun a' W' hC hF => ?_, fun a' W' hC hF => ?_, fun a' W' hC hF => ?_, fun a' W' hC hF => ?_, fun a' W' hC hF => ?_, ⟨rfl, by decide +kernel, fun a' W' hC hF => ?_⟩, trivial⟩ ?_
                  · exact Tl.sm_v 128 _ rfl (Tl.wanted_none rfl) hC rfl (zn_load35 rfl ((hF 7 (by decide +kernel)).2 (by decide)) (N7.out.below (HXX.out.trans (hC.mono HXX.out.size)) N7.out.lt))
                  · exact Tl.sm_v 129 _ rfl (Tl.wanted_none rfl) hC rfl (zn_fa35_3 rfl ((hF 3 (by decide +kernel)).2 (by decide)))
                  · exact Tl.sm_v 130 _ rfl (Tl.wanted_none rfl) hC rfl (zn_load29 rfl (show Act.eval a' (.tmp 129) = (.pointer (some ⟨b, 0 + 4, none⟩)) from ((hF 129 (by decide +kernel)).1 (by decide))) ((cells6 (HN.out.below (HBX.out.trans (hC.mono HBX.out.size)) HN.out.lt)).2.2.2.2.1.trans (by rw [HNC.out])))
                  · exact Tl.sm_v 131 _ rfl (Tl.wanted_none rfl) hC rfl (zn_move rfl ((hF 16 (by decide +kernel)).2 (by decide)))
                  · exact Tl.sm_v 132 _ rfl (Tl.wanted_none rfl) hC rfl (zn_ix29 rfl (show Act.eval a' (.tmp 130) = (.slice (some ⟨g, o, none⟩) nC c1) from ((hF 130 (by decide +kernel)).1 (by decide))) (show Act.eval a' (.tmp 131) = (.int .i64 (k : Int)) from ((hF 131 (by decide +kernel)).1 (by decide))) hlt)
                  · exact Tl.sm_v 133 _ rfl (Tl.wanted_none rfl) hC rfl (zn_load9 rfl (show Act.eval a' (.tmp 132) = (.pointer (some ⟨g, o + k, none⟩)) from ((hF 132 (by decide +kernel)).1 (by decide))) (HCC.out W' (HBX.out.trans (hC.mono HBX.out.size))))
                  · refine Tl.sm_call 11 #[_, _] (Tl.wanted_none rfl) (zn_call2 rfl rfl (show Act.eval a' (.tmp 128) = (.agg (stV t A0 A1 A2 e0 e1 e2)) from ((hF 128 (by decide +kernel)).1 (by decide))) (show Act.eval a' (.tmp 133) = (.string x) from ((hF 133 (by decide +kernel)).1 (by decide))) (en11z _ _)) ((find_is x fp 0 HF1.out HTZ.out.1 HTZ.out.2.1 (C7.out.below (HXX.out.trans (hC.mono HXX.out.size))) (P7.out.below (HXX.out.trans (hC.mono HXX.out.size)))).mono ?_)
                    rintro e W'' ⟨rfl, hb⟩
                    exact ⟨_, rfl, hC.trans (hb.mono hC.size), fun d v _ h => KF_mono hb h, fun d hd => by cases hd; rfl⟩
                  · exact Tl.sm_v 127 _ rfl (Tl.wanted_none rfl) hC rfl (zn_move rfl (show Act.eval a' (.tmp 134) = (.tuple #[.agg (pl3 fp).toArray, .int .i64 0]) from ((hF 134 (by decide +kernel)).1 (by decide))))
                  · exact Tl.sm_v 135 _ rfl (Tl.wanted_none rfl) hC rfl (zn_ext0 rfl (show Act.eval a' (.tmp 127) = (.tuple #[.agg (pl3 fp).toArray, .int .i64 0]) from ((hF 127 (by decide +kernel)).1 (by decide))))
                  · exact Tl.sm_v 136 _ rfl (Tl.wanted_none rfl) hC rfl (zn_ext1 rfl (show Act.eval a' (.tmp 127) = (.tuple #[.agg (pl3 fp).toArray, .int .i64 0]) from ((hF 127 (by decide +kernel)).1 (by decide))))
                  · exact Tl.sm_w _ (Tl.wanted_none rfl) (zn_alloc24 rfl) (hC.alloc hC.size _) (fun d v _ h => KF_mono ((Below.refl _ _).alloc (Nat.le_refl _) _) h) (fun d hd => by cases hd; exact ⟨_, rfl, hC.size, _, _, _, Has.new _ _ _ _ rfl⟩)
                  · obtain ⟨bb, hb1, hlo, u0, u1, u2, hb⟩ := ((hF 17 (by decide +kernel)).1 (by decide))
                    refine Tl.ss_w (zn_store24 (p := fp) rfl ?_ ?_ hb) rfl ?_ ?_ ?_
                    · exact hb1
                    · exact ((hF 135 (by decide +kernel)).1 (by decide))
                    · exact below_put3 hC hlo _ _ _
                    · exact fun d v h => KF_put3 (stok20 t A0 A1 A2 e0 e1 e2 b g o nC c1 k x fp 0 wr.heap.size d) hb h
                    · exact ⟨bb, hb1, hlo, put3 hb _ _ _⟩
                  intro v' w8 hC hv hS
                  obtain ⟨b17, e17, hlo, hN⟩ := hS 11 (by decide) rfl
                  have e136 : v' 136 = .int .i64 0 := hv 136 (by decide)
                  clear hv hS
                  have HX8 := hid (HX.out.trans (hC.mono HX.out.size))
                  have HB8 := hid (B7.out.trans (HX8.out.mono B7.out.size))
                  have N17 := hid hN
                  have HLO : Hid (x7.heap.size ≤ b17) := hid (Nat.le_trans HX.out.size hlo)
                  clear hC hN hlo hc HX HBX HXX k0 k1 k2 k3 k4 k5
                  simp only [Tl.fill, List.drop]
                  simp only [Act.put, List.setIfInBounds_toArray, List.set_cons_succ, List.set_cons_zero, e17, e136]
                  generalize v' 128 = z128
                  generalize v' 129 = z129
                  generalize v' 130 = z130
                  generalize v' 131 = z131
                  generalize v' 132 = z132
                  generalize v' 133 = z133
                  generalize v' 134 = z134
                  generalize v' 127 = z127
                  generalize v' 135 = z135
                  clear e17 e136
                  go_upto_region 21 with fail
                  obtain ⟨r0, r1, r2⟩ := cells3p N17.out
                  obtain ⟨k0, k1, k2, k3, k4, k5⟩ := HK.out w8 HB8.out
                  rw [← hPn.out] at k5
                  obtain ⟨y0, y1, y2⟩ := HPC.out w8 HB8.out
                  rw [← hfp] at y0 y1 y2
                  have hne : ∀ W, (binOp .neq 24 (.agg #[.string fp.pack, .int .i64 fp.at_, .int .i64 fp.len]) (.agg #[.string fp.pack, .int .i64 fp.at_, .int .i64 fp.len])).run Tryz.prog W = .ok (.bool false) W := fun W => neq37 W fp
                  generalize hq0 : fp.pack = q0 at r0 y0 hne
                  generalize hq1 : fp.at_ = q1 at r1 y1 hne
                  generalize hq2 : fp.len = q2 at r2 y2 hne
                  clear hq0 hq1 hq2
                  go_quiet (fail)
                  clear r0 r1 r2 y0 y1 y2 hne k0 k1 k2 k3 k4 k5
                  go_wp2_with fail
                  have HMX := hid (show m ≤ 400 by omega)
                  go_loopw [19, 20] (fun v19 v20 wr => ∃ i : Nat, i ≤ m ∧ v20 = .int .i64 (i : Int) ∧ v19 = .bool (goneK D x i) ∧ Hid (Below w8.heap.size w8 wr)) (fun _ v20 _ => m - (intOf v20).toNat)
                  case atStart => exact ⟨0, Nat.zero_le _, rfl, by rw [gone_zero], hid (below_draws' (Below.refl _ _) _)⟩
                  case round =>
                    obtain ⟨i, hi, rfl, rfl, HI⟩ := hrel
                    by_cases hli : i < m
                    · have n1 : (i : Int) < (m : Int) := by omega
                      have n0 : (0 : Int) ≤ (i : Int) := by omega
                      have wi : IntKind.i64.wrap ((i : Int) + 1) = ((i + 1 : Nat) : Int) := wrap_nat i (by have := HMX.out; omega)
                      have hli' : i < D.length := by rw [← HMM.out]; exact hli
                      have HBI := hid (HB8.out.trans (HI.out.mono HB8.out.size))
                      obtain ⟨gd, od, rfl, hgd, hd⟩ := tx_cell HD.out HBI.out hli'
                      have HGS := hid (gone_succ (x := x) hli')
                      have hc := HCC.out wr HBI.out
                      obtain ⟨k0, k1, k2, k3, k4, k5⟩ := HK.out wr HBI.out
                      rw [← HNC.out] at k4
                      clear k0 k1 k2 k3 k5 hgd
                      generalize D.getD i ⟨#[]⟩ = dd at *
                      cases hgi : goneK D x i with
                      | true =>
                        rw [hgi, Bool.true_or] at HGS
                        clear hgi
                        go_wp2_with fail
                        go_quiet (fail)
                        go_wp2_with fail
                        go_roundw
                        case rel => exact ⟨i + 1, by omega, by rfl, by rw [HGS.out], hid (below_draws' HI.out _)⟩
                        case measure => first | (simp [intOf]; done) | (simp [intOf]; omega)
                      | false =>
                        rw [hgi, Bool.false_or] at HGS
                        clear hgi
                        by_cases hdx : dd = x
                        · have q1 := str_eq hdx
                          rw [decide_eq_true hdx] at HGS
                          clear hdx
                          go_wp2_with fail
                          go_quiet (fail)
                          go_wp2_with fail
                          go_roundw
                          case rel => exact ⟨i + 1, by omega, by rfl, by rw [HGS.out], hid (below_draws' HI.out _)⟩
                          case measure => first | (simp [intOf]; done) | (simp [intOf]; omega)
                        · have q1 := str_ne hdx
                          rw [decide_eq_false hdx] at HGS
                          clear hdx
                          go_wp2_with fail
                          go_quiet (fail)
                          go_wp2_with fail
                          go_roundw
                          case rel => exact ⟨i + 1, by omega, by rfl, by rw [HGS.out], hid (below_draws' HI.out _)⟩
                          case measure => first | (simp [intOf]; done) | (simp [intOf]; omega)
                    · obtain rfl : i = m := by omega
                      have n1 : ¬ (i : Int) < (i : Int) := by omega
                      have HX9 := hid (HX8.out.trans (HI.out.mono HX8.out.size))
                      have HB9 := hid (B7.out.trans (HX9.out.mono B7.out.size))
                      have N17' := hid (N17.out.below HI.out N17.out.lt)
                      clear HX8 HB8 HI N17
                      have hf2 := HF2.out
                      generalize goneK D x i = gg at *
                      have HF2' := hid hf2
                      clear hf2
                      have HXX := hid HX9.out
                      go_wp2_with fail
                      refine Tl.wp_mixs_lit (by kernel_rfl) 11 [172, 173, 174, 175, 176, 177, 178, 171, 179, 180] 204 rfl (by kernel_rfl) (fun W => Below x7.heap.size x7 W ∧ ∃ u0 u1 u2, Has W b17 #[u0, u1, u2] 24) (fun d v W => KF (stM28 u U0 U1 U2 f0 f1 f2 b g o nC c1 k x fp2 fe2 b17 d) v W) 17 1000 (by decide) ⟨HX9.out.drew, _, _, _, N17'.out.drew⟩
                        ⟨fun a' W' hC hF => ?_, fun a' W' hC hF => ?_, fun a' W' hC hF => ?_, fun a' W' hC hF => ?_, fun a' W' hC hF => ?_, fun a' W' hC hF => ?_, fun a' W' hC hF => ?_, fun a' W' hC hF => ?_, fun a' W' hC hF => ?_, fun a' W' hC hF => ?_, ⟨rfl, by decide +kernel, fun a' W' hC hF => ?_⟩, trivial⟩ ?_
                      · exact Tl.sm_v 172 _ rfl (Tl.wanted_none rfl) hC rfl (zn_load35 rfl ((hF 14 (by decide +kernel)).2 (by decide)) (N14.out.below hC.1 N14.out.lt))
                      · exact Tl.sm_v 173 _ rfl (Tl.wanted_none rfl) hC rfl (zn_fa35_3 rfl ((hF 3 (by decide +kernel)).2 (by decide)))
                      · exact Tl.sm_v 174 _ rfl (Tl.wanted_none rfl) hC rfl (zn_load29 rfl (show Act.eval a' (.tmp 173) = (.pointer (some ⟨b, 0 + 4, none⟩)) from ((hF 173 (by decide +kernel)).1 (by decide))) ((cells6 (HN.out.below (B7.out.trans (hC.1.mono B7.out.size)) HN.out.lt)).2.2.2.2.1.trans (by rw [HNC.out])))
                      · exact Tl.sm_v 175 _ rfl (Tl.wanted_none rfl) hC rfl (zn_move rfl ((hF 16 (by decide +kernel)).2 (by decide)))
                      · exact Tl.sm_v 176 _ rfl (Tl.wanted_none rfl) hC rfl (zn_ix29 rfl (show Act.eval a' (.tmp 174) = (.slice (some ⟨g, o, none⟩) nC c1) from ((hF 174 (by decide +kernel)).1 (by decide))) (show Act.eval a' (.tmp 175) = (.int .i64 (k : Int)) from ((hF 175 (by decide +kernel)).1 (by decide))) hlt)
                      · exact Tl.sm_v 177 _ rfl (Tl.wanted_none rfl) hC rfl (zn_load9 rfl (show Act.eval a' (.tmp 176) = (.pointer (some ⟨g, o + k, none⟩)) from ((hF 176 (by decide +kernel)).1 (by decide))) (HCC.out W' (B7.out.trans (hC.1.mono B7.out.size))))
                      · refine Tl.sm_call 11 #[_, _] (Tl.wanted_none rfl) (zn_call2 rfl rfl (show Act.eval a' (.tmp 172) = (.agg (stV u U0 U1 U2 f0 f1 f2)) from ((hF 172 (by decide +kernel)).1 (by decide))) (show Act.eval a' (.tmp 177) = (.string x) from ((hF 177 (by decide +kernel)).1 (by decide))) (en11z _ _)) ((find_is x fp2 fe2 HF2'.out HUZ.out.1 HUZ.out.2 (C14.out.below hC.1) (P14.out.below hC.1)).mono ?_)
                        rintro e W'' ⟨rfl, hb⟩
                        exact ⟨_, rfl, ⟨hC.1.trans (hb.mono hC.1.size), by obtain ⟨u0, u1, u2, hh⟩ := hC.2; exact ⟨u0, u1, u2, hh.below hb hh.lt⟩⟩, fun d v _ h => KF_mono hb h, fun d hd => by cases hd; rfl⟩
                      · exact Tl.sm_v 171 _ rfl (Tl.wanted_none rfl) hC rfl (zn_move rfl (show Act.eval a' (.tmp 178) = (.tuple #[.agg (pl3 fp2).toArray, .int .i64 fe2]) from ((hF 178 (by decide +kernel)).1 (by decide))))
                      · exact Tl.sm_v 179 _ rfl (Tl.wanted_none rfl) hC rfl (zn_ext0 rfl (show Act.eval a' (.tmp 171) = (.tuple #[.agg (pl3 fp2).toArray, .int .i64 fe2]) from ((hF 171 (by decide +kernel)).1 (by decide))))
                      · exact Tl.sm_v 180 _ rfl (Tl.wanted_none rfl) hC rfl (zn_ext1 rfl (show Act.eval a' (.tmp 171) = (.tuple #[.agg (pl3 fp2).toArray, .int .i64 fe2]) from ((hF 171 (by decide +kernel)).1 (by decide))))
                      · obtain ⟨u0, u1, u2, hb⟩ := hC.2
                        refine Tl.ss_w (zn_store24 (b := b17) (p := fp2) rfl ?_ ?_ hb) rfl ?_ ?_ ?_
                        · exact ((hF 17 (by decide +kernel)).2 (by decide))
                        · exact ((hF 179 (by decide +kernel)).1 (by decide))
                        · exact ⟨below_put3 hC.1 HLO.out _ _ _, _, _, _, put3 hb _ _ _⟩
                        · exact fun d v h => KF_put3 (stok28 u U0 U1 U2 f0 f1 f2 b g o nC c1 k x fp2 fe2 b17 d) hb h
                        · exact put3 hb _ _ _
                      intro v' w10 hC hv hS
                      have hN : Has w10 b17 (pl3 fp2).toArray 24 := hS 10 (by decide) rfl
                      have e180 : v' 180 = .int .i64 fe2 := hv 180 (by decide)
                      clear hv hS
                      have HXA := hid hC.1
                      have HBA := hid (B7.out.trans (HXA.out.mono B7.out.size))
                      clear hC N17' HX9 HB9
                      simp only [Tl.fill, List.drop]
                      simp only [Act.put, List.setIfInBounds_toArray, List.set_cons_succ, List.set_cons_zero, e180]
                      generalize v' 172 = z172 at *
                      generalize v' 173 = z173 at *
                      generalize v' 174 = z174 at *
                      generalize v' 175 = z175 at *
                      generalize v' 176 = z176 at *
                      generalize v' 177 = z177 at *
                      generalize v' 178 = z178 at *
                      generalize v' 171 = z171 at *
                      generalize v' 179 = z179 at *
                      clear e180
                      go_upto_region 29 with fail
                      go_quiet (fail)
                      go_wp2_with fail
                      go_roundw
                      case rel => exact ⟨k + 1, by omega, by omega, by rfl, hid (below_draws' HXA.out _)⟩
                      case measure => first | (simp [intOf]; done) | (simp [intOf]; omega)
                · clear k0 k1 k2 k3 k4 k5
                  by_cases hlt : k < nC
                  · obtain rfl : k = 60 := by omega
                    have i1 : (60 : Int) < (nC : Int) := by omega
                    rw [show ((60 : Nat) : Int) = 60 from rfl]
                    have HHX := hid (HB7.out.trans (HX.out.mono HB7.out.size))
                    obtain ⟨k0, k1, k2, k3, k4, k5⟩ := HK.out wr HBX.out
                    have C1 := whole_any s a0 a1 a2 c0 c1 c2 HMY.out wr (HC.out.below HBX.out) (HP.out.below HBX.out)
                    unfold stV at C1
                    first | rw [← HNC.out] at k4 C1 | skip
                    first | rw [← hPn.out] at k5 C1 | skip
                    go_wp2_with fail
                    refine C1.mono ?_
                    rintro e wz ⟨rfl, bz⟩
                    have HEND := hid (HHX.out.trans (bz.mono HHX.out.size))
                    clear bz C1 k0 k1 k2 k3 k4 k5
                    go_wp2_with fail
                    go_ret
                    exact ⟨rfl, HEND.out⟩
                  · obtain rfl : k = nC := by omega
                    have i1 : ¬ (k : Int) < (k : Int) := by omega
                    have HHX := hid (HB7.out.trans (HX.out.mono HB7.out.size))
                    obtain ⟨k0, k1, k2, k3, k4, k5⟩ := HK.out wr HBX.out
                    have C1 := whole_any s a0 a1 a2 c0 c1 c2 HMY.out wr (HC.out.below HBX.out) (HP.out.below HBX.out)
                    unfold stV at C1
                    first | rw [← HNC.out] at k4 C1 | skip
                    first | rw [← hPn.out] at k5 C1 | skip
                    go_wp2_with fail
                    refine C1.mono ?_
                    rintro e wz ⟨rfl, bz⟩
                    have HEND := hid (HHX.out.trans (bz.mono HHX.out.size))
                    clear bz C1 k0 k1 k2 k3 k4 k5
                    go_wp2_with fail
                    go_ret
                    exact ⟨rfl, HEND.out⟩
      · have qe : (er == 0) = false := by rw [beq_eq_false_iff_ne]; exact he0
        obtain ⟨wq, hwq⟩ : ∃ wq, wq = x5 := ⟨_, rfl⟩
        have HXQ : Hid (Below x5.heap.size x5 wq) := hid (by rw [hwq]; exact Below.refl _ _)
        rw [← hwq]
        clear hwq
        go_upto_region 14 with fail
        have HBQ := hid (B5.out.trans (HXQ.out.mono B5.out.size))
        have HHQ := hid (HB5.out.trans (HXQ.out.mono HB5.out.size))
        obtain ⟨ez, hez⟩ : ∃ ez, ez = droE s.C s.P D := ⟨_, rfl⟩
        obtain ⟨u, hu⟩ : ∃ u, u = resS (droS s D) ez := ⟨_, rfl⟩
        have HEZ := hid hez
        have HU := hid hu
        clear hez hu
        have HUZ : Hid (u.C.length ≤ 100000 ∧ u.P.length ≤ 100000) := hid (by
          rw [HU.out]
          by_cases h0 : ez = 0
          · subst h0
            rw [res_ok]
            have h1 := droS_len s D
            have h2 := HZ1.out
            omega
          · rw [res_no h0]
            exact ⟨by decide, by decide⟩)
        obtain ⟨k0, k1, k2, k3, k4, k5⟩ := HK.out wq HBQ.out
        have C1 := drop_is (s := s) (a0 := a0) (a1 := a1) (a2 := a2) (c0 := c0) (c1 := c1) (c2 := c2) (w := wq) (b1 := b1) (d1 := d1) D u ez HEZ.out.symm HU.out.symm HZ1.out HZ2.out HZ3.out (by have := HM4.out; omega) HR.out (HS.out.below HBQ.out) (HC.out.below HBQ.out) (HP.out.below HBQ.out) (HD.out.below HBQ.out)
        rw [← HMM.out] at C1
        unfold stV at C1
        go_wp2_with fail
        refine C1.mono ?_
        rintro e w7 ⟨uv, rfl, hst, b7'⟩
        obtain ⟨U0, U1, U2, f0, f1, f2, rfl, hS', hC', hP'⟩ := hst
        clear C1 k0 k1 k2 k3 k4 k5
        unfold stV
        obtain ⟨q14, hq14⟩ : ∃ q, q = w7.heap.size := ⟨_, rfl⟩
        obtain ⟨x7, hx7⟩ : ∃ x, x = w7.alloc (.cells #[.int .i64 u.k, .int .i64 u.n, .int .i64 u.nx, .slice U0 u.sn.length f0, .slice U1 u.C.length f1, .slice U2 u.P.length f2] 35) := ⟨_, rfl⟩
        have hbx : Below w7.heap.size w7 x7 := by rw [hx7]; exact (Below.refl _ _).alloc (Nat.le_refl _) _
        have N14 : Hid (Has x7 q14 (stV u U0 U1 U2 f0 f1 f2) 35) := hid (by rw [hx7]; exact Has.new _ _ _ _ hq14)
        have S14 := hid (hS'.below hbx)
        have C14 := hid (hC'.below hbx)
        have P14 := hid (hP'.below hbx)
        have X7 := hid (b7'.trans (hbx.mono b7'.size))
        have HX7 := hid (HXQ.out.trans (X7.out.mono HXQ.out.size))
        have B7 := hid (HBQ.out.trans (X7.out.mono HBQ.out.size))
        have HB7 := hid (HHQ.out.trans (X7.out.mono HHQ.out.size))
        clear hS' hC' hP' b7' hbx X7 HBQ HHQ HXQ
        go_upto_region 15 with fail
        rw [← hx7, ← hq14]
        clear hx7 hq14
        obtain ⟨nC, hnC⟩ : ∃ n, n = s.C.length := ⟨_, rfl⟩
        have HNC := hid hnC
        have hC4 : nC ≤ 400 := by
          have h1 := (mayS_iff.1 HMY.out).1
          have h2 := (mayS_iff.1 HMY.out).2.most
          rw [List.length_zip] at h2
          omega
        have hPn : Hid (nC = s.P.length) := hid (by have h1 := (mayS_iff.1 HMY.out).1; omega)
        clear hnC
        by_cases hz0 : ez = 0
        · subst hz0
          have HDR : Hid (Dropped s u D) := hid (by rw [HU.out, res_ok]; exact droS_ok HMY.out)
          obtain ⟨k0, k1, k2, k3, k4, k5⟩ := cells6 N14.out
          have C1 := may_any u U0 U1 U2 f0 f1 f2 HUZ.out.1 HUZ.out.2 x7 C14.out P14.out
          rw [HDR.out.may] at C1
          unfold stV at C1
          go_wp2_with fail
          refine C1.mono ?_
          rintro e wl ⟨rfl, bl⟩
          have HXL := hid bl
          clear C1 bl k0 k1 k2 k3 k4 k5
          go_wp2_with fail
          go_loopw [16, 17, 18, 19, 20] (fun v16 _ _ _ _ wr => ∃ k : Nat, k ≤ nC ∧ k ≤ 60 ∧ v16 = .int .i64 (k : Int) ∧ Hid (Below x7.heap.size x7 wr)) (fun v16 _ _ _ _ _ => 60 - (intOf v16).toNat)
          case atStart => exact ⟨0, Nat.zero_le _, Nat.zero_le _, rfl, HXL⟩
          case round =>
            obtain ⟨k, hk, hk60, rfl, HX⟩ := hrel
            have HBX := hid (B7.out.trans (HX.out.mono B7.out.size))
            obtain ⟨k0, k1, k2, k3, k4, k5⟩ := HK.out wr HBX.out
            rw [← HNC.out] at k4
            rw [← hPn.out] at k5
            by_cases hgo : k < nC ∧ k < 60
            · obtain ⟨hlt, h60⟩ := hgo
              have i1 : (k : Int) < (nC : Int) := by omega
              have i2 : (k : Int) < 60 := by omega
              have i0 : (0 : Int) ≤ (k : Int) := by omega
              have wk : IntKind.i64.wrap ((k : Int) + 1) = ((k + 1 : Nat) : Int) := wrap_nat k (by omega)
              have hlt' : k < s.C.length := by rw [← HNC.out]; exact hlt
              obtain ⟨g, o, rfl, hg, hc⟩ := tx_cell HC.out HBX.out hlt'
              obtain ⟨gp, op, rfl, hgp, hp0, hp1, hp2⟩ := ps_cell HP.out HBX.out (show k < s.P.length by rw [← hPn.out]; exact hlt)
              have HPC := hid (fun W (hW : Below w1.heap.size w1 W) => (show W.cell? ⟨gp, op + k * 3, none⟩ = some (.string (s.P.getD k default).pack) ∧ W.cell? ⟨gp, op + k * 3 + 1, none⟩ = some (.int .i64 (s.P.getD k default).at_) ∧ W.cell? ⟨gp, op + k * 3 + 2, none⟩ = some (.int .i64 (s.P.getD k default).len) from by
                obtain ⟨g9, o9, e9, _, u0, u1, u2⟩ := ps_cell HP.out hW (show k < s.P.length by rw [← hPn.out]; exact hlt)
                injection e9 with e9
                injection e9 with e10 e11
                subst e10 e11
                exact ⟨u0, u1, u2⟩))
              have HCC := hid (fun W (hW : Below w1.heap.size w1 W) => (hW.cell (p := ⟨g, o + k, none⟩) hg).trans ((HBX.out.cell (p := ⟨g, o + k, none⟩) hg).symm.trans hc))
              clear hp0 hp1 hp2 hgp hg
              obtain ⟨fp, fe, hf1⟩ : ∃ fp fe, findV t.C t.P (s.C.getD k ⟨#[]⟩) = (fp, fe) := ⟨_, _, rfl⟩
              have hf2 := HDR.out.stays k hlt'
              generalize s.C.getD k ⟨#[]⟩ = x at *
              have HF1 := hid hf1
              have HF2 := hid hf2
              clear hf1 hf2 hlt'
              have HXX := hid (HX7.out.trans (HX.out.mono HX7.out.size))
              go_wp2_with fail
              refine Tl.wp_mixs_lit (by kernel_rfl) 12 [128, 129, 130, 131, 132, 133, 134, 127, 135, 136, 17] 204 rfl (by kernel_rfl) (fun W => Below wr.heap.size wr W) (fun d v W => KF (stM20 t A0 A1 A2 e0 e1 e2 b g o nC c1 k x fp fe wr.heap.size d) v W) 17 1000 (by decide) ((Below.refl _ _).drew)
                ⟨fun a' W' hC hF => ?_, fun a' W' hC hF => ?_, fun a' W' hC hF => ?_, fun a' W' hC hF => ?_, fun a' W' hC hF => ?_, fun a' W' hC hF => ?_, fun a' W' hC hF => ?_, fun a' W' hC hF => ?_, fun a' W' hC hF => ?_, fun a' W' hC hF => ?_, fun a' W' hC hF => ?_, ⟨rfl, by decide +kernel, fun a' W' hC hF => ?_⟩, trivial⟩ ?_
              · exact Tl.sm_v 128 _ rfl (Tl.wanted_none rfl) hC rfl (zn_load35 rfl ((hF 7 (by decide +kernel)).2 (by decide)) (N7.out.below (HXX.out.trans (hC.mono HXX.out.size)) N7.out.lt))
              · exact Tl.sm_v 129 _ rfl (Tl.wanted_none rfl) hC rfl (zn_fa35_3 rfl ((hF 3 (by decide +kernel)).2 (by decide)))
              · exact Tl.sm_v 130 _ rfl (Tl.wanted_none rfl) hC rfl (zn_load29 rfl (show Act.eval a' (.tmp 129) = (.pointer (some ⟨b, 0 + 4, none⟩)) from ((hF 129 (by decide +kernel)).1 (by decide))) ((cells6 (HN.out.below (HBX.out.trans (hC.mono HBX.out.size)) HN.out.lt)).2.2.2.2.1.trans (by rw [HNC.out])))
              · exact Tl.sm_v 131 _ rfl (Tl.wanted_none rfl) hC rfl (zn_move rfl ((hF 16 (by decide +kernel)).2 (by decide)))
              · exact Tl.sm_v 132 _ rfl (Tl.wanted_none rfl) hC rfl (zn_ix29 rfl (show Act.eval a' (.tmp 130) = (.slice (some ⟨g, o, none⟩) nC c1) from ((hF 130 (by decide +kernel)).1 (by decide))) (show Act.eval a' (.tmp 131) = (.int .i64 (k : Int)) from ((hF 131 (by decide +kernel)).1 (by decide))) hlt)
              · exact Tl.sm_v 133 _ rfl (Tl.wanted_none rfl) hC rfl (zn_load9 rfl (show Act.eval a' (.tmp 132) = (.pointer (some ⟨g, o + k, none⟩)) from ((hF 132 (by decide +kernel)).1 (by decide))) (HCC.out W' (HBX.out.trans (hC.mono HBX.out.size))))
              · refine Tl.sm_call 11 #[_, _] (Tl.wanted_none rfl) (zn_call2 rfl rfl (show Act.eval a' (.tmp 128) = (.agg (stV t A0 A1 A2 e0 e1 e2)) from ((hF 128 (by decide +kernel)).1 (by decide))) (show Act.eval a' (.tmp 133) = (.string x) from ((hF 133 (by decide +kernel)).1 (by decide))) (en11z _ _)) ((find_is x fp fe HF1.out HTZ.out.1 HTZ.out.2.1 (C7.out.below (HXX.out.trans (hC.mono HXX.out.size))) (P7.out.below (HXX.out.trans (hC.mono HXX.out.size)))).mono ?_)
                rintro e W'' ⟨rfl, hb⟩
                exact ⟨_, rfl, hC.trans (hb.mono hC.size), fun d v _ h => KF_mono hb h, fun d hd => by cases hd; rfl⟩
              · exact Tl.sm_v 127 _ rfl (Tl.wanted_none rfl) hC rfl (zn_move rfl (show Act.eval a' (.tmp 134) = (.tuple #[.agg (pl3 fp).toArray, .int .i64 fe]) from ((hF 134 (by decide +kernel)).1 (by decide))))
              · exact Tl.sm_v 135 _ rfl (Tl.wanted_none rfl) hC rfl (zn_ext0 rfl (show Act.eval a' (.tmp 127) = (.tuple #[.agg (pl3 fp).toArray, .int .i64 fe]) from ((hF 127 (by decide +kernel)).1 (by decide))))
              · exact Tl.sm_v 136 _ rfl (Tl.wanted_none rfl) hC rfl (zn_ext1 rfl (show Act.eval a' (.tmp 127) = (.tuple #[.agg (pl3 fp).toArray, .int .i64 fe]) from ((hF 127 (by decide +kernel)).1 (by decide))))
              · exact Tl.sm_w _ (Tl.wanted_none rfl) (zn_alloc24 rfl) (hC.alloc hC.size _) (fun d v _ h => KF_mono ((Below.refl _ _).alloc (Nat.le_refl _) _) h) (fun d hd => by cases hd; exact ⟨_, rfl, hC.size, _, _, _, Has.new _ _ _ _ rfl⟩)
              · obtain ⟨bb, hb1, hlo, u0, u1, u2, hb⟩ := ((hF 17 (by decide +kernel)).1 (by decide))
                refine Tl.ss_w (zn_store24 (p := fp) rfl ?_ ?_ hb) rfl ?_ ?_ ?_
                · exact hb1
                · exact ((hF 135 (by decide +kernel)).1 (by decide))
                · exact below_put3 hC hlo _ _ _
                · exact fun d v h => KF_put3 (stok20 t A0 A1 A2 e0 e1 e2 b g o nC c1 k x fp fe wr.heap.size d) hb h
                · exact ⟨bb, hb1, hlo, put3 hb _ _ _⟩
              intro v' w8 hC hv hS
              obtain ⟨b17, e17, hlo, hN⟩ := hS 11 (by decide) rfl
              have e136 : v' 136 = .int .i64 fe := hv 136 (by decide)
              clear hv hS
              have HX8 := hid (HX.out.trans (hC.mono HX.out.size))
              have HB8 := hid (B7.out.trans (HX8.out.mono B7.out.size))
              have N17 := hid hN
              have HLO : Hid (x7.heap.size ≤ b17) := hid (Nat.le_trans HX.out.size hlo)
              clear hC hN hlo hc HX HBX HXX k0 k1 k2 k3 k4 k5
              simp only [Tl.fill, List.drop]
              simp only [Act.put, List.setIfInBounds_toArray, List.set_cons_succ, List.set_cons_zero, e17, e136]
              generalize v' 128 = z128
              generalize v' 129 = z129
              generalize v' 130 = z130
              generalize v' 131 = z131
              generalize v' 132 = z132
              generalize v' 133 = z133
              generalize v' 134 = z134
              generalize v' 127 = z127
              generalize v' 135 = z135
              clear e17 e136
              go_upto_region 21 with fail
              go_quiet (fail)
              go_wp2_with fail
              have HMX := hid (show m ≤ 400 by omega)
              go_loopw [19, 20] (fun v19 v20 wr => ∃ i : Nat, i ≤ m ∧ v20 = .int .i64 (i : Int) ∧ v19 = .bool (goneK D x i) ∧ Hid (Below w8.heap.size w8 wr)) (fun _ v20 _ => m - (intOf v20).toNat)
              case atStart => exact ⟨0, Nat.zero_le _, rfl, by rw [gone_zero], hid (below_draws' (Below.refl _ _) _)⟩
              case round =>
                obtain ⟨i, hi, rfl, rfl, HI⟩ := hrel
                by_cases hli : i < m
                · have n1 : (i : Int) < (m : Int) := by omega
                  have n0 : (0 : Int) ≤ (i : Int) := by omega
                  have wi : IntKind.i64.wrap ((i : Int) + 1) = ((i + 1 : Nat) : Int) := wrap_nat i (by have := HMX.out; omega)
                  have hli' : i < D.length := by rw [← HMM.out]; exact hli
                  have HBI := hid (HB8.out.trans (HI.out.mono HB8.out.size))
                  obtain ⟨gd, od, rfl, hgd, hd⟩ := tx_cell HD.out HBI.out hli'
                  have HGS := hid (gone_succ (x := x) hli')
                  have hc := HCC.out wr HBI.out
                  obtain ⟨k0, k1, k2, k3, k4, k5⟩ := HK.out wr HBI.out
                  rw [← HNC.out] at k4
                  clear k0 k1 k2 k3 k5 hgd
                  generalize D.getD i ⟨#[]⟩ = dd at *
                  cases hgi : goneK D x i with
                  | true =>
                    rw [hgi, Bool.true_or] at HGS
                    clear hgi
                    go_wp2_with fail
                    go_quiet (fail)
                    go_wp2_with fail
                    go_roundw
                    case rel => exact ⟨i + 1, by omega, by rfl, by rw [HGS.out], hid (below_draws' HI.out _)⟩
                    case measure => first | (simp [intOf]; done) | (simp [intOf]; omega)
                  | false =>
                    rw [hgi, Bool.false_or] at HGS
                    clear hgi
                    by_cases hdx : dd = x
                    · have q1 := str_eq hdx
                      rw [decide_eq_true hdx] at HGS
                      clear hdx
                      go_wp2_with fail
                      go_quiet (fail)
                      go_wp2_with fail
                      go_roundw
                      case rel => exact ⟨i + 1, by omega, by rfl, by rw [HGS.out], hid (below_draws' HI.out _)⟩
                      case measure => first | (simp [intOf]; done) | (simp [intOf]; omega)
                    · have q1 := str_ne hdx
                      rw [decide_eq_false hdx] at HGS
                      clear hdx
                      go_wp2_with fail
                      go_quiet (fail)
                      go_wp2_with fail
                      go_roundw
                      case rel => exact ⟨i + 1, by omega, by rfl, by rw [HGS.out], hid (below_draws' HI.out _)⟩
                      case measure => first | (simp [intOf]; done) | (simp [intOf]; omega)
                · obtain rfl : i = m := by omega
                  have n1 : ¬ (i : Int) < (i : Int) := by omega
                  have HX9 := hid (HX8.out.trans (HI.out.mono HX8.out.size))
                  have HB9 := hid (B7.out.trans (HX9.out.mono B7.out.size))
                  have N17' := hid (N17.out.below HI.out N17.out.lt)
                  clear HX8 HB8 HI N17
                  have HG := hid (gone_all D x)
                  rw [← HMM.out] at HG
                  cases hgi : goneK D x i with
                  | true =>
                    rw [hgi] at HG
                    have hf2 := HF2.out
                    rw [if_pos HG.out.symm] at hf2
                    have HF2' := hid hf2
                    clear hf2
                    have HXX := hid HX9.out
                    go_wp2_with fail
                    refine Tl.wp_mixs_lit (by kernel_rfl) 11 [172, 173, 174, 175, 176, 177, 178, 171, 179, 180] 204 rfl (by kernel_rfl) (fun W => Below x7.heap.size x7 W ∧ ∃ u0 u1 u2, Has W b17 #[u0, u1, u2] 24) (fun d v W => KF (stM28 u U0 U1 U2 f0 f1 f2 b g o nC c1 k x ⟨⟨#[]⟩, 0, 0⟩ 5 b17 d) v W) 17 1000 (by decide) ⟨HX9.out.drew, _, _, _, N17'.out.drew⟩
                      ⟨fun a' W' hC hF => ?_, fun a' W' hC hF => ?_, fun a' W' hC hF => ?_, fun a' W' hC hF => ?_, fun a' W' hC hF => ?_, fun a' W' hC hF => ?_, fun a' W' hC hF => ?_, fun a' W' hC hF => ?_, fun a' W' hC hF => ?_, fun a' W' hC hF => ?_, ⟨rfl, by decide +kernel, fun a' W' hC hF => ?_⟩, trivial⟩ ?_
                    · exact Tl.sm_v 172 _ rfl (Tl.wanted_none rfl) hC rfl (zn_load35 rfl ((hF 14 (by decide +kernel)).2 (by decide)) (N14.out.below hC.1 N14.out.lt))
                    · exact Tl.sm_v 173 _ rfl (Tl.wanted_none rfl) hC rfl (zn_fa35_3 rfl ((hF 3 (by decide +kernel)).2 (by decide)))
                    · exact Tl.sm_v 174 _ rfl (Tl.wanted_none rfl) hC rfl (zn_load29 rfl (show Act.eval a' (.tmp 173) = (.pointer (some ⟨b, 0 + 4, none⟩)) from ((hF 173 (by decide +kernel)).1 (by decide))) ((cells6 (HN.out.below (B7.out.trans (hC.1.mono B7.out.size)) HN.out.lt)).2.2.2.2.1.trans (by rw [HNC.out])))
                    · exact Tl.sm_v 175 _ rfl (Tl.wanted_none rfl) hC rfl (zn_move rfl ((hF 16 (by decide +kernel)).2 (by decide)))
                    · exact Tl.sm_v 176 _ rfl (Tl.wanted_none rfl) hC rfl (zn_ix29 rfl (show Act.eval a' (.tmp 174) = (.slice (some ⟨g, o, none⟩) nC c1) from ((hF 174 (by decide +kernel)).1 (by decide))) (show Act.eval a' (.tmp 175) = (.int .i64 (k : Int)) from ((hF 175 (by decide +kernel)).1 (by decide))) hlt)
                    · exact Tl.sm_v 177 _ rfl (Tl.wanted_none rfl) hC rfl (zn_load9 rfl (show Act.eval a' (.tmp 176) = (.pointer (some ⟨g, o + k, none⟩)) from ((hF 176 (by decide +kernel)).1 (by decide))) (HCC.out W' (B7.out.trans (hC.1.mono B7.out.size))))
                    · refine Tl.sm_call 11 #[_, _] (Tl.wanted_none rfl) (zn_call2 rfl rfl (show Act.eval a' (.tmp 172) = (.agg (stV u U0 U1 U2 f0 f1 f2)) from ((hF 172 (by decide +kernel)).1 (by decide))) (show Act.eval a' (.tmp 177) = (.string x) from ((hF 177 (by decide +kernel)).1 (by decide))) (en11z _ _)) ((find_is x ⟨⟨#[]⟩, 0, 0⟩ 5 HF2'.out HUZ.out.1 HUZ.out.2 (C14.out.below hC.1) (P14.out.below hC.1)).mono ?_)
                      rintro e W'' ⟨rfl, hb⟩
                      exact ⟨_, rfl, ⟨hC.1.trans (hb.mono hC.1.size), by obtain ⟨u0, u1, u2, hh⟩ := hC.2; exact ⟨u0, u1, u2, hh.below hb hh.lt⟩⟩, fun d v _ h => KF_mono hb h, fun d hd => by cases hd; rfl⟩
                    · exact Tl.sm_v 171 _ rfl (Tl.wanted_none rfl) hC rfl (zn_move rfl (show Act.eval a' (.tmp 178) = (.tuple #[.agg (pl3 ⟨⟨#[]⟩, 0, 0⟩).toArray, .int .i64 5]) from ((hF 178 (by decide +kernel)).1 (by decide))))
                    · exact Tl.sm_v 179 _ rfl (Tl.wanted_none rfl) hC rfl (zn_ext0 rfl (show Act.eval a' (.tmp 171) = (.tuple #[.agg (pl3 ⟨⟨#[]⟩, 0, 0⟩).toArray, .int .i64 5]) from ((hF 171 (by decide +kernel)).1 (by decide))))
                    · exact Tl.sm_v 180 _ rfl (Tl.wanted_none rfl) hC rfl (zn_ext1 rfl (show Act.eval a' (.tmp 171) = (.tuple #[.agg (pl3 ⟨⟨#[]⟩, 0, 0⟩).toArray, .int .i64 5]) from ((hF 171 (by decide +kernel)).1 (by decide))))
                    · obtain ⟨u0, u1, u2, hb⟩ := hC.2
                      refine Tl.ss_w (zn_store24 (b := b17) (p := ⟨⟨#[]⟩, 0, 0⟩) rfl ?_ ?_ hb) rfl ?_ ?_ ?_
                      · exact ((hF 17 (by decide +kernel)).2 (by decide))
                      · exact ((hF 179 (by decide +kernel)).1 (by decide))
                      · exact ⟨below_put3 hC.1 HLO.out _ _ _, _, _, _, put3 hb _ _ _⟩
                      · exact fun d v h => KF_put3 (stok28 u U0 U1 U2 f0 f1 f2 b g o nC c1 k x ⟨⟨#[]⟩, 0, 0⟩ 5 b17 d) hb h
                      · exact put3 hb _ _ _
                    intro v' w10 hC hv hS
                    have hN : Has w10 b17 (pl3 ⟨⟨#[]⟩, 0, 0⟩).toArray 24 := hS 10 (by decide) rfl
                    have e180 : v' 180 = .int .i64 5 := hv 180 (by decide)
                    clear hv hS
                    have HXA := hid hC.1
                    have HBA := hid (B7.out.trans (HXA.out.mono B7.out.size))
                    clear hC N17' HX9 HB9
                    simp only [Tl.fill, List.drop]
                    simp only [Act.put, List.setIfInBounds_toArray, List.set_cons_succ, List.set_cons_zero, e180]
                    generalize v' 172 = z172 at *
                    generalize v' 173 = z173 at *
                    generalize v' 174 = z174 at *
                    generalize v' 175 = z175 at *
                    generalize v' 176 = z176 at *
                    generalize v' 177 = z177 at *
                    generalize v' 178 = z178 at *
                    generalize v' 171 = z171 at *
                    generalize v' 179 = z179 at *
                    clear e180
                    go_upto_region 29 with fail
                    go_quiet (fail)
                    go_wp2_with fail
                    go_roundw
                    case rel => exact ⟨k + 1, by omega, by omega, by rfl, hid (below_draws' HXA.out _)⟩
                    case measure => first | (simp [intOf]; done) | (simp [intOf]; omega)
                  | false =>
                    rw [hgi] at HG
                    have hf2 := HF2.out
                    rw [if_neg (by rw [← HG.out]; decide)] at hf2
                    obtain ⟨fq, hfp⟩ : ∃ fp, fp = s.P.getD k default := ⟨_, rfl⟩
                    rw [← hfp] at hf2
                    have HF2' := hid hf2
                    clear hf2
                    have HXX := hid HX9.out
                    go_wp2_with fail
                    refine Tl.wp_mixs_lit (by kernel_rfl) 11 [172, 173, 174, 175, 176, 177, 178, 171, 179, 180] 204 rfl (by kernel_rfl) (fun W => Below x7.heap.size x7 W ∧ ∃ u0 u1 u2, Has W b17 #[u0, u1, u2] 24) (fun d v W => KF (stM28 u U0 U1 U2 f0 f1 f2 b g o nC c1 k x fq 0 b17 d) v W) 17 1000 (by decide) ⟨HX9.out.drew, _, _, _, N17'.out.drew⟩
                      ⟨fun a' W' hC hF => ?_, fun a' W' hC hF => ?_, fun a' W' hC hF => ?_, fun a' W' hC hF => ?_, fun a' W' hC hF => ?_, fun a' W' hC hF => ?_, fun a' W' hC hF => ?_, fun a' W' hC hF => ?_, fun a' W' hC hF => ?_, fun a' W' hC hF => ?_, ⟨rfl, by decide +kernel, fun a' W' hC hF => ?_⟩, trivial⟩ ?_
                    · exact Tl.sm_v 172 _ rfl (Tl.wanted_none rfl) hC rfl (zn_load35 rfl ((hF 14 (by decide +kernel)).2 (by decide)) (N14.out.below hC.1 N14.out.lt))
                    · exact Tl.sm_v 173 _ rfl (Tl.wanted_none rfl) hC rfl (zn_fa35_3 rfl ((hF 3 (by decide +kernel)).2 (by decide)))
                    · exact Tl.sm_v 174 _ rfl (Tl.wanted_none rfl) hC rfl (zn_load29 rfl (show Act.eval a' (.tmp 173) = (.pointer (some ⟨b, 0 + 4, none⟩)) from ((hF 173 (by decide +kernel)).1 (by decide))) ((cells6 (HN.out.below (B7.out.trans (hC.1.mono B7.out.size)) HN.out.lt)).2.2.2.2.1.trans (by rw [HNC.out])))
                    · exact Tl.sm_v 175 _ rfl (Tl.wanted_none rfl) hC rfl (zn_move rfl ((hF 16 (by decide +kernel)).2 (by decide)))
                    · exact Tl.sm_v 176 _ rfl (Tl.wanted_none rfl) hC rfl (zn_ix29 rfl (show Act.eval a' (.tmp 174) = (.slice (some ⟨g, o, none⟩) nC c1) from ((hF 174 (by decide +kernel)).1 (by decide))) (show Act.eval a' (.tmp 175) = (.int .i64 (k : Int)) from ((hF 175 (by decide +kernel)).1 (by decide))) hlt)
                    · exact Tl.sm_v 177 _ rfl (Tl.wanted_none rfl) hC rfl (zn_load9 rfl (show Act.eval a' (.tmp 176) = (.pointer (some ⟨g, o + k, none⟩)) from ((hF 176 (by decide +kernel)).1 (by decide))) (HCC.out W' (B7.out.trans (hC.1.mono B7.out.size))))
                    · refine Tl.sm_call 11 #[_, _] (Tl.wanted_none rfl) (zn_call2 rfl rfl (show Act.eval a' (.tmp 172) = (.agg (stV u U0 U1 U2 f0 f1 f2)) from ((hF 172 (by decide +kernel)).1 (by decide))) (show Act.eval a' (.tmp 177) = (.string x) from ((hF 177 (by decide +kernel)).1 (by decide))) (en11z _ _)) ((find_is x fq 0 HF2'.out HUZ.out.1 HUZ.out.2 (C14.out.below hC.1) (P14.out.below hC.1)).mono ?_)
                      rintro e W'' ⟨rfl, hb⟩
                      exact ⟨_, rfl, ⟨hC.1.trans (hb.mono hC.1.size), by obtain ⟨u0, u1, u2, hh⟩ := hC.2; exact ⟨u0, u1, u2, hh.below hb hh.lt⟩⟩, fun d v _ h => KF_mono hb h, fun d hd => by cases hd; rfl⟩
                    · exact Tl.sm_v 171 _ rfl (Tl.wanted_none rfl) hC rfl (zn_move rfl (show Act.eval a' (.tmp 178) = (.tuple #[.agg (pl3 fq).toArray, .int .i64 0]) from ((hF 178 (by decide +kernel)).1 (by decide))))
                    · exact Tl.sm_v 179 _ rfl (Tl.wanted_none rfl) hC rfl (zn_ext0 rfl (show Act.eval a' (.tmp 171) = (.tuple #[.agg (pl3 fq).toArray, .int .i64 0]) from ((hF 171 (by decide +kernel)).1 (by decide))))
                    · exact Tl.sm_v 180 _ rfl (Tl.wanted_none rfl) hC rfl (zn_ext1 rfl (show Act.eval a' (.tmp 171) = (.tuple #[.agg (pl3 fq).toArray, .int .i64 0]) from ((hF 171 (by decide +kernel)).1 (by decide))))
                    · obtain ⟨u0, u1, u2, hb⟩ := hC.2
                      refine Tl.ss_w (zn_store24 (b := b17) (p := fq) rfl ?_ ?_ hb) rfl ?_ ?_ ?_
                      · exact ((hF 17 (by decide +kernel)).2 (by decide))
                      · exact ((hF 179 (by decide +kernel)).1 (by decide))
                      · exact ⟨below_put3 hC.1 HLO.out _ _ _, _, _, _, put3 hb _ _ _⟩
                      · exact fun d v h => KF_put3 (stok28 u U0 U1 U2 f0 f1 f2 b g o nC c1 k x fq 0 b17 d) hb h
                      · exact put3 hb _ _ _
                    intro v' w10 hC hv hS
                    have hN : Has w10 b17 (pl3 fq).toArray 24 := hS 10 (by decide) rfl
                    have e180 : v' 180 = .int .i64 0 := hv 180 (by decide)
                    clear hv hS
                    have HXA := hid hC.1
                    have HBA := hid (B7.out.trans (HXA.out.mono B7.out.size))
                    clear hC N17' HX9 HB9
                    simp only [Tl.fill, List.drop]
                    simp only [Act.put, List.setIfInBounds_toArray, List.set_cons_succ, List.set_cons_zero, e180]
                    generalize v' 172 = z172 at *
                    generalize v' 173 = z173 at *
                    generalize v' 174 = z174 at *
                    generalize v' 175 = z175 at *
                    generalize v' 176 = z176 at *
                    generalize v' 177 = z177 at *
                    generalize v' 178 = z178 at *
                    generalize v' 171 = z171 at *
                    generalize v' 179 = z179 at *
                    clear e180
                    go_upto_region 29 with fail
                    obtain ⟨r0, r1, r2⟩ := cells3p hN
                    obtain ⟨k0, k1, k2, k3, k4, k5⟩ := HK.out w10 HBA.out
                    rw [← hPn.out] at k5
                    obtain ⟨y0, y1, y2⟩ := HPC.out w10 HBA.out
                    rw [← hfp] at y0 y1 y2
                    have hne : ∀ W, (binOp .neq 24 (.agg #[.string fq.pack, .int .i64 fq.at_, .int .i64 fq.len]) (.agg #[.string fq.pack, .int .i64 fq.at_, .int .i64 fq.len])).run Tryz.prog W = .ok (.bool false) W := fun W => neq37 W fq
                    generalize hq0 : fq.pack = q0 at r0 y0 hne
                    generalize hq1 : fq.at_ = q1 at r1 y1 hne
                    generalize hq2 : fq.len = q2 at r2 y2 hne
                    clear hq0 hq1 hq2
                    go_quiet (fail)
                    clear r0 r1 r2 y0 y1 y2 hne k0 k1 k2 k3 k4 k5
                    go_wp2_with fail
                    go_roundw
                    case rel => exact ⟨k + 1, by omega, by omega, by rfl, hid (below_draws' HXA.out _)⟩
                    case measure => first | (simp [intOf]; done) | (simp [intOf]; omega)
            · clear k0 k1 k2 k3 k4 k5
              by_cases hlt : k < nC
              · obtain rfl : k = 60 := by omega
                have i1 : (60 : Int) < (nC : Int) := by omega
                rw [show ((60 : Nat) : Int) = 60 from rfl]
                have HHX := hid (HB7.out.trans (HX.out.mono HB7.out.size))
                obtain ⟨k0, k1, k2, k3, k4, k5⟩ := HK.out wr HBX.out
                have C1 := whole_any s a0 a1 a2 c0 c1 c2 HMY.out wr (HC.out.below HBX.out) (HP.out.below HBX.out)
                unfold stV at C1
                first | rw [← HNC.out] at k4 C1 | skip
                first | rw [← hPn.out] at k5 C1 | skip
                go_wp2_with fail
                refine C1.mono ?_
                rintro e wz ⟨rfl, bz⟩
                have HEND := hid (HHX.out.trans (bz.mono HHX.out.size))
                clear bz C1 k0 k1 k2 k3 k4 k5
                go_wp2_with fail
                go_ret
                exact ⟨rfl, HEND.out⟩
              · obtain rfl : k = nC := by omega
                have i1 : ¬ (k : Int) < (k : Int) := by omega
                have HHX := hid (HB7.out.trans (HX.out.mono HB7.out.size))
                obtain ⟨k0, k1, k2, k3, k4, k5⟩ := HK.out wr HBX.out
                have C1 := whole_any s a0 a1 a2 c0 c1 c2 HMY.out wr (HC.out.below HBX.out) (HP.out.below HBX.out)
                unfold stV at C1
                first | rw [← HNC.out] at k4 C1 | skip
                first | rw [← hPn.out] at k5 C1 | skip
                go_wp2_with fail
                refine C1.mono ?_
                rintro e wz ⟨rfl, bz⟩
                have HEND := hid (HHX.out.trans (bz.mono HHX.out.size))
                clear bz C1 k0 k1 k2 k3 k4 k5
                go_wp2_with fail
                go_ret
                exact ⟨rfl, HEND.out⟩
        · have qz : (ez == 0) = false := by rw [beq_eq_false_iff_ne]; exact hz0
          obtain ⟨wl, hwl⟩ : ∃ wl, wl = x7 := ⟨_, rfl⟩
          have HXL : Hid (Below x7.heap.size x7 wl) := hid (by rw [hwl]; exact Below.refl _ _)
          rw [← hwl]
          clear hwl
          go_wp2_with fail
          go_loopw [16, 17, 18, 19, 20] (fun v16 _ _ _ _ wr => ∃ k : Nat, k ≤ nC ∧ k ≤ 60 ∧ v16 = .int .i64 (k : Int) ∧ Hid (Below x7.heap.size x7 wr)) (fun v16 _ _ _ _ _ => 60 - (intOf v16).toNat)
          case atStart => exact ⟨0, Nat.zero_le _, Nat.zero_le _, rfl, HXL⟩
          case round =>
            obtain ⟨k, hk, hk60, rfl, HX⟩ := hrel
            have HBX := hid (B7.out.trans (HX.out.mono B7.out.size))
            obtain ⟨k0, k1, k2, k3, k4, k5⟩ := HK.out wr HBX.out
            rw [← HNC.out] at k4
            rw [← hPn.out] at k5
            by_cases hgo : k < nC ∧ k < 60
            · obtain ⟨hlt, h60⟩ := hgo
              have i1 : (k : Int) < (nC : Int) := by omega
              have i2 : (k : Int) < 60 := by omega
              have i0 : (0 : Int) ≤ (k : Int) := by omega
              have wk : IntKind.i64.wrap ((k : Int) + 1) = ((k + 1 : Nat) : Int) := wrap_nat k (by omega)
              have hlt' : k < s.C.length := by rw [← HNC.out]; exact hlt
              obtain ⟨g, o, rfl, hg, hc⟩ := tx_cell HC.out HBX.out hlt'
              obtain ⟨gp, op, rfl, hgp, hp0, hp1, hp2⟩ := ps_cell HP.out HBX.out (show k < s.P.length by rw [← hPn.out]; exact hlt)
              have HPC := hid (fun W (hW : Below w1.heap.size w1 W) => (show W.cell? ⟨gp, op + k * 3, none⟩ = some (.string (s.P.getD k default).pack) ∧ W.cell? ⟨gp, op + k * 3 + 1, none⟩ = some (.int .i64 (s.P.getD k default).at_) ∧ W.cell? ⟨gp, op + k * 3 + 2, none⟩ = some (.int .i64 (s.P.getD k default).len) from by
                obtain ⟨g9, o9, e9, _, u0, u1, u2⟩ := ps_cell HP.out hW (show k < s.P.length by rw [← hPn.out]; exact hlt)
                injection e9 with e9
                injection e9 with e10 e11
                subst e10 e11
                exact ⟨u0, u1, u2⟩))
              have HCC := hid (fun W (hW : Below w1.heap.size w1 W) => (hW.cell (p := ⟨g, o + k, none⟩) hg).trans ((HBX.out.cell (p := ⟨g, o + k, none⟩) hg).symm.trans hc))
              clear hp0 hp1 hp2 hgp hg
              obtain ⟨fp, fe, hf1⟩ : ∃ fp fe, findV t.C t.P (s.C.getD k ⟨#[]⟩) = (fp, fe) := ⟨_, _, rfl⟩
              obtain ⟨fp2, fe2, hf2⟩ : ∃ fp fe, findV u.C u.P (s.C.getD k ⟨#[]⟩) = (fp, fe) := ⟨_, _, rfl⟩
              generalize s.C.getD k ⟨#[]⟩ = x at *
              have HF1 := hid hf1
              have HF2 := hid hf2
              clear hf1 hf2 hlt'
              have HXX := hid (HX7.out.trans (HX.out.mono HX7.out.size))
              go_wp2_with fail
              refine Tl.wp_mixs_lit (by kernel_rfl) 12 [128, 129, 130, 131, 132, 133, 134, 127, 135, 136, 17] 204 rfl (by kernel_rfl) (fun W => Below wr.heap.size wr W) (fun d v W => KF (stM20 t A0 A1 A2 e0 e1 e2 b g o nC c1 k x fp fe wr.heap.size d) v W) 17 1000 (by decide) ((Below.refl _ _).drew)
                ⟨fun a' W' hC hF => ?_, fun a' W' hC hF => ?_, fun a' W' hC hF => ?_, fun a' W' hC hF => ?_, fun a' W' hC hF => ?_, fun a' W' hC hF => ?_, fun a' W' hC hF => ?_, fun a' W' hC hF => ?_, fun a' W' hC hF => ?_, fun a' W' hC hF => ?_, fun a' W' hC hF => ?_, ⟨rfl, by decide +kernel, fun a' W' hC hF => ?_⟩, trivial⟩ ?_
              · exact Tl.sm_v 128 _ rfl (Tl.wanted_none rfl) hC rfl (zn_load35 rfl ((hF 7 (by decide +kernel)).2 (by decide)) (N7.out.below (HXX.out.trans (hC.mono HXX.out.size)) N7.out.lt))
              · exact Tl.sm_v 129 _ rfl (Tl.wanted_none rfl) hC rfl (zn_fa35_3 rfl ((hF 3 (by decide +kernel)).2 (by decide)))
              · exact Tl.sm_v 130 _ rfl (Tl.wanted_none rfl) hC rfl (zn_load29 rfl (show Act.eval a' (.tmp 129) = (.pointer (some ⟨b, 0 + 4, none⟩)) from ((hF 129 (by decide +kernel)).1 (by decide))) ((cells6 (HN.out.below (HBX.out.trans (hC.mono HBX.out.size)) HN.out.lt)).2.2.2.2.1.trans (by rw [HNC.out])))
              · exact Tl.sm_v 131 _ rfl (Tl.wanted_none rfl) hC rfl (zn_move rfl ((hF 16 (by decide +kernel)).2 (by decide)))
              · exact Tl.sm_v 132 _ rfl (Tl.wanted_none rfl) hC rfl (zn_ix29 rfl (show Act.eval a' (.tmp 130) = (.slice (some ⟨g, o, none⟩) nC c1) from ((hF 130 (by decide +kernel)).1 (by decide))) (show Act.eval a' (.tmp 131) = (.int .i64 (k : Int)) from ((hF 131 (by decide +kernel)).1 (by decide))) hlt)
              · exact Tl.sm_v 133 _ rfl (Tl.wanted_none rfl) hC rfl (zn_load9 rfl (show Act.eval a' (.tmp 132) = (.pointer (some ⟨g, o + k, none⟩)) from ((hF 132 (by decide +kernel)).1 (by decide))) (HCC.out W' (HBX.out.trans (hC.mono HBX.out.size))))
              · refine Tl.sm_call 11 #[_, _] (Tl.wanted_none rfl) (zn_call2 rfl rfl (show Act.eval a' (.tmp 128) = (.agg (stV t A0 A1 A2 e0 e1 e2)) from ((hF 128 (by decide +kernel)).1 (by decide))) (show Act.eval a' (.tmp 133) = (.string x) from ((hF 133 (by decide +kernel)).1 (by decide))) (en11z _ _)) ((find_is x fp fe HF1.out HTZ.out.1 HTZ.out.2.1 (C7.out.below (HXX.out.trans (hC.mono HXX.out.size))) (P7.out.below (HXX.out.trans (hC.mono HXX.out.size)))).mono ?_)
                rintro e W'' ⟨rfl, hb⟩
                exact ⟨_, rfl, hC.trans (hb.mono hC.size), fun d v _ h => KF_mono hb h, fun d hd => by cases hd; rfl⟩
              · exact Tl.sm_v 127 _ rfl (Tl.wanted_none rfl) hC rfl (zn_move rfl (show Act.eval a' (.tmp 134) = (.tuple #[.agg (pl3 fp).toArray, .int .i64 fe]) from ((hF 134 (by decide +kernel)).1 (by decide))))
              · exact Tl.sm_v 135 _ rfl (Tl.wanted_none rfl) hC rfl (zn_ext0 rfl (show Act.eval a' (.tmp 127) = (.tuple #[.agg (pl3 fp).toArray, .int .i64 fe]) from ((hF 127 (by decide +kernel)).1 (by decide))))
              · exact Tl.sm_v 136 _ rfl (Tl.wanted_none rfl) hC rfl (zn_ext1 rfl (show Act.eval a' (.tmp 127) = (.tuple #[.agg (pl3 fp).toArray, .int .i64 fe]) from ((hF 127 (by decide +kernel)).1 (by decide))))
              · exact Tl.sm_w _ (Tl.wanted_none rfl) (zn_alloc24 rfl) (hC.alloc hC.size _) (fun d v _ h => KF_mono ((Below.refl _ _).alloc (Nat.le_refl _) _) h) (fun d hd => by cases hd; exact ⟨_, rfl, hC.size, _, _, _, Has.new _ _ _ _ rfl⟩)
              · obtain ⟨bb, hb1, hlo, u0, u1, u2, hb⟩ := ((hF 17 (by decide +kernel)).1 (by decide))
                refine Tl.ss_w (zn_store24 (p := fp) rfl ?_ ?_ hb) rfl ?_ ?_ ?_
                · exact hb1
                · exact ((hF 135 (by decide +kernel)).1 (by decide))
                · exact below_put3 hC hlo _ _ _
                · exact fun d v h => KF_put3 (stok20 t A0 A1 A2 e0 e1 e2 b g o nC c1 k x fp fe wr.heap.size d) hb h
                · exact ⟨bb, hb1, hlo, put3 hb _ _ _⟩
              intro v' w8 hC hv hS
              obtain ⟨b17, e17, hlo, hN⟩ := hS 11 (by decide) rfl
              have e136 : v' 136 = .int .i64 fe := hv 136 (by decide)
              clear hv hS
              have HX8 := hid (HX.out.trans (hC.mono HX.out.size))
              have HB8 := hid (B7.out.trans (HX8.out.mono B7.out.size))
              have N17 := hid hN
              have HLO : Hid (x7.heap.size ≤ b17) := hid (Nat.le_trans HX.out.size hlo)
              clear hC hN hlo hc HX HBX HXX k0 k1 k2 k3 k4 k5
              simp only [Tl.fill, List.drop]
              simp only [Act.put, List.setIfInBounds_toArray, List.set_cons_succ, List.set_cons_zero, e17, e136]
              generalize v' 128 = z128
              generalize v' 129 = z129
              generalize v' 130 = z130
              generalize v' 131 = z131
              generalize v' 132 = z132
              generalize v' 133 = z133
              generalize v' 134 = z134
              generalize v' 127 = z127
              generalize v' 135 = z135
              clear e17 e136
              go_upto_region 21 with fail
              go_quiet (fail)
              go_wp2_with fail
              have HMX := hid (show m ≤ 400 by omega)
              go_loopw [19, 20] (fun v19 v20 wr => ∃ i : Nat, i ≤ m ∧ v20 = .int .i64 (i : Int) ∧ v19 = .bool (goneK D x i) ∧ Hid (Below w8.heap.size w8 wr)) (fun _ v20 _ => m - (intOf v20).toNat)
              case atStart => exact ⟨0, Nat.zero_le _, rfl, by rw [gone_zero], hid (below_draws' (Below.refl _ _) _)⟩
              case round =>
                obtain ⟨i, hi, rfl, rfl, HI⟩ := hrel
                by_cases hli : i < m
                · have n1 : (i : Int) < (m : Int) := by omega
                  have n0 : (0 : Int) ≤ (i : Int) := by omega
                  have wi : IntKind.i64.wrap ((i : Int) + 1) = ((i + 1 : Nat) : Int) := wrap_nat i (by have := HMX.out; omega)
                  have hli' : i < D.length := by rw [← HMM.out]; exact hli
                  have HBI := hid (HB8.out.trans (HI.out.mono HB8.out.size))
                  obtain ⟨gd, od, rfl, hgd, hd⟩ := tx_cell HD.out HBI.out hli'
                  have HGS := hid (gone_succ (x := x) hli')
                  have hc := HCC.out wr HBI.out
                  obtain ⟨k0, k1, k2, k3, k4, k5⟩ := HK.out wr HBI.out
                  rw [← HNC.out] at k4
                  clear k0 k1 k2 k3 k5 hgd
                  generalize D.getD i ⟨#[]⟩ = dd at *
                  cases hgi : goneK D x i with
                  | true =>
                    rw [hgi, Bool.true_or] at HGS
                    clear hgi
                    go_wp2_with fail
                    go_quiet (fail)
                    go_wp2_with fail
                    go_roundw
                    case rel => exact ⟨i + 1, by omega, by rfl, by rw [HGS.out], hid (below_draws' HI.out _)⟩
                    case measure => first | (simp [intOf]; done) | (simp [intOf]; omega)
                  | false =>
                    rw [hgi, Bool.false_or] at HGS
                    clear hgi
                    by_cases hdx : dd = x
                    · have q1 := str_eq hdx
                      rw [decide_eq_true hdx] at HGS
                      clear hdx
                      go_wp2_with fail
                      go_quiet (fail)
                      go_wp2_with fail
                      go_roundw
                      case rel => exact ⟨i + 1, by omega, by rfl, by rw [HGS.out], hid (below_draws' HI.out _)⟩
                      case measure => first | (simp [intOf]; done) | (simp [intOf]; omega)
                    · have q1 := str_ne hdx
                      rw [decide_eq_false hdx] at HGS
                      clear hdx
                      go_wp2_with fail
                      go_quiet (fail)
                      go_wp2_with fail
                      go_roundw
                      case rel => exact ⟨i + 1, by omega, by rfl, by rw [HGS.out], hid (below_draws' HI.out _)⟩
                      case measure => first | (simp [intOf]; done) | (simp [intOf]; omega)
                · obtain rfl : i = m := by omega
                  have n1 : ¬ (i : Int) < (i : Int) := by omega
                  have HX9 := hid (HX8.out.trans (HI.out.mono HX8.out.size))
                  have HB9 := hid (B7.out.trans (HX9.out.mono B7.out.size))
                  have N17' := hid (N17.out.below HI.out N17.out.lt)
                  clear HX8 HB8 HI N17
                  have hf2 := HF2.out
                  generalize goneK D x i = gg at *
                  have HF2' := hid hf2
                  clear hf2
                  have HXX := hid HX9.out
                  go_wp2_with fail
                  refine Tl.wp_mixs_lit (by kernel_rfl) 11 [172, 173, 174, 175, 176, 177, 178, 171, 179, 180] 204 rfl (by kernel_rfl) (fun W => Below x7.heap.size x7 W ∧ ∃ u0 u1 u2, Has W b17 #[u0, u1, u2] 24) (fun d v W => KF (stM28 u U0 U1 U2 f0 f1 f2 b g o nC c1 k x fp2 fe2 b17 d) v W) 17 1000 (by decide) ⟨HX9.out.drew, _, _, _, N17'.out.drew⟩
                    ⟨fun a' W' hC hF => ?_, fun a' W' hC hF => ?_, fun a' W' hC hF => ?_, fun a' W' hC hF => ?_, fun a' W' hC hF => ?_, fun a' W' hC hF => ?_, fun a' W' hC hF => ?_, fun a' W' hC hF => ?_, fun a' W' hC hF => ?_, fun a' W' hC hF => ?_, ⟨rfl, by decide +kernel, fun a' W' hC hF => ?_⟩, trivial⟩ ?_
                  · exact Tl.sm_v 172 _ rfl (Tl.wanted_none rfl) hC rfl (zn_load35 rfl ((hF 14 (by decide +kernel)).2 (by decide)) (N14.out.below hC.1 N14.out.lt))
                  · exact Tl.sm_v 173 _ rfl (Tl.wanted_none rfl) hC rfl (zn_fa35_3 rfl ((hF 3 (by decide +kernel)).2 (by decide)))
                  · exact Tl.sm_v 174 _ rfl (Tl.wanted_none rfl) hC rfl (zn_load29 rfl (show Act.eval a' (.tmp 173) = (.pointer (some ⟨b, 0 + 4, none⟩)) from ((hF 173 (by decide +kernel)).1 (by decide))) ((cells6 (HN.out.below (B7.out.trans (hC.1.mono B7.out.size)) HN.out.lt)).2.2.2.2.1.trans (by rw [HNC.out])))
                  · exact Tl.sm_v 175 _ rfl (Tl.wanted_none rfl) hC rfl (zn_move rfl ((hF 16 (by decide +kernel)).2 (by decide)))
                  · exact Tl.sm_v 176 _ rfl (Tl.wanted_none rfl) hC rfl (zn_ix29 rfl (show Act.eval a' (.tmp 174) = (.slice (some ⟨g, o, none⟩) nC c1) from ((hF 174 (by decide +kernel)).1 (by decide))) (show Act.eval a' (.tmp 175) = (.int .i64 (k : Int)) from ((hF 175 (by decide +kernel)).1 (by decide))) hlt)
                  · exact Tl.sm_v 177 _ rfl (Tl.wanted_none rfl) hC rfl (zn_load9 rfl (show Act.eval a' (.tmp 176) = (.pointer (some ⟨g, o + k, none⟩)) from ((hF 176 (by decide +kernel)).1 (by decide))) (HCC.out W' (B7.out.trans (hC.1.mono B7.out.size))))
                  · refine Tl.sm_call 11 #[_, _] (Tl.wanted_none rfl) (zn_call2 rfl rfl (show Act.eval a' (.tmp 172) = (.agg (stV u U0 U1 U2 f0 f1 f2)) from ((hF 172 (by decide +kernel)).1 (by decide))) (show Act.eval a' (.tmp 177) = (.string x) from ((hF 177 (by decide +kernel)).1 (by decide))) (en11z _ _)) ((find_is x fp2 fe2 HF2'.out HUZ.out.1 HUZ.out.2 (C14.out.below hC.1) (P14.out.below hC.1)).mono ?_)
                    rintro e W'' ⟨rfl, hb⟩
                    exact ⟨_, rfl, ⟨hC.1.trans (hb.mono hC.1.size), by obtain ⟨u0, u1, u2, hh⟩ := hC.2; exact ⟨u0, u1, u2, hh.below hb hh.lt⟩⟩, fun d v _ h => KF_mono hb h, fun d hd => by cases hd; rfl⟩
                  · exact Tl.sm_v 171 _ rfl (Tl.wanted_none rfl) hC rfl (zn_move rfl (show Act.eval a' (.tmp 178) = (.tuple #[.agg (pl3 fp2).toArray, .int .i64 fe2]) from ((hF 178 (by decide +kernel)).1 (by decide))))
                  · exact Tl.sm_v 179 _ rfl (Tl.wanted_none rfl) hC rfl (zn_ext0 rfl (show Act.eval a' (.tmp 171) = (.tuple #[.agg (pl3 fp2).toArray, .int .i64 fe2]) from ((hF 171 (by decide +kernel)).1 (by decide))))
                  · exact Tl.sm_v 180 _ rfl (Tl.wanted_none rfl) hC rfl (zn_ext1 rfl (show Act.eval a' (.tmp 171) = (.tuple #[.agg (pl3 fp2).toArray, .int .i64 fe2]) from ((hF 171 (by decide +kernel)).1 (by decide))))
                  · obtain ⟨u0, u1, u2, hb⟩ := hC.2
                    refine Tl.ss_w (zn_store24 (b := b17) (p := fp2) rfl ?_ ?_ hb) rfl ?_ ?_ ?_
                    · exact ((hF 17 (by decide +kernel)).2 (by decide))
                    · exact ((hF 179 (by decide +kernel)).1 (by decide))
                    · exact ⟨below_put3 hC.1 HLO.out _ _ _, _, _, _, put3 hb _ _ _⟩
                    · exact fun d v h => KF_put3 (stok28 u U0 U1 U2 f0 f1 f2 b g o nC c1 k x fp2 fe2 b17 d) hb h
                    · exact put3 hb _ _ _
                  intro v' w10 hC hv hS
                  have hN : Has w10 b17 (pl3 fp2).toArray 24 := hS 10 (by decide) rfl
                  have e180 : v' 180 = .int .i64 fe2 := hv 180 (by decide)
                  clear hv hS
                  have HXA := hid hC.1
                  have HBA := hid (B7.out.trans (HXA.out.mono B7.out.size))
                  clear hC N17' HX9 HB9
                  simp only [Tl.fill, List.drop]
                  simp only [Act.put, List.setIfInBounds_toArray, List.set_cons_succ, List.set_cons_zero, e180]
                  generalize v' 172 = z172 at *
                  generalize v' 173 = z173 at *
                  generalize v' 174 = z174 at *
                  generalize v' 175 = z175 at *
                  generalize v' 176 = z176 at *
                  generalize v' 177 = z177 at *
                  generalize v' 178 = z178 at *
                  generalize v' 171 = z171 at *
                  generalize v' 179 = z179 at *
                  clear e180
                  go_upto_region 29 with fail
                  go_quiet (fail)
                  go_wp2_with fail
                  go_roundw
                  case rel => exact ⟨k + 1, by omega, by omega, by rfl, hid (below_draws' HXA.out _)⟩
                  case measure => first | (simp [intOf]; done) | (simp [intOf]; omega)
            · clear k0 k1 k2 k3 k4 k5
              by_cases hlt : k < nC
              · obtain rfl : k = 60 := by omega
                have i1 : (60 : Int) < (nC : Int) := by omega
                rw [show ((60 : Nat) : Int) = 60 from rfl]
                have HHX := hid (HB7.out.trans (HX.out.mono HB7.out.size))
                obtain ⟨k0, k1, k2, k3, k4, k5⟩ := HK.out wr HBX.out
                have C1 := whole_any s a0 a1 a2 c0 c1 c2 HMY.out wr (HC.out.below HBX.out) (HP.out.below HBX.out)
                unfold stV at C1
                first | rw [← HNC.out] at k4 C1 | skip
                first | rw [← hPn.out] at k5 C1 | skip
                go_wp2_with fail
                refine C1.mono ?_
                rintro e wz ⟨rfl, bz⟩
                have HEND := hid (HHX.out.trans (bz.mono HHX.out.size))
                clear bz C1 k0 k1 k2 k3 k4 k5
                go_wp2_with fail
                go_ret
                exact ⟨rfl, HEND.out⟩
              · obtain rfl : k = nC := by omega
                have i1 : ¬ (k : Int) < (k : Int) := by omega
                have HHX := hid (HB7.out.trans (HX.out.mono HB7.out.size))
                obtain ⟨k0, k1, k2, k3, k4, k5⟩ := HK.out wr HBX.out
                have C1 := whole_any s a0 a1 a2 c0 c1 c2 HMY.out wr (HC.out.below HBX.out) (HP.out.below HBX.out)
                unfold stV at C1
                first | rw [← HNC.out] at k4 C1 | skip
                first | rw [← hPn.out] at k5 C1 | skip
                go_wp2_with fail
                refine C1.mono ?_
                rintro e wz ⟨rfl, bz⟩
                have HEND := hid (HHX.out.trans (bz.mono HHX.out.size))
                clear bz C1 k0 k1 k2 k3 k4 k5
                go_wp2_with fail
                go_ret
                exact ⟨rfl, HEND.out⟩
end Go.Proofs.YtknddbmnciodaaaGreat
