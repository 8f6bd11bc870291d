/- The document's world: Strike. -/
import Derived.Test.YtgdiaflikfdnaaaGreatD4
namespace Go.Proofs.YtgdiaflikfdnaaaGreat
open Go.RowKit Go.Maps
variable {w w' w1 w2 : World} {S : Nat → Prop} {b g u : Nat} {W W' : Rd}
def dsF1 (b B g nn cap : Nat) (t : Int) (x0 x : Bool) (i : Nat) (v : Value) (_ : World) : Prop := match i with
  | 6 => v = .pointer (some ⟨B, 1, none⟩) | 7 => v = .int .i64 t | 8 => v = .bool x0 | 9 => v = .bool x0
  | 10 => x0 = false → v = .pointer (some ⟨B, 1, none⟩) | 11 => x0 = false → v = .int .i64 t
  | 12 => x0 = false → v = .pointer (some ⟨b, 0, none⟩) | 13 => x0 = false → v = .pointer (some ⟨b, 0, none⟩) | 14 => x0 = false → v = .pointer (some ⟨b, 0, none⟩)
  | 15 => x0 = false → v = .slice (some ⟨g, 0, none⟩) nn cap | 16 => x0 = false → v = .int .i64 (nn : Int) | 17 => x0 = false → v = .bool x
  | 18 => v = .bool (x0 || x)
  | _ => True
def dsF3 (b B g nn cap j blk : Nat) (k t n a c : Int) (i : Nat) (v : Value) (_ : World) : Prop := match i with
  | 19 => v = .pointer (some ⟨b, 0, none⟩) | 20 => v = .pointer (some ⟨b, 0, none⟩) | 21 => v = .pointer (some ⟨b, 0, none⟩) | 22 => v = .slice (some ⟨g, 0, none⟩) nn cap
  | 23 => v = .pointer (some ⟨B, 1, none⟩) | 24 => v = .int .i64 (j : Int) | 25 => v = .pointer (some ⟨g, j, none⟩) | 26 => v = .pointer (some ⟨blk, 0, none⟩)
  | 27 => v = .agg #[.int .u8 k, .int .i64 t, .int .i64 n, .int .i64 a, .int .i64 c]
  | _ => True
def dsF5 (b B u nn cup j : Nat) (i : Nat) (v : Value) (_ : World) : Prop := match i with
  | 41 => v = .pointer (some ⟨b, 0, none⟩) | 42 => v = .pointer (some ⟨b, 0, none⟩) | 43 => v = .pointer (some ⟨b, 1, none⟩) | 44 => v = .slice (some ⟨u, 0, none⟩) nn cup
  | 45 => v = .pointer (some ⟨B, 1, none⟩) | 46 => v = .int .i64 (j : Int) | 47 => v = .pointer (some ⟨u, j, none⟩)
  | _ => True
section
variable {ev : Operand → Value} {o : Oper} {w : World} {x y : Operand}
theorem rn_f70_1 {g k : Nat} (ho : o.op = .fieldAddr 70 x 1) (hx : ev x = .pointer (some ⟨g, k, none⟩)) : (execOp ev o).run Tryz.prog w = .ok (.value (.pointer (some ⟨g, k + 1, none⟩))) w := by
  simp [execOp, ho, hx, go_sem]
theorem rn_load67n {g k : Nat} {v : Value} (ho : o.op = .load 67 x) (hx : ev x = .pointer (some ⟨g, k, none⟩)) (hc : w.cell? ⟨g, k, none⟩ = some v) : (execOp ev o).run Tryz.prog w = .ok (.value v) w := by
  simp [execOp, ho, hx, go_sem, hc]
theorem rn_ix67 {g n c i : Nat} (ho : o.op = .indexAddr 67 x y) (hx : ev x = .slice (some ⟨g, 0, none⟩) n c) (hy : ev y = .int .i64 (i : Int)) (hi : i < n) : (execOp ev o).run Tryz.prog w = .ok (.value (.pointer (some ⟨g, i, none⟩))) w := by
  have q1 : (i : Int) < (n : Int) := by omega
  simp [execOp, ho, hx, hy, go_sem, q1]
theorem rn_len68n {a : Option Addr} {n c : Nat} (ho : o.op = .call { callee := .builtin .len, args := #[x], argTypes := #[68] }) (hx : ev x = .slice a n c) : (execOp ev o).run Tryz.prog w = .ok (.value (.int .i64 (n : Int))) w := by
  simp [execOp, ho, hx, go_sem]
theorem rn_geq3b {u v : Int} {c : Bool} (ho : o.op = .binOp .geq 3 x y 3) (hx : ev x = .int .i64 u) (hy : ev y = .int .i64 v) (hc : decide (v ≤ u) = c) : (execOp ev o).run Tryz.prog w = .ok (.value (.bool c)) w := by
  subst hc
  simp [execOp, ho, hx, hy, go_sem]
end
def strikeD (W : Rd) (k t n a c : Int) : Int × Rd := if 0 ≤ t ∧ t < (W.l.length : Int) then (match W.l[t.toNat]? with
  | some x => ((strikeR x.rf k n a c).1, { W with l := W.l.set t.toNat { x with rf := (strikeR x.rf k n a c).2, sus := x.sus || (decide ((strikeR x.rf k n a c).1 = 0) && (decide (k ≠ 5) && decide (k ≠ 7))) } })
  | none => (1, W)) else (1, W)
set_option maxHeartbeats 8000000 in
set_option maxRecDepth 20000 in
theorem dstrike_any (h : IsRd w S b g u W) (hR : ∀ x ∈ W.l, x.rf.good.length + x.rf.writes.length ≤ 1000000 ∧ (∀ p ∈ seenR x.rf, p.2.size ≤ 65536) ∧ ∀ k, x.rf.ahead = some k → k < 9223372036854775808) (k t n a c : Int) (hn : n < 9223372036854775808) (ha : a < 9223372036854775808) : Calls Tryz.prog 42 #[ptr b, fv k t n a c] w fun e w' => e = .returned (er (strikeD W k t n a c).1) ∧ AfterD w w' S b g u (strikeD W k t n a c).2 := by
  have HB := hid (boxed w (.cells #[.int .u8 k, .int .i64 t, .int .i64 n, .int .i64 a, .int .i64 c] 38))
  have HX := hid (Has.new w w.heap.size #[.int .u8 k, .int .i64 t, .int .i64 n, .int .i64 a, .int .i64 c] 38 rfl)
  have HH := hid (h.below HB.out)
  have HNS : Hid (¬ S w.heap.size) := hid fun hS => by have := h.bound _ hS; omega
  obtain ⟨wa, hwa⟩ : ∃ wa, wa = w.alloc (.cells #[.int .u8 k, .int .i64 t, .int .i64 n, .int .i64 a, .int .i64 c] 38) := ⟨_, rfl⟩
  rw [← hwa] at HB HX HH
  have b0 : wa.cell? ⟨w.heap.size, 0, none⟩ = some (.int .u8 k) := HX.out.cell 0
  have b1 : wa.cell? ⟨w.heap.size, 1, none⟩ = some (.int .i64 t) := HX.out.cell 1
  have b2 : wa.cell? ⟨w.heap.size, 2, none⟩ = some (.int .i64 n) := HX.out.cell 2
  have b3 : wa.cell? ⟨w.heap.size, 3, none⟩ = some (.int .i64 a) := HX.out.cell 3
  have b4 : wa.cell? ⟨w.heap.size, 4, none⟩ = some (.int .i64 c) := HX.out.cell 4
  obtain ⟨cap, cup, ⟨c0, c1, _, _, _⟩, _, _, _⟩ := HH.out.cells
  have HRF := hid (AfterD.front HB.out (AfterD.refl HH.out))
  unfold strikeD er fv
  clear h
  by_cases h0 : t < 0
  · rw [if_neg (by omega)]
    have q0 : decide (t < 0) = true := decide_eq_true h0
    obtain ⟨nn, hnn⟩ : ∃ nn, nn = W.l.length := ⟨_, rfl⟩
    clear h0 hR
    unfold ptr
    go_enter Tryz.func42, Tryz.ntmps42
    go_wp2_with fail
    rw [← hwa]
    clear hwa
    refine Tl.wp_mix_lit (by kernel_rfl) 13 [6, 7, 8, 9, 10, 11, 12, 13, 14, 15, 16, 17, 18] 49 rfl (by kernel_rfl) (AtW wa.drew) (dsF1 b w.heap.size g nn cap t true false) rfl
      ⟨fun a' W' hC hF => ?_, fun a' W' hC hF => ?_, fun a' W' hC hF => ?_, fun a' W' hC hF => ?_, fun a' W' hC hF => ?_, fun a' W' hC hF => ?_, fun a' W' hC hF => ?_, fun a' W' hC hF => ?_, fun a' W' hC hF => ?_, fun a' W' hC hF => ?_, fun a' W' hC hF => ?_, fun a' W' hC hF => ?_, fun a' W' hC hF => ?_, trivial⟩ ?_
    · exact Tl.sm_v 6 _ rfl (Tl.wanted_none rfl) hC rfl (rn_f32_1 rfl ((hF 3 (by decide +kernel)).2 (by decide)))
    · exact Tl.sm_v 7 _ rfl (Tl.wanted_none rfl) hC rfl (rn_load3 rfl ((hF 6 (by decide +kernel)).1 (by decide)) (by rw [show W' = _ from hC]; exact b1))
    · exact Tl.sm_v 8 _ rfl (Tl.wanted_none rfl) hC rfl (rn_lss3 rfl ((hF 7 (by decide +kernel)).1 (by decide)) rfl q0)
    · exact Tl.sm_v 9 _ rfl (Tl.wanted_none rfl) hC rfl (rn_move rfl ((hF 8 (by decide +kernel)).1 (by decide)))
    · exact Tl.sm_skip (Tl.wanted_not rfl rfl ((hF 9 (by decide +kernel)).1 (by decide))) (fun d hd => by cases hd; exact fun h => by cases h)
    · exact Tl.sm_skip (Tl.wanted_not rfl rfl ((hF 9 (by decide +kernel)).1 (by decide))) (fun d hd => by cases hd; exact fun h => by cases h)
    · exact Tl.sm_skip (Tl.wanted_not rfl rfl ((hF 9 (by decide +kernel)).1 (by decide))) (fun d hd => by cases hd; exact fun h => by cases h)
    · exact Tl.sm_skip (Tl.wanted_not rfl rfl ((hF 9 (by decide +kernel)).1 (by decide))) (fun d hd => by cases hd; exact fun h => by cases h)
    · exact Tl.sm_skip (Tl.wanted_not rfl rfl ((hF 9 (by decide +kernel)).1 (by decide))) (fun d hd => by cases hd; exact fun h => by cases h)
    · exact Tl.sm_skip (Tl.wanted_not rfl rfl ((hF 9 (by decide +kernel)).1 (by decide))) (fun d hd => by cases hd; exact fun h => by cases h)
    · exact Tl.sm_skip (Tl.wanted_not rfl rfl ((hF 9 (by decide +kernel)).1 (by decide))) (fun d hd => by cases hd; exact fun h => by cases h)
    · exact Tl.sm_skip (Tl.wanted_not rfl rfl ((hF 9 (by decide +kernel)).1 (by decide))) (fun d hd => by cases hd; exact fun h => by cases h)
    · exact Tl.sm_v 18 _ rfl (Tl.wanted_none rfl) hC rfl (rn_pickT rfl ((hF 9 (by decide +kernel)).1 (by decide)) rfl)
    intro v wB hw hv
    obtain rfl : wB = _ := hw
    have v18 : v 18 = .bool (true || false) := hv 18 (by decide)
    clear hv
    simp only [Tl.fill, List.drop_succ_cons, List.drop_zero, wpList]
    simp only [Act.put, List.setIfInBounds_toArray, List.set_cons_succ, List.set_cons_zero, v18, Bool.true_or]
    clear v18
    go_wp2_with fail
    go_ret
    exact ⟨rfl, HRF.out.next (Below.refl _ _).drew⟩
  have q0 : decide (t < 0) = false := decide_eq_false h0
  obtain ⟨j, rfl⟩ := Int.eq_ofNat_of_zero_le (show 0 ≤ t by omega)
  clear h0
  by_cases hin : j < W.l.length
  · rw [if_pos ⟨by omega, by omega⟩]
    have q1 : decide ((W.l.length : Int) ≤ (j : Int)) = false := decide_eq_false (by omega)
    have hjn : j < W.l.length := hin
    rw [Int.toNat_natCast]
    obtain ⟨x, hx⟩ : ∃ x, W.l[j]? = some x := ⟨_, List.getElem?_eq_getElem hin⟩
    rw [hx]
    simp only
    obtain ⟨k0, _, _⟩ := HH.out.kept hx
    obtain ⟨T, t1, _, t3⟩ := (HH.out.below ((Below.refl wa.heap.size wa).drew.drew)).call hx
    have hxm := hR x (List.mem_of_getElem? hx)
    have HST := refStrike_any t1 hxm.1 hxm.2.1 k (j : Int) n a c hn ha
    have HFX := hid (show ∀ w', AfterR wa.drew.drew w' T x.blk (strikeR x.rf k n a c).2 → AfterD wa w' S b g u { W with l := W.l.set j { x with rf := (strikeR x.rf k n a c).2 } } from fun w' hA => AfterD.front (Below.refl wa.heap.size wa).drew.drew (t3 _ _ hA))
    have HJ := hid (show ∀ (y : Kr), (W.l.set j y)[j]? = some y from fun y => List.getElem?_set_self hin)
    have HJ2 := hid (show ∀ (y z : Kr), (W.l.set j y).set j z = W.l.set j z from fun y z => List.set_set ..)
    have HSL := hid (show ∀ (y : Kr), (W.l.set j y).length = W.l.length from fun y => by simp)
    clear hR hx t1 t3 hxm hin HRF
    unfold ptr fv er at *
    generalize hS : strikeR x.rf k n a c = R at *
    clear hS
    generalize hnn : W.l.length = nn at *
    clear hnn
    go_enter Tryz.func42, Tryz.ntmps42
    go_wp2_with fail
    rw [← hwa]
    clear hwa
    refine Tl.wp_mix_lit (by kernel_rfl) 13 [6, 7, 8, 9, 10, 11, 12, 13, 14, 15, 16, 17, 18] 49 rfl (by kernel_rfl) (AtW wa.drew) (dsF1 b w.heap.size g nn cap (j : Int) false false) rfl
      ⟨fun a' W' hC hF => ?_, fun a' W' hC hF => ?_, fun a' W' hC hF => ?_, fun a' W' hC hF => ?_, fun a' W' hC hF => ?_, fun a' W' hC hF => ?_, fun a' W' hC hF => ?_, fun a' W' hC hF => ?_, fun a' W' hC hF => ?_, fun a' W' hC hF => ?_, fun a' W' hC hF => ?_, fun a' W' hC hF => ?_, fun a' W' hC hF => ?_, trivial⟩ ?_
    · exact Tl.sm_v 6 _ rfl (Tl.wanted_none rfl) hC rfl (rn_f32_1 rfl ((hF 3 (by decide +kernel)).2 (by decide)))
    · exact Tl.sm_v 7 _ rfl (Tl.wanted_none rfl) hC rfl (rn_load3 rfl ((hF 6 (by decide +kernel)).1 (by decide)) (by rw [show W' = _ from hC]; exact b1))
    · exact Tl.sm_v 8 _ rfl (Tl.wanted_none rfl) hC rfl (rn_lss3 rfl ((hF 7 (by decide +kernel)).1 (by decide)) rfl q0)
    · exact Tl.sm_v 9 _ rfl (Tl.wanted_none rfl) hC rfl (rn_move rfl ((hF 8 (by decide +kernel)).1 (by decide)))
    · exact Tl.sm_v 10 _ rfl (Tl.wanted_is rfl rfl ((hF 9 (by decide +kernel)).1 (by decide))) hC (fun _ => rfl) (rn_f32_1 rfl ((hF 3 (by decide +kernel)).2 (by decide)))
    · exact Tl.sm_v 11 _ rfl (Tl.wanted_is rfl rfl ((hF 9 (by decide +kernel)).1 (by decide))) hC (fun _ => rfl) (rn_load3 rfl (((hF 10 (by decide +kernel)).1 (by decide)) rfl) (by rw [show W' = _ from hC]; exact b1))
    · exact Tl.sm_v 12 _ rfl (Tl.wanted_is rfl rfl ((hF 9 (by decide +kernel)).1 (by decide))) hC (fun _ => rfl) (rn_move rfl ((hF 0 (by decide +kernel)).2 (by decide)))
    · exact Tl.sm_v 13 _ rfl (Tl.wanted_is rfl rfl ((hF 9 (by decide +kernel)).1 (by decide))) hC (fun _ => rfl) (rn_nilCheck rfl (((hF 12 (by decide +kernel)).1 (by decide)) rfl))
    · exact Tl.sm_v 14 _ rfl (Tl.wanted_is rfl rfl ((hF 9 (by decide +kernel)).1 (by decide))) hC (fun _ => rfl) (rn_f70_0 rfl (((hF 13 (by decide +kernel)).1 (by decide)) rfl))
    · exact Tl.sm_v 15 _ rfl (Tl.wanted_is rfl rfl ((hF 9 (by decide +kernel)).1 (by decide))) hC (fun _ => rfl) (rn_load68 rfl (((hF 14 (by decide +kernel)).1 (by decide)) rfl) (by rw [show W' = _ from hC]; exact c0))
    · exact Tl.sm_v 16 _ rfl (Tl.wanted_is rfl rfl ((hF 9 (by decide +kernel)).1 (by decide))) hC (fun _ => rfl) (rn_len68n rfl (((hF 15 (by decide +kernel)).1 (by decide)) rfl))
    · exact Tl.sm_v 17 _ rfl (Tl.wanted_is rfl rfl ((hF 9 (by decide +kernel)).1 (by decide))) hC (fun _ => rfl) (rn_geq3b rfl (((hF 11 (by decide +kernel)).1 (by decide)) rfl) (((hF 16 (by decide +kernel)).1 (by decide)) rfl) q1)
    · exact Tl.sm_v 18 _ rfl (Tl.wanted_none rfl) hC rfl (rn_pickF rfl ((hF 9 (by decide +kernel)).1 (by decide)) (((hF 17 (by decide +kernel)).1 (by decide)) rfl))
    intro v wB hw hv
    obtain rfl : wB = _ := hw
    have v18 : v 18 = .bool (false || false) := hv 18 (by decide)
    clear hv
    simp only [Tl.fill, List.drop_succ_cons, List.drop_zero, wpList]
    simp only [Act.put, List.setIfInBounds_toArray, List.set_cons_succ, List.set_cons_zero, v18, Bool.false_or]
    clear v18
    go_wp2_with fail
    refine Tl.wp_mix_lit (by kernel_rfl) 9 [19, 20, 21, 22, 23, 24, 25, 26, 27] 49 rfl (by kernel_rfl) (AtW wa.drew.drew) (dsF3 b w.heap.size g nn cap j x.blk k (j : Int) n a c) rfl
      ⟨fun a' W' hC hF => ?_, fun a' W' hC hF => ?_, fun a' W' hC hF => ?_, fun a' W' hC hF => ?_, fun a' W' hC hF => ?_, fun a' W' hC hF => ?_, fun a' W' hC hF => ?_, fun a' W' hC hF => ?_, fun a' W' hC hF => ?_, trivial⟩ ?_
    · exact Tl.sm_v 19 _ rfl (Tl.wanted_none rfl) hC rfl (rn_move rfl ((hF 0 (by decide +kernel)).2 (by decide)))
    · exact Tl.sm_v 20 _ rfl (Tl.wanted_none rfl) hC rfl (rn_nilCheck rfl ((hF 19 (by decide +kernel)).1 (by decide)))
    · exact Tl.sm_v 21 _ rfl (Tl.wanted_none rfl) hC rfl (rn_f70_0 rfl ((hF 20 (by decide +kernel)).1 (by decide)))
    · exact Tl.sm_v 22 _ rfl (Tl.wanted_none rfl) hC rfl (rn_load68 rfl ((hF 21 (by decide +kernel)).1 (by decide)) (by rw [show W' = _ from hC]; exact c0))
    · exact Tl.sm_v 23 _ rfl (Tl.wanted_none rfl) hC rfl (rn_f32_1 rfl ((hF 3 (by decide +kernel)).2 (by decide)))
    · exact Tl.sm_v 24 _ rfl (Tl.wanted_none rfl) hC rfl (rn_load3 rfl ((hF 23 (by decide +kernel)).1 (by decide)) (by rw [show W' = _ from hC]; exact b1))
    · exact Tl.sm_v 25 _ rfl (Tl.wanted_none rfl) hC rfl (rn_ix68 rfl ((hF 22 (by decide +kernel)).1 (by decide)) ((hF 24 (by decide +kernel)).1 (by decide)) hjn)
    · exact Tl.sm_v 26 _ rfl (Tl.wanted_none rfl) hC rfl (rn_load71 rfl ((hF 25 (by decide +kernel)).1 (by decide)) (by rw [show W' = _ from hC]; exact k0))
    · exact Tl.sm_v 27 _ rfl (Tl.wanted_none rfl) hC rfl (rn_load32 rfl ((hF 3 (by decide +kernel)).2 (by decide)) (by rw [show W' = _ from hC]; exact b0) (by rw [show W' = _ from hC]; exact b1) (by rw [show W' = _ from hC]; exact b2) (by rw [show W' = _ from hC]; exact b3) (by rw [show W' = _ from hC]; exact b4))
    intro v wB hw hv
    obtain rfl : wB = _ := hw
    have v26 : v 26 = .pointer (some ⟨x.blk, 0, none⟩) := hv 26 (by decide)
    have v27 : v 27 = .agg #[.int .u8 k, .int .i64 (j : Int), .int .i64 n, .int .i64 a, .int .i64 c] := hv 27 (by decide)
    clear hv k0 b0 b1 b2 b3 b4 c0 c1
    simp only [Tl.fill, List.drop_succ_cons, List.drop_zero]
    simp only [Act.put, List.setIfInBounds_toArray, List.set_cons_succ, List.set_cons_zero, v26, v27]
    clear v26 v27
    go_wp2_with fail
    refine HST.mono ?_
    clear HST
    rintro z w2 ⟨rfl, hA⟩
    have HA2 := hid (HFX.out _ hA)
    have hbx := HA2.out.has HX.out HNS.out
    have b0 : w2.cell? ⟨w.heap.size, 0, none⟩ = some (.int .u8 k) := hbx.cell 0
    have b1 : w2.cell? ⟨w.heap.size, 1, none⟩ = some (.int .i64 (j : Int)) := hbx.cell 1
    clear hA HFX hbx
    have HNO := hid (show (decide (R.1 = 0) && (decide (k ≠ 5) && decide (k ≠ 7))) = false → AfterD w w2 S b g u { W with l := W.l.set j { x with rf := R.2, sus := x.sus || (decide (R.1 = 0) && (decide (k ≠ 5) && decide (k ≠ 7))) } } from fun e => by
      rw [e, Bool.or_false]
      exact AfterD.front HB.out HA2.out)
    by_cases hz : R.1 = 0
    · have q2 : (R.1 == 0) = true := by rw [hz]; rfl
      by_cases h5 : k = 5
      · have q5 : (k != 5) = false := by rw [h5]; rfl
        have HFI := hid (HNO.out (by simp [h5]))
        clear hz h5 HNO HA2 b1
        go_wp2_with fail
        go_ret
        exact ⟨rfl, HFI.out⟩
      · have q5 : (k != 5) = true := bne_iff_ne.2 h5
        by_cases h7 : k = 7
        · have q7 : (k != 7) = false := by rw [h7]; rfl
          have HFI := hid (HNO.out (by simp [h7]))
          clear hz h5 h7 HNO HA2 b1
          go_wp2_with fail
          go_ret
          exact ⟨rfl, HFI.out⟩
        · have q7 : (k != 7) = true := bne_iff_ne.2 h7
          obtain ⟨S3, i3, s3, o3⟩ := HA2.out
          obtain ⟨_, k1, kf⟩ := i3.kept (HJ.out _)
          have f1 := kf j
          obtain ⟨cap2, cup2, ⟨_, c1, _, _, _⟩, _, _, _⟩ := i3.cells
          rw [HSL.out] at c1
          have HFI := hid (show AfterD w (w2.drew.setCell ⟨u, j, none⟩ (.bool true)) S b g u { W with l := W.l.set j { x with rf := R.2, sus := x.sus || (decide (R.1 = 0) && (decide (k ≠ 5) && decide (k ≠ 7))) } } from by
            have := AfterD.front HB.out (AfterD.trans s3 o3 (AfterD.front (Below.refl w2.heap.size w2).drew (AfterD.sus (i3.below (Below.refl w2.heap.size w2).drew) (HJ.out _) true)))
            simp only [HJ2.out] at this
            rw [show (x.sus || (decide (R.1 = 0) && (decide (k ≠ 5) && decide (k ≠ 7)))) = true from by simp [hz, h5, h7]]
            exact this)
          clear hz h5 h7 HNO HA2 i3 s3 o3 kf
          go_wp2_with fail
          refine Tl.wp_mix_lit (by kernel_rfl) 7 [41, 42, 43, 44, 45, 46, 47] 49 rfl (by kernel_rfl) (AtW w2.drew) (dsF5 b w.heap.size u nn cup2 j) rfl
            ⟨fun a' W' hC hF => ?_, fun a' W' hC hF => ?_, fun a' W' hC hF => ?_, fun a' W' hC hF => ?_, fun a' W' hC hF => ?_, fun a' W' hC hF => ?_, fun a' W' hC hF => ?_, trivial⟩ ?_
          · exact Tl.sm_v 41 _ rfl (Tl.wanted_none rfl) hC rfl (rn_move rfl ((hF 0 (by decide +kernel)).2 (by decide)))
          · exact Tl.sm_v 42 _ rfl (Tl.wanted_none rfl) hC rfl (rn_nilCheck rfl ((hF 41 (by decide +kernel)).1 (by decide)))
          · exact Tl.sm_v 43 _ rfl (Tl.wanted_none rfl) hC rfl (rn_f70_1 rfl ((hF 42 (by decide +kernel)).1 (by decide)))
          · exact Tl.sm_v 44 _ rfl (Tl.wanted_none rfl) hC rfl (rn_load67n rfl ((hF 43 (by decide +kernel)).1 (by decide)) (by rw [show W' = _ from hC]; exact c1))
          · exact Tl.sm_v 45 _ rfl (Tl.wanted_none rfl) hC rfl (rn_f32_1 rfl ((hF 3 (by decide +kernel)).2 (by decide)))
          · exact Tl.sm_v 46 _ rfl (Tl.wanted_none rfl) hC rfl (rn_load3 rfl ((hF 45 (by decide +kernel)).1 (by decide)) (by rw [show W' = _ from hC]; exact b1))
          · exact Tl.sm_v 47 _ rfl (Tl.wanted_none rfl) hC rfl (rn_ix67 rfl ((hF 44 (by decide +kernel)).1 (by decide)) ((hF 46 (by decide +kernel)).1 (by decide)) hjn)
          intro v wB hw hv
          obtain rfl : wB = _ := hw
          have v47 : v 47 = .pointer (some ⟨u, j, none⟩) := hv 47 (by decide)
          clear hv
          simp only [Tl.fill, List.drop_succ_cons, List.drop_zero]
          simp only [Act.put, List.setIfInBounds_toArray, List.set_cons_succ, List.set_cons_zero, v47]
          clear v47
          go_wp2_with fail
          go_ret
          exact ⟨rfl, HFI.out⟩
    · have q2 : (R.1 == 0) = false := beq_eq_false_iff_ne.2 hz
      have HFI := hid (HNO.out (by simp [hz]))
      clear hz HNO HA2
      go_wp2_with fail
      go_ret
      exact ⟨rfl, HFI.out⟩
  · rw [if_neg (by omega)]
    have q1 : decide ((W.l.length : Int) ≤ (j : Int)) = true := decide_eq_true (by omega)
    clear hin hR
    generalize hnn : W.l.length = nn at *
    unfold ptr
    go_enter Tryz.func42, Tryz.ntmps42
    go_wp2_with fail
    rw [← hwa]
    clear hwa
    refine Tl.wp_mix_lit (by kernel_rfl) 13 [6, 7, 8, 9, 10, 11, 12, 13, 14, 15, 16, 17, 18] 49 rfl (by kernel_rfl) (AtW wa.drew) (dsF1 b w.heap.size g nn cap (j : Int) false true) rfl
      ⟨fun a' W' hC hF => ?_, fun a' W' hC hF => ?_, fun a' W' hC hF => ?_, fun a' W' hC hF => ?_, fun a' W' hC hF => ?_, fun a' W' hC hF => ?_, fun a' W' hC hF => ?_, fun a' W' hC hF => ?_, fun a' W' hC hF => ?_, fun a' W' hC hF => ?_, fun a' W' hC hF => ?_, fun a' W' hC hF => ?_, fun a' W' hC hF => ?_, trivial⟩ ?_
    · exact Tl.sm_v 6 _ rfl (Tl.wanted_none rfl) hC rfl (rn_f32_1 rfl ((hF 3 (by decide +kernel)).2 (by decide)))
    · exact Tl.sm_v 7 _ rfl (Tl.wanted_none rfl) hC rfl (rn_load3 rfl ((hF 6 (by decide +kernel)).1 (by decide)) (by rw [show W' = _ from hC]; exact b1))
    · exact Tl.sm_v 8 _ rfl (Tl.wanted_none rfl) hC rfl (rn_lss3 rfl ((hF 7 (by decide +kernel)).1 (by decide)) rfl q0)
    · exact Tl.sm_v 9 _ rfl (Tl.wanted_none rfl) hC rfl (rn_move rfl ((hF 8 (by decide +kernel)).1 (by decide)))
    · exact Tl.sm_v 10 _ rfl (Tl.wanted_is rfl rfl ((hF 9 (by decide +kernel)).1 (by decide))) hC (fun _ => rfl) (rn_f32_1 rfl ((hF 3 (by decide +kernel)).2 (by decide)))
    · exact Tl.sm_v 11 _ rfl (Tl.wanted_is rfl rfl ((hF 9 (by decide +kernel)).1 (by decide))) hC (fun _ => rfl) (rn_load3 rfl (((hF 10 (by decide +kernel)).1 (by decide)) rfl) (by rw [show W' = _ from hC]; exact b1))
    · exact Tl.sm_v 12 _ rfl (Tl.wanted_is rfl rfl ((hF 9 (by decide +kernel)).1 (by decide))) hC (fun _ => rfl) (rn_move rfl ((hF 0 (by decide +kernel)).2 (by decide)))
    · exact Tl.sm_v 13 _ rfl (Tl.wanted_is rfl rfl ((hF 9 (by decide +kernel)).1 (by decide))) hC (fun _ => rfl) (rn_nilCheck rfl (((hF 12 (by decide +kernel)).1 (by decide)) rfl))
    · exact Tl.sm_v 14 _ rfl (Tl.wanted_is rfl rfl ((hF 9 (by decide +kernel)).1 (by decide))) hC (fun _ => rfl) (rn_f70_0 rfl (((hF 13 (by decide +kernel)).1 (by decide)) rfl))
    · exact Tl.sm_v 15 _ rfl (Tl.wanted_is rfl rfl ((hF 9 (by decide +kernel)).1 (by decide))) hC (fun _ => rfl) (rn_load68 rfl (((hF 14 (by decide +kernel)).1 (by decide)) rfl) (by rw [show W' = _ from hC]; exact c0))
    · exact Tl.sm_v 16 _ rfl (Tl.wanted_is rfl rfl ((hF 9 (by decide +kernel)).1 (by decide))) hC (fun _ => rfl) (rn_len68n rfl (((hF 15 (by decide +kernel)).1 (by decide)) rfl))
    · exact Tl.sm_v 17 _ rfl (Tl.wanted_is rfl rfl ((hF 9 (by decide +kernel)).1 (by decide))) hC (fun _ => rfl) (rn_geq3b rfl (((hF 11 (by decide +kernel)).1 (by decide)) rfl) (((hF 16 (by decide +kernel)).1 (by decide)) rfl) q1)
    · exact Tl.sm_v 18 _ rfl (Tl.wanted_none rfl) hC rfl (rn_pickF rfl ((hF 9 (by decide +kernel)).1 (by decide)) (((hF 17 (by decide +kernel)).1 (by decide)) rfl))
    intro v wB hw hv
    obtain rfl : wB = _ := hw
    have v18 : v 18 = .bool (false || true) := hv 18 (by decide)
    clear hv
    simp only [Tl.fill, List.drop_succ_cons, List.drop_zero, wpList]
    simp only [Act.put, List.setIfInBounds_toArray, List.set_cons_succ, List.set_cons_zero, v18, Bool.false_or]
    clear v18
    go_wp2_with fail
    go_ret
    exact ⟨rfl, HRF.out.next (Below.refl _ _).drew⟩
end Go.Proofs.YtgdiaflikfdnaaaGreat
/- The document's store: Copy. -/
namespace Go.Proofs.YtgdiaflikfdnaaaGreat
open Go.RowKit Go.Maps
variable {w w' w1 w2 : World} {S : Nat → Prop} {b : Nat} {r : Rf}
theorem rn_app0w {g c : Nat} {A : Option Addr} {ty : TypeId} : (Builtin.append_ #[102, 102] ty #[.slice (some ⟨g, 0, none⟩) 0 0, .slice A 0 c]).run Tryz.prog w = .ok (.slice (some ⟨g, 0, none⟩) 0 0) w := by
  cases A <;> simp [Builtin.append_, go_sem]
theorem wpList_app102 {ops : Array Oper} {rest : List Oper} {o : Oper} {a : Act} {w w' : World} {Q : Exit → Act → World → Prop} {u v r : Value} (hgd : o.guard = none) (s x : Operand) (ho : o.op = .call { callee := .builtin .append, args := #[s, x], argTypes := #[102, 102] }) (hs : a.eval s = u) (hx : a.eval x = v) (hr : (Builtin.append_ #[102, 102] o.type #[u, v]).run Tryz.prog w = .ok r w') (h : wpList Tryz.prog ops Q rest (a.put o.dst r) w') : wpList Tryz.prog ops Q (o :: rest) a w := by
  refine wpList_plain hgd fun K hK => ?_
  unfold Oper.wp execOp
  simp only [ho, resolve, invoke, builtin, Sem.run_bind, Sem.run_pure, Result.andThen_ok, List.map_toArray, List.map_cons, List.map_nil, hs, hx, hr]
  exact hK _ _ h
theorem rcells_all (l : List Rw) : ∀ u ∈ l.flatMap rcells, u.oneCell' = true := fun u hu => by
  obtain ⟨p, _, hp⟩ := List.mem_flatMap.1 hu
  exact rcells_one p u hp
/-- writes, put onto nothing -/
theorem app_writes {W0 : World} {v : Value} {l : List Rw} (h : W0.ownsRow 0 117 3 v l.length (l.flatMap rcells)) (hl : l.length ≤ 1000000) : ∃ g cap W', (Builtin.append_ #[102, 102] 102 #[.slice (some ⟨W0.heap.size, 0, none⟩) 0 0, v]).run Tryz.prog (W0.alloc (.cells #[] 117)) = .ok (.slice (some ⟨g, 0, none⟩) l.length cap) W' ∧ W'.ownsRow W0.heap.size 117 3 (.slice (some ⟨g, 0, none⟩) l.length cap) l.length (l.flatMap rcells) ∧ Below W0.heap.size W0 W' := by
  have hr0 : (W0.alloc (.cells #[] 117)).ownsRow W0.heap.size 117 3 (.slice (some ⟨W0.heap.size, 0, none⟩) 0 0) 0 [] := ⟨rfl, .inr ⟨W0.heap.size, 0, #[], rfl, Nat.le_refl _, Has.new _ _ _ _ rfl, Nat.le_refl _, by unfold maxLen; omega, rfl, rfl⟩⟩
  by_cases h0 : l.length = 0
  · have e : l = [] := List.eq_nil_of_length_eq_zero h0
    subst e
    obtain ⟨A, c, rfl⟩ := row_slice h
    exact ⟨W0.heap.size, 0, _, rn_app0w, hr0, boxed _ _⟩
  · rcases row_form h with ⟨_, e, _⟩ | ⟨g, cap, rfl, hg, _, _, _, hc⟩
    · omega
    obtain ⟨g', cap', w', r1, r2, r3, _, _⟩ := run_app2 el90 (W0.alloc (.cells #[] 117)) 102 W0.heap.size _ 0 [] hr0 ⟨g, 0, none⟩ l.length cap (l.flatMap rcells) (by omega) h.1 (fun j u hu => by
      have e : (⟨g, 0, none⟩ : Addr).add j = ⟨g, j, none⟩ := by unfold Addr.add; split <;> simp_all
      rw [e, (boxed W0 (.cells #[] 117)).cell (p := ⟨g, j, none⟩) hg]
      exact hc j u hu) (rcells_all l) (by omega) (by simp)
    rw [Nat.zero_add] at r1 r2
    rw [List.nil_append] at r2
    exact ⟨g', cap', w', r1, r2, (boxed W0 _).grown r3 (by simp) fun k hk => by simp [Value.ownBlock] at hk; omega⟩
set_option maxHeartbeats 2000000 in
set_option maxRecDepth 20000 in
theorem refCopy_any (h : IsRf w S b r) (hN : r.good.length + r.writes.length ≤ 1000000) : Calls Tryz.prog 30 #[ptr b] w fun e w' => ∃ b', e = .returned (ptr b') ∧ ∃ S', IsRf w' S' b' r ∧ (∀ i, S' i → w.heap.size ≤ i) ∧ Below w.heap.size w w' := by
  obtain ⟨gv, wv, h1, hg, hwr, h4, h5, h6, h7⟩ := h
  have hs0 : (store ⟨w.heap.size, 0, none⟩ gv).run Tryz.prog (w.alloc (.cells #[.slice none 0 0, .slice none 0 0, .bool false, .int .i64 0, .int .i64 0] 104)) = .ok () (w.alloc (.cells #[gv, .slice none 0 0, .bool false, .int .i64 0, .int .i64 0] 104)) := by
    obtain ⟨A, c, rfl⟩ := row_slice hg
    simp [go_sem]
  have hs1 : (store ⟨w.heap.size, 1, none⟩ wv).run Tryz.prog (w.alloc (.cells #[gv, .slice none 0 0, .bool false, .int .i64 0, .int .i64 0] 104)) = .ok () (w.alloc (.cells #[gv, wv, .bool false, .int .i64 0, .int .i64 0] 104)) := by
    obtain ⟨A, c, rfl⟩ := row_slice hwr
    simp [go_sem]
  have hbl := h7 b h4
  have c0 : w.cell? ⟨b, 0, none⟩ = some gv := h1.cell 0
  have c1 : w.cell? ⟨b, 1, none⟩ = some wv := h1.cell 1
  have c2 : w.cell? ⟨b, 2, none⟩ = some (.bool r.down) := h1.cell 2
  have c3 : w.cell? ⟨b, 3, none⟩ = some (.int .i64 (less1 r.ahead)) := h1.cell 3
  have c4 : w.cell? ⟨b, 4, none⟩ = some (.int .i64 (less1 r.room)) := h1.cell 4
  obtain ⟨W1, hW1⟩ : ∃ W1, W1 = w.alloc (.cells (rfcells gv wv r) 104) := ⟨_, rfl⟩
  have hb1 : Below w.heap.size w W1 := by rw [hW1]; exact boxed _ _
  have hx1 : Has W1 w.heap.size (rfcells gv wv r) 104 := by rw [hW1]; exact Has.new _ _ _ _ rfl
  obtain ⟨g4, cap4, W4, s1, s2, s3, s4, s5⟩ := app_part (ty := 55) (W0 := W1) (W := W1.alloc (.cells #[] 35)) rfl (rowz_nil W1 (Nat.le_refl _)) (part_row (row_below hg hb1) rfl) (boxed W1 _) (by omega)
  rw [Nat.zero_add] at s1 s2
  rw [List.nil_append] at s2
  have hb4 : Below W1.heap.size W1 W4 := below_grown (boxed W1 (.cells #[] 35)) s3 (Nat.le_refl _) (by simp)
  have hx4 := hx1.below hb4 hx1.lt
  obtain ⟨W5, hW5⟩ : ∃ W5, W5 = W4.setCell ⟨w.heap.size, 0, none⟩ (.slice (some ⟨g4, 0, none⟩) r.good.length cap4) := ⟨_, rfl⟩
  have hw5lt : w.heap.size < W1.heap.size := hx1.lt
  have hg4n : W1.heap.size ≤ g4 := (s2.1.lt g4 rfl).1
  have hb5 : Below w.heap.size w W5 := by rw [hW5]; exact (hb1.trans (hb4.mono hb1.size)).setCell (p := ⟨w.heap.size, 0, none⟩) (Nat.le_refl _) _
  have hx5 : Has W5 w.heap.size (rfcells (.slice (some ⟨g4, 0, none⟩) r.good.length cap4) wv r) 104 := by rw [hW5]; exact hx4.set 0 _
  have hr5 : W5.ownsRow W1.heap.size 35 2 (.slice (some ⟨g4, 0, none⟩) r.good.length cap4) r.good.length (objCells r.good) := by rw [hW5]; exact row_setb s2.1 hx4 (by decide) 0 _
  obtain ⟨g6, cap6, W6, q1, q2, q3⟩ := app_writes (row_below hwr hb5) (by omega)
  have hx6 := hx5.below q3 hx5.lt
  have hr6 := row_below hr5 q3
  have HF := hid (show IsRf (W6.setCell ⟨w.heap.size, 1, none⟩ (.slice (some ⟨g6, 0, none⟩) r.writes.length cap6)) (fun i => i = w.heap.size ∨ i = g4 ∨ i = g6) w.heap.size r from by
    refine ⟨_, _, hx6.set 1 _, row_setb (row_base hr6 (Nat.zero_le _)) hx6 (by decide) 1 _, row_setb (row_base q2 (Nat.zero_le _)) hx6 (by decide) 1 _, .inl rfl, fun k hk => by simp [Value.ownBlock] at hk; subst hk; exact .inr (.inl rfl), fun k hk => by simp [Value.ownBlock] at hk; subst hk; exact .inr (.inr rfl), fun i hi => ?_⟩
    have e1 := hx6.lt
    have e2 := (hr6.lt g4 rfl).2
    have e3 := (q2.lt g6 rfl).2
    simp only [World.setCell, Array.size_modify]
    rcases hi with rfl | rfl | rfl <;> assumption)
  have HS := hid (show ∀ i, (i = w.heap.size ∨ i = g4 ∨ i = g6) → w.heap.size ≤ i from fun i hi => by
    have e3 := (q2.lt g6 rfl).1
    have e4 := hb5.size
    rcases hi with rfl | rfl | rfl <;> omega)
  have HB := hid (show Below w.heap.size w (W6.setCell ⟨w.heap.size, 1, none⟩ (.slice (some ⟨g6, 0, none⟩) r.writes.length cap6)) from (hb5.trans (q3.mono hb5.size)).setCell (p := ⟨w.heap.size, 1, none⟩) (Nat.le_refl _) _)
  have k0 : (W1.alloc (.cells #[] 35)).cell? ⟨b, 0, none⟩ = some gv := by
    rw [(hb1.trans ((boxed W1 (.cells #[] 35)).mono hb1.size)).cell (p := ⟨b, 0, none⟩) hbl]; exact c0
  have k1 : (W5.alloc (.cells #[] 117)).cell? ⟨b, 1, none⟩ = some wv := by
    rw [(hb5.trans ((boxed W5 (.cells #[] 117)).mono hb5.size)).cell (p := ⟨b, 1, none⟩) hbl]; exact c1
  have m0 : W4.cell? ⟨w.heap.size, 0, none⟩ = some gv := hx4.cell 0
  have m1 := hx4.frozen 0
  have m2 : W6.cell? ⟨w.heap.size, 1, none⟩ = some wv := hx6.cell 1
  have m3 := hx6.frozen 1
  have z1 : W1.heap.size = w.heap.size + 1 := by rw [hW1]; simp
  have z5 : W5.heap.size = W4.heap.size := by rw [hW5]; simp [World.setCell]
  rw [z1] at s1
  rw [z5] at q1
  clear z1 z5
  subst hW1
  subst hW5
  unfold rfcells at *
  clear h1 hg hwr h4 h5 h6 h7 hb1 hx1 s2 s3 s4 s5 hb4 hx4 hb5 hx5 hr5 q2 q3 hx6 hr6
  unfold ptr
  generalize r.good.length = n1 at *
  generalize r.writes.length = n2 at *
  clear hbl hg4n hw5lt hN
  go_enter Tryz.func30, Tryz.ntmps30
  go_wp2_with (at_builtin; first | refine wpList_app45 rfl _ _ rfl rfl rfl s1 ?_ | refine wpList_app102 rfl _ _ rfl rfl rfl q1 ?_)
  go_ret
  exact ⟨w.heap.size, rfl, _, HF.out, HS.out, HB.out⟩
end Go.Proofs.YtgdiaflikfdnaaaGreat
/- The document's world: New. -/
namespace Go.Proofs.YtgdiaflikfdnaaaGreat
open Go.RowKit Go.Maps
variable {w w' w1 w2 : World} {S : Nat → Prop} {b g u : Nat} {W W' : Rd}
theorem el71 : El 68 71 1 := el_of (z := .pointer none) (bytes := 8) Tryz.underlying68 (by kernel_rfl) rfl (by decide) (by decide)
theorem pcells_len (l : List Kr) : (pcells l).length = l.length := by unfold pcells; simp
/-- a world of the document in the making: its first stores stand -/
def PreRd (w : World) (S : Nat → Prop) (b u n cup : Nat) (rest : Array Value) (us : List Value) (l : List Kr) : Prop := ∃ (sv : Value) (F : Nat → Nat → Prop), Has w b (#[sv, .slice (some ⟨u, 0, none⟩) n cup] ++ rest) 70 ∧ w.ownsRow 0 71 1 sv l.length (pcells l) ∧ w.ownsRow 0 4 1 (.slice (some ⟨u, 0, none⟩) n cup) n us ∧ (∀ (j : Nat) (x : Kr), l[j]? = some x → IsRf w (F j) x.blk x.rf ∧ (∀ i, F j i → S i) ∧ ¬ F j b ∧ (∀ k, sv.ownBlock = some k → ¬ F j k) ∧ ¬ F j u) ∧ (∀ j k, j < l.length → k < l.length → j ≠ k → ∀ i, F j i → ¬ F k i) ∧ S b ∧ (∀ k, sv.ownBlock = some k → S k) ∧ S u ∧ (∀ i, S i → i < w.heap.size)
variable {n cup : Nat} {rest : Array Value} {us : List Value} {l : List Kr}
theorem PreRd.done (h : PreRd w S b u n cup rest us l) {W : Rd} (hl : W.l = l) (hn : l.length = n) (h0 : 0 < n) (hu : us = ucells l) (hr : ∀ sv, (#[sv, .slice (some ⟨u, 0, none⟩) n cup] ++ rest : Array Value) = rdcells sv (.slice (some ⟨u, 0, none⟩) n cup) W) : ∃ g, IsRd w S b g u W := by
  obtain ⟨sv, F, h1, h2, h3, h4, h5, h6, h7, h8, h9⟩ := h
  rw [hr sv] at h1
  subst hn
  subst hl
  rcases row_form h2 with ⟨_, e, _⟩ | ⟨g, cap, rfl, _⟩
  · omega
  · refine ⟨g, cap, cup, F, h1, h2, by rw [← hu]; exact h3, fun j x hj => ?_, h5, h6, h7 g rfl, h8, h9⟩
    obtain ⟨k1, k2, k3, k4, k5⟩ := h4 j x hj
    exact ⟨k1, k2, k3, k4 g rfl, k5⟩
/-- one more store: the list of pointers is another one, or the old one with more behind it -/
theorem PreRd.push (h : PreRd w S b u n cup rest us l) {sv : Value} (hsv : w.cell? ⟨b, 0, none⟩ = some sv) {T : Nat → Prop} {q g' cap' : Nat} {rf : Rf} {sus : Bool} (ho : Only (fun i => sv.ownBlock = some i) w w1) (ht : IsRf w1 T q rf) (hT : ∀ i, T i → w.heap.size ≤ i) (hTg : ¬ T g') (hr : w1.ownsRow 0 71 1 (.slice (some ⟨g', 0, none⟩) (l.length + 1) cap') (l.length + 1) (pcells l ++ [ptr q])) (hg : sv.ownBlock = some g' ∨ w.heap.size ≤ g') : PreRd (w1.setCell ⟨b, 0, none⟩ (.slice (some ⟨g', 0, none⟩) (l.length + 1) cap')) (fun i => S i ∨ T i ∨ i = g') b u n cup rest us (l ++ [⟨q, rf, sus⟩]) := by
  obtain ⟨sv', F, h1, h2, h3, h4, h5, h6, h7, h8, h9⟩ := h
  have esv : sv' = sv := by
    have := h1.cell 0
    rw [hsv, Array.getElem?_append_left (by simp)] at this
    simpa using this.symm
  subst esv
  have hbl := h9 b h6
  have hul := h9 u h8
  have hbs : ¬ sv'.ownBlock = some b := fun e => row_ne h2 h1 (by decide) b e rfl
  have hus : ¬ sv'.ownBlock = some u := fun e => rows_ne h2 h3 (by decide) u e rfl
  have h1' := ho.has h1 hbs
  have h3' : w1.ownsRow 0 4 1 (.slice (some ⟨u, 0, none⟩) n cup) n us := row_block h3 fun k hk hl => ho.block k hl (by simp [Value.ownBlock] at hk; subst hk; exact hus)
  have ho2 : Only (fun i => i = b) w1 (w1.setCell ⟨b, 0, none⟩ (.slice (some ⟨g', 0, none⟩) (l.length + 1) cap')) := (Only.refl (fun i => i = b) w1).set (p := ⟨b, 0, none⟩) (.inl rfl) _
  have hTb := ht.bound
  have hg'S : ∀ j x, l[j]? = some x → ¬ F j g' := fun j x hj hF => by
    rcases hg with e | e
    · exact (h4 j x hj).2.2.2.1 g' e hF
    · have := h9 g' ((h4 j x hj).2.1 g' hF); omega
  refine ⟨.slice (some ⟨g', 0, none⟩) (l.length + 1) cap', fun k => if k = l.length then T else F k, ?_, ?_, row_setb h3' h1' (by decide) 0 _, fun j x hj => ?_, fun j k hj hk hjk i hi hi' => ?_, .inl h6, fun k hk => .inr (.inr (by simp [Value.ownBlock] at hk; exact hk.symm)), .inl h8, fun i hi => ?_⟩
  · have := h1'.set 0 (.slice (some ⟨g', 0, none⟩) (l.length + 1) cap')
    simpa using this
  · have e : pcells (l ++ [(⟨q, rf, sus⟩ : Kr)]) = pcells l ++ [ptr q] := by unfold pcells; simp
    rw [e, List.length_append, List.length_singleton]
    exact row_setb hr h1' (by decide) 0 _
  · by_cases e : j = l.length
    · subst e
      simp only [List.getElem?_concat_length, Option.some.injEq] at hj
      subst hj
      simp only [if_true]
      refine ⟨ht.only ho2 fun i hi e => ?_, fun i hi => .inr (.inl hi), fun hb' => ?_, fun k hk hTk => ?_, fun hu' => ?_⟩
      · have := hT i hi; subst e; omega
      · have := hT b hb'; omega
      · simp [Value.ownBlock] at hk; subst hk; exact hTg hTk
      · have := hT u hu'; omega
    · have hjl : j < l.length := by
        have := (List.getElem?_eq_some_iff.1 hj).1
        simp at this; omega
      rw [List.getElem?_append_left hjl] at hj
      simp only [if_neg e]
      obtain ⟨k1, k2, k3, k4, k5⟩ := h4 j x hj
      exact ⟨(k1.only ho fun i hi e => k4 i e hi).only ho2 fun i hi e => k3 (e ▸ hi), fun i hi => .inl (k2 i hi), k3, fun k hk hF => by simp [Value.ownBlock] at hk; subst hk; exact hg'S j x hj hF, k5⟩
  · simp only [List.length_append, List.length_singleton] at hj hk
    have new : ∀ m, m < l.length → F m i → T i → False := fun m hm a c => by
      obtain ⟨y, hy⟩ : ∃ y, l[m]? = some y := ⟨_, List.getElem?_eq_getElem hm⟩
      have := h9 i ((h4 m y hy).2.1 i a)
      have := hT i c
      omega
    by_cases ej : j = l.length
    · subst ej
      simp only [if_true] at hi
      simp only [if_neg (Ne.symm hjk)] at hi'
      exact new k (by omega) hi' hi
    · simp only [if_neg ej] at hi
      by_cases ek : k = l.length
      · subst ek
        simp only [if_true] at hi'
        exact new j (by omega) hi hi'
      · simp only [if_neg ek] at hi'
        exact h5 j k (by omega) (by omega) hjk i hi hi'
  · have e : (w1.setCell ⟨b, 0, none⟩ (.slice (some ⟨g', 0, none⟩) (l.length + 1) cap')).heap.size = w1.heap.size := by simp [World.setCell]
    rw [e]
    rcases hi with hi | hi | hi
    · exact Nat.lt_of_lt_of_le (h9 i hi) ho.size
    · exact hTb i hi
    · subst hi; exact (hr.lt i rfl).2
section
variable {ev : Operand → Value} {o : Oper} {w : World} {x y : Operand}
theorem enter27 (args : Array Value) : (callFunc 27 args).run Tryz.prog w = .ok (.enter 27 args) w := by kernel_rfl
theorem rn_bs68p {q : Nat} (ho : o.op = .buildSlice 68 1 #[(0, x)]) (hx : ev x = ptr q) : (execOp ev o).run Tryz.prog w = .ok (.value (.slice (some ⟨w.heap.size, 0, none⟩) 1 1)) (w.alloc (.cells #[ptr q] 71)) := by
  unfold ptr at hx ⊢
  simp [execOp, ho, hx, go_sem]
theorem rn_app68 {w' : World} {u v r : Value} (ho : o.op = .call { callee := .builtin .append, args := #[x, y], argTypes := #[68, 68] }) (hx : ev x = u) (hy : ev y = v) (hr : (Builtin.append_ #[68, 68] o.type #[u, v]).run Tryz.prog w = .ok r w') : (execOp ev o).run Tryz.prog w = .ok (.value r) w' := by
  unfold execOp
  simp only [ho, resolve, invoke, builtin, Sem.run_bind, Sem.run_pure, Result.andThen_ok, List.map_toArray, List.map_cons, List.map_nil, hx, hy, hr]
end
/-- the row sv may have been appended to; nothing else of W0 has turned -/
def AppP (W0 : World) (sv : Value) (k : Nat) (xs : List Value) (W : World) : Prop := Only (fun i => sv.ownBlock = some i) W0 W ∧ W.ownsRow 0 71 1 sv k xs
theorem AppP.below {W0 W W1 : World} {sv : Value} {k : Nat} {xs : List Value} (h : AppP W0 sv k xs W) (hb : Below W.heap.size W W1) : AppP W0 sv k xs W1 := ⟨h.1.next hb, row_below h.2 hb⟩
def npF (b : Nat) (sv : Value) (k : Nat) (xs : List Value) (Z : Nat) (i : Nat) (v : Value) (W : World) : Prop := match i with
  | 21 => v = .pointer (some ⟨b, 0, none⟩) | 22 => v = .pointer (some ⟨b, 0, none⟩) | 23 => v = .pointer (some ⟨b, 0, none⟩) | 24 => v = .pointer (some ⟨b, 0, none⟩)
  | 25 => v = sv
  | 26 => ∃ (q : Nat) (T : Nat → Prop), v = ptr q ∧ IsRf W T q rf0 ∧ ∀ i, T i → Z ≤ i
  | 27 => ∃ (ga q : Nat) (T : Nat → Prop), v = .slice (some ⟨ga, 0, none⟩) 1 1 ∧ Z ≤ ga ∧ Has W ga #[ptr q] 71 ∧ IsRf W T q rf0 ∧ (∀ i, T i → Z ≤ i) ∧ ¬ T ga
  | 28 => ∃ (g' cap' q : Nat) (T : Nat → Prop), v = .slice (some ⟨g', 0, none⟩) (k + 1) cap' ∧ W.ownsRow 0 71 1 (.slice (some ⟨g', 0, none⟩) (k + 1) cap') (k + 1) (xs ++ [ptr q]) ∧ (sv.ownBlock = some g' ∨ Z ≤ g') ∧ IsRf W T q rf0 ∧ (∀ i, T i → Z ≤ i) ∧ ¬ T g'
  | _ => True
theorem npF_below {b : Nat} {sv : Value} {k : Nat} {xs : List Value} {Z i : Nat} {v : Value} {W W1 : World} (h : npF b sv k xs Z i v W) (hb : Below W.heap.size W W1) : npF b sv k xs Z i v W1 := by
  unfold npF at h ⊢
  split at h
  all_goals first
    | exact h
    | (obtain ⟨q, T, e1, e2, e3⟩ := h; exact ⟨q, T, e1, e2.below hb, e3⟩)
    | (obtain ⟨ga, q, T, e1, e2, e3, e4, e5, e6⟩ := h; exact ⟨ga, q, T, e1, e2, e3.below hb e3.lt, e4.below hb, e5, e6⟩)
    | (obtain ⟨g', cap', q, T, e1, e2, e3, e4, e5, e6⟩ := h; exact ⟨g', cap', q, T, e1, row_below e2 hb, e3, e4.below hb, e5, e6⟩)
theorem npF_app {b : Nat} {sv : Value} {k : Nat} {xs : List Value} {Z i : Nat} {v : Value} {W W1 : World} (h : npF b sv k xs Z i v W) (hi : i ≠ 28) (hg : W.grownBy W1 sv.ownBlock) (hz : ∀ k, sv.ownBlock = some k → k < Z) : npF b sv k xs Z i v W1 := by
  have ho : Only (fun i => sv.ownBlock = some i) W W1 := Only.of_grown hg (fun k h => h)
  unfold npF at h ⊢
  split at h
  all_goals first
    | exact h
    | exact absurd rfl hi
    | (obtain ⟨q, T, e1, e2, e3⟩ := h; exact ⟨q, T, e1, e2.only ho (fun i hi e => by have := hz i e; have := e3 i hi; omega), e3⟩)
    | (obtain ⟨ga, q, T, e1, e2, e3, e4, e5, e6⟩ := h; exact ⟨ga, q, T, e1, e2, ho.has e3 (fun e => by have := hz ga e; omega), e4.only ho (fun i hi e => by have := hz i e; have := e5 i hi; omega), e5, e6⟩)
theorem makes_bools (n : Nat) (hn : n ≤ 1000000) (w : World) : (Instr.makeSlice 67 (.int .i64 (n : Int)) (.int .i64 (n : Int))).run Tryz.prog w = .ok (.slice (some ⟨w.heap.size, 0, none⟩) n n) (w.alloc (.cells (Array.replicate n (.bool false)) 4)) := by
  obtain ⟨i, hi⟩ : ∃ i, Tryz.prog.info? 4 = some i := by
    cases h : Tryz.prog.info? 4 with
    | none => have : (Tryz.prog.info? 4).isSome = true := by kernel_rfl
              rw [h] at this; cases this
    | some i => exact ⟨i, rfl⟩
  have hz : (Tryz.prog.info? 4).map (fun i => (i.zero, i.size, i.bytes)) = some (some (.bool false), 1, 1) := by kernel_rfl
  rw [hi] at hz
  simp only [Option.map_some, Option.some.injEq, Prod.mk.injEq] at hz
  obtain ⟨h1, h2, h3⟩ := hz
  rw [run_make w 67 4 i (.bool false) Tryz.underlying67 hi h1 .i64 .i64 (n : Int) (n : Int) (by omega) (Int.le_refl _) (by rw [h3]; omega) (by omega)]
  have e : madeCells (Value.bool false).cells (n * 1) = Array.replicate n (.bool false) := by
    apply Array.toList_inj.1
    have hz : (Value.bool false).cells = #[.bool false] := rfl
    rw [hz, Nat.mul_one]
    apply List.ext_getElem
    · simp [madeCells]
    · intro k h1 h2
      simp [madeCells, Nat.mod_one]
  rw [h2, Int.toNat_natCast, e]
def newD (l : List Kr) : Rd := ⟨l, 0, none, false⟩
set_option maxHeartbeats 4000000 in
set_option maxRecDepth 20000 in
theorem dnew_any (w : World) (i : Int) (Q : Ending → World → Prop) (hq1 : ¬ (1 ≤ i ∧ i ≤ 12) → Q (.returned (.tuple #[.pointer none, .int .i64 1])) w)
    (hq2 : 1 ≤ i ∧ i ≤ 12 → ∀ (b g u : Nat) (S : Nat → Prop) (l : List Kr) (w' : World), IsRd w' S b g u (newD l) → l.length = i.toNat → (∀ x ∈ l, x.rf = rf0 ∧ x.sus = false) → (∀ i, S i → w.heap.size ≤ i) → Below w.heap.size w w' → Q (.returned (.tuple #[.pointer (some ⟨b, 0, none⟩), .int .i64 0])) w') : Calls Tryz.prog 9 #[.int .i64 i] w Q := by
  by_cases h1 : i < 1
  · have HN := hid (hq1 (by omega))
    clear hq1 hq2
    go_enter Tryz.func9, Tryz.ntmps9
    go_wp2_with fail
    exact HN.out
  · have q1 : decide (i < 1) = false := decide_eq_false h1
    by_cases h2 : 12 < i
    · have HN := hid (hq1 (by omega))
      clear h1 hq1 hq2
      go_enter Tryz.func9, Tryz.ntmps9
      go_wp2_with fail
      exact HN.out
    · have q2 : decide (12 < i) = false := decide_eq_false h2
      obtain ⟨n, rfl⟩ := Int.eq_ofNat_of_zero_le (show 0 ≤ i by omega)
      have hm := makes_bools n (by omega) w
      have hn1 : 1 ≤ n ∧ n ≤ 12 := by omega
      have HQ := hid (hq2 (by omega))
      clear h1 h2 hq1 hq2
      go_enter Tryz.func9, Tryz.ntmps9
      go_wp2_with fail
      obtain ⟨W0, hW0⟩ : ∃ W0, W0 = (w.alloc (.cells (Array.replicate n (.bool false)) 4)).alloc (.cells #[.slice none 0 0, .slice (some ⟨w.heap.size, 0, none⟩) n n, .int .i64 0, .int .i64 (-1), .bool false] 70) := ⟨_, rfl⟩
      rw [← hW0]
      have HP := hid (show PreRd W0 (fun i => i = w.heap.size ∨ i = w.heap.size + 1) (w.heap.size + 1) w.heap.size n n #[.int .i64 0, .int .i64 (-1), .bool false] (List.replicate n (.bool false)) [] ∧ Below w.heap.size w W0 from by
        subst hW0
        refine ⟨⟨.slice none 0 0, fun _ _ => False, Has.new _ _ _ _ (by simp), World.ownsRow_nil _ _ _ _, ⟨by simp, .inr ⟨w.heap.size, n, Array.replicate n (.bool false), rfl, Nat.zero_le _, (Has.new w _ (Array.replicate n (.bool false)) 4 rfl).alloc _, Nat.le_refl _, by unfold maxLen; omega, by simp, by simp⟩⟩, fun j x hj => by simp at hj, fun j k hj => by simp at hj, .inr rfl, fun k hk => by simp [Value.ownBlock] at hk, .inl rfl, fun i hi => by simp; omega⟩, (boxed w _).trans ((boxed (w.alloc (.cells (Array.replicate n (.bool false)) 4)) _).mono (by simp))⟩)
      clear hm hW0
      go_loopg [5] n (fun gk s5 wx => ∃ (k : Nat) (S : Nat → Prop) (l : List Kr), k + gk = n ∧ s5 = .int .i64 (k : Int) ∧ Hid (l.length = k ∧ ∀ x ∈ l, x.rf = rf0 ∧ x.sus = false) ∧ PreRd wx S (w.heap.size + 1) w.heap.size n n #[.int .i64 0, .int .i64 (-1), .bool false] (List.replicate n (.bool false)) l ∧ (∀ i, S i → w.heap.size ≤ i) ∧ Below w.heap.size w wx)
      case atStart => exact ⟨0, _, [], by omega, rfl, hid ⟨rfl, fun x hx => by cases hx⟩, HP.out.1, fun i hi => by rcases hi with h | h <;> omega, HP.out.2⟩
      case round =>
        clear HP
        obtain ⟨k, S, l, hk, rfl, HK, hp, hS, hbw⟩ := hrel
        have HPP := hid hp
        have HSS := hid hS
        have HBW := hid hbw
        clear hp hS hbw
        cases gk with
        | zero =>
          have p1 : ¬ ((k : Int) < (n : Int)) := by omega
          have HQQ := hid (show Q (.returned (.tuple #[.pointer (some ⟨w.heap.size + 1, 0, none⟩), .int .i64 0])) wr from by
            have hlen : l.length = n := by rw [HK.out.1]; omega
            have hu : List.replicate n (Value.bool false) = ucells l := by
              symm
              unfold ucells
              rw [List.eq_replicate_iff]
              refine ⟨by simp [hlen], fun v hv => ?_⟩
              obtain ⟨x, hx, rfl⟩ := List.mem_map.1 hv
              rw [(HK.out.2 x hx).2]
            obtain ⟨g, hg⟩ := PreRd.done (W := newD l) HPP.out rfl hlen (by omega) hu (fun sv => rfl)
            exact HQ.out _ _ _ _ _ _ hg (by rw [hlen]; simp) HK.out.2 HSS.out HBW.out)
          clear HPP HQ
          go_wp2_with fail
          exact HQQ.out
        | succ g1 =>
          have p1 : (k : Int) < (n : Int) := by omega
          obtain ⟨sv, F, h1, hrow, _⟩ := HPP.out
          have hbs : ∀ g, sv.ownBlock = some g → g ≠ w.heap.size + 1 := row_ne hrow h1 (by decide)
          have c0 := h1.cell 0
          have hll : l.length ≤ 1000 := by rw [HK.out.1]; omega
          rw [Array.getElem?_append_left (by simp)] at c0
          have c0' : wr.cell? ⟨w.heap.size + 1, 0, none⟩ = some sv := by simpa using c0
          have HC0 := hid c0'
          clear c0 c0'
          go_wp2_with fail
          refine Tl.wp_mix_lit (by kernel_rfl) 8 [21, 22, 23, 24, 25, 26, 27, 28] 32 rfl (by kernel_rfl) (AppP wr sv l.length (pcells l)) (npF (w.heap.size + 1) sv l.length (pcells l) wr.heap.size) ⟨(Only.refl _ _).drew, hrow⟩
            ⟨fun a' W' hC hF => ?_, fun a' W' hC hF => ?_, fun a' W' hC hF => ?_, fun a' W' hC hF => ?_, fun a' W' hC hF => ?_, fun a' W' hC hF => ?_, fun a' W' hC hF => ?_, fun a' W' hC hF => ?_, trivial⟩ ?_
          · exact Tl.sm_v 21 _ rfl (Tl.wanted_none rfl) hC rfl (rn_move rfl ((hF 4 (by decide +kernel)).2 (by decide)))
          · exact Tl.sm_v 22 _ rfl (Tl.wanted_none rfl) hC rfl (rn_move rfl ((hF 4 (by decide +kernel)).2 (by decide)))
          · exact Tl.sm_v 23 _ rfl (Tl.wanted_none rfl) hC rfl (rn_nilCheck rfl ((hF 22 (by decide +kernel)).1 (by decide)))
          · exact Tl.sm_v 24 _ rfl (Tl.wanted_none rfl) hC rfl (rn_f70_0 rfl ((hF 23 (by decide +kernel)).1 (by decide)))
          · exact Tl.sm_v 25 _ rfl (Tl.wanted_none rfl) hC rfl (rn_load68 rfl ((hF 24 (by decide +kernel)).1 (by decide)) ((hC.1.has h1 (fun e => hbs _ e rfl)).cell 0))
          · refine Tl.sm_call 27 #[] (Tl.wanted_none rfl) (rn_call0 rfl rfl (enter27 _)) ((refNew_any W').mono ?_)
            rintro e w'' ⟨q, T, rfl, hq1, hq2, b1⟩
            exact ⟨_, rfl, hC.below b1, fun d v _ h => npF_below h b1, fun d hd => by cases hd; exact ⟨q, T, rfl, hq1, fun i hi => Nat.le_trans hC.1.size (hq2 i hi)⟩⟩
          · obtain ⟨q, T, e26, hq1, hq2⟩ : ∃ (q : Nat) (T : Nat → Prop), a'.tmps.getD 26 undef = ptr q ∧ IsRf W' T q rf0 ∧ ∀ i, T i → wr.heap.size ≤ i := (hF 26 (by decide +kernel)).1 (by decide)
            refine Tl.sm_w _ (Tl.wanted_none rfl) (rn_bs68p (q := q) rfl e26) (hC.below (boxed _ _)) (fun d v _ hf => npF_below hf (boxed _ _)) fun d hd => ?_
            cases hd
            exact ⟨W'.heap.size, q, T, rfl, hC.1.size, Has.new _ _ _ _ rfl, hq1.below (boxed _ _), hq2, fun hT => by have := hq1.bound _ hT; omega⟩
          · obtain ⟨ga, q, T, e27, hga, hHas, hq1, hq2, hq3⟩ : ∃ (ga q : Nat) (T : Nat → Prop), a'.tmps.getD 27 undef = .slice (some ⟨ga, 0, none⟩) 1 1 ∧ wr.heap.size ≤ ga ∧ Has W' ga #[ptr q] 71 ∧ IsRf W' T q rf0 ∧ (∀ i, T i → wr.heap.size ≤ i) ∧ ¬ T ga := (hF 27 (by decide +kernel)).1 (by decide)
            obtain ⟨gb, cap, w'', r1', r2, r3, r4, r5⟩ := run_app2 el71 W' 68 0 sv _ _ hC.2 ⟨ga, 0, none⟩ 1 1 [ptr q] (by decide) rfl (has_add (cs := [ptr q]) hHas) (by simp [ptr, Value.oneCell']) (by omega) (Nat.zero_le _)
            refine Tl.sm_w _ (Tl.wanted_none rfl) (rn_app68 rfl ((hF 25 (by decide +kernel)).1 (by decide)) e27 r1') ⟨hC.1.trans (Only.of_grown (S := fun i => sv.ownBlock = some i) r3 (fun k h => h)) (fun _ h => .inl h), r4⟩ (fun i v hi hf => npF_app hf (fun e => hi (by rw [e])) r3 (fun k hk => (hrow.lt k hk).2)) fun d hd => ?_
            cases hd
            refine ⟨gb, cap, q, T, rfl, r2, r5.imp id (Nat.le_trans hC.1.size), hq1.only (Only.of_grown (S := fun i => sv.ownBlock = some i) r3 (fun k h => h)) (fun i hi e => by have := hq2 i hi; have := (hrow.lt i e).2; omega), hq2, fun hT => ?_⟩
            rcases r5 with e | e
            · have := hq2 gb hT; have := (hrow.lt gb e).2; omega
            · have := hq1.bound gb hT; omega
          intro v wB hw hv
          obtain ⟨g', cap', q, T, v28, r1, r2, r3, r4, r5⟩ : ∃ (g' cap' q : Nat) (T : Nat → Prop), v 28 = .slice (some ⟨g', 0, none⟩) (l.length + 1) cap' ∧ wB.ownsRow 0 71 1 (.slice (some ⟨g', 0, none⟩) (l.length + 1) cap') (l.length + 1) (pcells l ++ [ptr q]) ∧ (sv.ownBlock = some g' ∨ wr.heap.size ≤ g') ∧ IsRf wB T q rf0 ∧ (∀ i, T i → wr.heap.size ≤ i) ∧ ¬ T g' := hv 28 (by decide)
          have v21 : v 21 = .pointer (some ⟨w.heap.size + 1, 0, none⟩) := hv 21 (by decide)
          have hsvS : ∀ k, sv.ownBlock = some k → w.heap.size ≤ k := fun k hk => by
            obtain ⟨sv2, F2, h1', _, _, _, _, _, h7, _, _⟩ := HPP.out
            have e : sv2 = sv := by
              have := h1'.cell 0
              rw [HC0.out, Array.getElem?_append_left (by simp)] at this
              simpa using this.symm
            subst e
            exact HSS.out k (h7 k hk)
          have HPN := hid (PreRd.push (sus := false) HPP.out HC0.out hw.1 r3 r4 r5 r1 r2)
          have HSN := hid (show ∀ i, (S i ∨ T i ∨ i = g') → w.heap.size ≤ i from fun i hi => by
            rcases hi with h | h | h
            · exact HSS.out i h
            · exact Nat.le_trans HBW.out.size (r4 i h)
            · subst h
              rcases r2 with e | e
              · exact hsvS _ e
              · exact Nat.le_trans HBW.out.size e)
          have HBN := hid (show Below w.heap.size w (wB.setCell ⟨w.heap.size + 1, 0, none⟩ (.slice (some ⟨g', 0, none⟩) (l.length + 1) cap')) from (HBW.out.trans (hw.1.below HBW.out.size hsvS)).setCell (p := ⟨w.heap.size + 1, 0, none⟩) (Nat.le_succ _) _)
          have HKN := hid (show (l ++ [(⟨q, rf0, false⟩ : Kr)]).length = k + 1 ∧ ∀ x ∈ l ++ [(⟨q, rf0, false⟩ : Kr)], x.rf = rf0 ∧ x.sus = false from ⟨by simp [HK.out.1], fun x hx => by
            rcases List.mem_append.1 hx with h | h
            · exact HK.out.2 x h
            · rw [List.mem_singleton] at h; subst h; exact ⟨rfl, rfl⟩⟩)
          have hB := hw.1.has h1 (fun e => hbs _ e rfl)
          have y1 := hB.cell 0
          rw [Array.getElem?_append_left (by simp)] at y1
          have y1' : wB.cell? ⟨w.heap.size + 1, 0, none⟩ = some sv := by simpa using y1
          have y2 := hB.frozen 0
          clear hv hw h1 hrow hbs y1 hB r1 r2 r3 r4 r5 HPP HSS HBW HK HC0 hsvS
          simp only [Tl.fill, List.drop_succ_cons, List.drop_zero]
          simp only [Act.put, List.setIfInBounds_toArray, List.set_cons_succ, List.set_cons_zero, v28, v21]
          clear v28 v21
          generalize l.length + 1 = l1 at *
          go_wp2_with fail
          go_roundg g1
          case measure => omega
          case rel => exact ⟨k + 1, _, _, by omega, by first | rfl | simp, HKN, HPN.out, HSN.out, HBN.out⟩
end Go.Proofs.YtgdiaflikfdnaaaGreat
/- The document's world: Copy. -/
namespace Go.Proofs.YtgdiaflikfdnaaaGreat
open Go.RowKit Go.Maps
variable {w w' w1 w2 : World} {S : Nat → Prop} {b g u : Nat} {W W' : Rd}
theorem el4 : El 67 4 1 := el_of (z := .bool false) (bytes := 1) Tryz.underlying67 (by kernel_rfl) rfl (by decide) (by decide)
section
variable {ev : Operand → Value} {o : Oper} {w : World} {x y z t : Operand}
theorem rn_bs67z (ho : o.op = .buildSlice 67 0 #[]) : (execOp ev o).run Tryz.prog w = .ok (.value (.slice (some ⟨w.heap.size, 0, none⟩) 0 0)) (w.alloc (.cells #[] 4)) := by
  simp [execOp, ho, go_sem]
theorem rn_app67 {w' : World} {u v r : Value} (ho : o.op = .call { callee := .builtin .append, args := #[x, y], argTypes := #[67, 67] }) (hx : ev x = u) (hy : ev y = v) (hr : (Builtin.append_ #[67, 67] o.type #[u, v]).run Tryz.prog w = .ok r w') : (execOp ev o).run Tryz.prog w = .ok (.value r) w' := by
  unfold execOp
  simp only [ho, resolve, invoke, builtin, Sem.run_bind, Sem.run_pure, Result.andThen_ok, List.map_toArray, List.map_cons, List.map_nil, hx, hy, hr]
theorem rn_build70 {gu n cp : Nat} {c l : Int} {d : Bool} (ho : o.op = .build 70 #[(1, x), (2, y), (3, z), (4, t)]) (hx : ev x = .slice (some ⟨gu, 0, none⟩) n cp) (hy : ev y = .int .i64 c) (hz : ev z = .int .i64 l) (ht : ev t = .bool d) : (execOp ev o).run Tryz.prog w = .ok (.value (.agg #[.slice none 0 0, .slice (some ⟨gu, 0, none⟩) n cp, .int .i64 c, .int .i64 l, .bool d])) w := by
  simp [execOp, ho, hx, hy, hz, ht, go_sem]
theorem rn_box70 {gu n cp : Nat} {c l : Int} {d : Bool} (ho : o.op = .box 70 x) (hx : ev x = .agg #[.slice none 0 0, .slice (some ⟨gu, 0, none⟩) n cp, .int .i64 c, .int .i64 l, .bool d]) : (execOp ev o).run Tryz.prog w = .ok (.value (.pointer (some ⟨w.heap.size, 0, none⟩))) (w.alloc (.cells #[.slice none 0 0, .slice (some ⟨gu, 0, none⟩) n cp, .int .i64 c, .int .i64 l, .bool d] 70)) := by
  simp [execOp, ho, hx, go_sem]
end
/-- onto nothing: all that stood stands as it was -/
theorem app_bools {W1 : World} {Z ga n cp : Nat} {us : List Value} {l : List Kr} (h : W1.ownsRow Z 4 1 (.slice (some ⟨ga, 0, none⟩) 0 0) 0 []) (hu : W1.ownsRow 0 4 1 (.slice (some ⟨u, 0, none⟩) n cp) n us) (hn : 0 < n) (hn1 : n ≤ 1000 ∧ us = ucells l) (hZ : Z ≤ W1.heap.size) : ∃ gu cap W2, (Builtin.append_ #[67, 67] 67 #[.slice (some ⟨ga, 0, none⟩) 0 0, .slice (some ⟨u, 0, none⟩) n cp]).run Tryz.prog W1 = .ok (.slice (some ⟨gu, 0, none⟩) n cap) W2 ∧ W2.ownsRow Z 4 1 (.slice (some ⟨gu, 0, none⟩) n cap) n us ∧ Below W1.heap.size W1 W2 := by
  obtain ⟨hn1, rfl⟩ := hn1
  obtain ⟨g', cap', w', r1, r2, r3, r4, _⟩ := run_app2 el4 W1 67 Z _ 0 [] h ⟨u, 0, none⟩ n cp (ucells l) hn hu.1 (fun j v hv => by
    have e : (⟨u, 0, none⟩ : Addr).add j = ⟨u, j, none⟩ := by unfold Addr.add; split <;> simp_all
    have hj : j < (ucells l).length := (List.getElem?_eq_some_iff.1 hv).1
    rw [e, hu.cellAt j (by rw [← hu.1]; exact hj)]
    exact hv) (fun v hv => by
      unfold ucells at hv
      obtain ⟨x, _, rfl⟩ := List.mem_map.1 hv
      rfl) (by omega) hZ
  rw [Nat.zero_add] at r1 r2
  rw [List.nil_append] at r2
  refine ⟨g', cap', w', r1, r2, r3.os, r3.tape, r3.output, r3.size, fun k hk => ?_⟩
  by_cases e : k = ga
  · subst e
    rcases h.2 with ⟨e, _⟩ | ⟨g1, c1, cur1, e1, _, h1, _, _, z1, _⟩
    · cases e
    · rcases r4.2 with ⟨e, _⟩ | ⟨g2, c2, cur2, e2, _, h2, _, _, z2, _⟩
      · cases e
      · cases e1
        cases e2
        rw [h1, h2]
        have a1 : cur1 = #[] := Array.eq_empty_of_size_eq_zero (by rw [z1])
        have a2 : cur2 = #[] := Array.eq_empty_of_size_eq_zero (by rw [z2])
        rw [a1, a2]
  · exact r3.block k hk (by simp [Value.ownBlock]; exact fun e' => e e')
def dcF1 (b u n cup calls : Nat) (lf : Int) (dk : Bool) (us : List Value) (Z : Nat) (i : Nat) (v : Value) (W : World) : Prop := match i with
  | 6 => v = .pointer (some ⟨b, 0, none⟩)
  | 7 => v = .pointer (some ⟨b, 0, none⟩)
  | 11 => v = .pointer (some ⟨b, 0, none⟩)
  | 12 => v = .pointer (some ⟨b, 0, none⟩)
  | 15 => v = .pointer (some ⟨b, 0, none⟩)
  | 16 => v = .pointer (some ⟨b, 0, none⟩)
  | 19 => v = .pointer (some ⟨b, 0, none⟩)
  | 20 => v = .pointer (some ⟨b, 0, none⟩)
  | 8 => v = .pointer (some ⟨b, 1, none⟩) | 13 => v = .pointer (some ⟨b, 2, none⟩) | 17 => v = .pointer (some ⟨b, 3, none⟩) | 21 => v = .pointer (some ⟨b, 4, none⟩)
  | 9 => v = .slice (some ⟨u, 0, none⟩) n cup | 14 => v = .int .i64 (calls : Int) | 18 => v = .int .i64 lf | 22 => v = .bool dk
  | 5 => ∃ ga, v = .slice (some ⟨ga, 0, none⟩) 0 0 ∧ W.ownsRow Z 4 1 (.slice (some ⟨ga, 0, none⟩) 0 0) 0 []
  | 10 => ∃ gu cp, v = .slice (some ⟨gu, 0, none⟩) n cp ∧ W.ownsRow Z 4 1 (.slice (some ⟨gu, 0, none⟩) n cp) n us
  | 23 => ∃ gu cp, v = .agg #[.slice none 0 0, .slice (some ⟨gu, 0, none⟩) n cp, .int .i64 (calls : Int), .int .i64 lf, .bool dk] ∧ W.ownsRow Z 4 1 (.slice (some ⟨gu, 0, none⟩) n cp) n us
  | 24 => ∃ B gu cp, v = .pointer (some ⟨B, 0, none⟩) ∧ Z ≤ B ∧ Has W B #[.slice none 0 0, .slice (some ⟨gu, 0, none⟩) n cp, .int .i64 (calls : Int), .int .i64 lf, .bool dk] 70 ∧ W.ownsRow Z 4 1 (.slice (some ⟨gu, 0, none⟩) n cp) n us
  | _ => True
theorem dcF1_below {b u n cup calls : Nat} {lf : Int} {dk : Bool} {us : List Value} {Z i : Nat} {v : Value} {W W1 : World} (h : dcF1 b u n cup calls lf dk us Z i v W) (hb : Below W.heap.size W W1) : dcF1 b u n cup calls lf dk us Z i v W1 := by
  unfold dcF1 at h ⊢
  split at h
  all_goals first
    | exact h
    | (obtain ⟨ga, e1, e2⟩ := h; exact ⟨ga, e1, row_below e2 hb⟩)
    | (obtain ⟨gu, cp, e1, e2⟩ := h; exact ⟨gu, cp, e1, row_below e2 hb⟩)
    | (obtain ⟨B, gu, cp, e1, e2, e3, e4⟩ := h; exact ⟨B, gu, cp, e1, e2, e3.below hb e3.lt, row_below e4 hb⟩)
section
variable {ev : Operand → Value} {o : Oper} {w : World} {x y : Operand}
theorem rn_f70_2 {g k : Nat} (ho : o.op = .fieldAddr 70 x 2) (hx : ev x = .pointer (some ⟨g, k, none⟩)) : (execOp ev o).run Tryz.prog w = .ok (.value (.pointer (some ⟨g, k + 2, none⟩))) w := by
  simp [execOp, ho, hx, go_sem]
theorem rn_f70_3 {g k : Nat} (ho : o.op = .fieldAddr 70 x 3) (hx : ev x = .pointer (some ⟨g, k, none⟩)) : (execOp ev o).run Tryz.prog w = .ok (.value (.pointer (some ⟨g, k + 3, none⟩))) w := by
  simp [execOp, ho, hx, go_sem]
theorem rn_f70_4 {g k : Nat} (ho : o.op = .fieldAddr 70 x 4) (hx : ev x = .pointer (some ⟨g, k, none⟩)) : (execOp ev o).run Tryz.prog w = .ok (.value (.pointer (some ⟨g, k + 4, none⟩))) w := by
  simp [execOp, ho, hx, go_sem]
theorem enter30 (args : Array Value) : (callFunc 30 args).run Tryz.prog w = .ok (.enter 30 args) w := by kernel_rfl
end
def dcF5 (b B g n cap k0 blk : Nat) (sv : Value) (k : Nat) (xs : List Value) (rf : Rf) (Z : Nat) (i : Nat) (v : Value) (W : World) : Prop := match i with
  | 34 => v = .pointer (some ⟨B, 0, none⟩) | 35 => v = .pointer (some ⟨B, 0, none⟩) | 36 => v = .pointer (some ⟨B, 0, none⟩) | 37 => v = .pointer (some ⟨B, 0, none⟩)
  | 38 => v = sv
  | 39 => v = .pointer (some ⟨b, 0, none⟩) | 40 => v = .pointer (some ⟨b, 0, none⟩) | 41 => v = .pointer (some ⟨b, 0, none⟩)
  | 42 => v = .slice (some ⟨g, 0, none⟩) n cap | 43 => v = .int .i64 (k0 : Int) | 44 => v = .pointer (some ⟨g, k0, none⟩) | 45 => v = ptr blk
  | 46 => ∃ (q : Nat) (T : Nat → Prop), v = ptr q ∧ IsRf W T q rf ∧ ∀ i, T i → Z ≤ i
  | 47 => ∃ (ga q : Nat) (T : Nat → Prop), v = .slice (some ⟨ga, 0, none⟩) 1 1 ∧ Z ≤ ga ∧ Has W ga #[ptr q] 71 ∧ IsRf W T q rf ∧ (∀ i, T i → Z ≤ i) ∧ ¬ T ga
  | 48 => ∃ (g' cap' q : Nat) (T : Nat → Prop), v = .slice (some ⟨g', 0, none⟩) (k + 1) cap' ∧ W.ownsRow 0 71 1 (.slice (some ⟨g', 0, none⟩) (k + 1) cap') (k + 1) (xs ++ [ptr q]) ∧ (sv.ownBlock = some g' ∨ Z ≤ g') ∧ IsRf W T q rf ∧ (∀ i, T i → Z ≤ i) ∧ ¬ T g'
  | _ => True
theorem dcF5_below {b B g n cap k0 blk : Nat} {sv : Value} {k : Nat} {xs : List Value} {rf : Rf} {Z i : Nat} {v : Value} {W W1 : World} (h : dcF5 b B g n cap k0 blk sv k xs rf Z i v W) (hb : Below W.heap.size W W1) : dcF5 b B g n cap k0 blk sv k xs rf Z i v W1 := by
  unfold dcF5 at h ⊢
  split at h
  all_goals first
    | exact h
    | (obtain ⟨q, T, e1, e2, e3⟩ := h; exact ⟨q, T, e1, e2.below hb, e3⟩)
    | (obtain ⟨ga, q, T, e1, e2, e3, e4, e5, e6⟩ := h; exact ⟨ga, q, T, e1, e2, e3.below hb e3.lt, e4.below hb, e5, e6⟩)
    | (obtain ⟨g', cap', q, T, e1, e2, e3, e4, e5, e6⟩ := h; exact ⟨g', cap', q, T, e1, row_below e2 hb, e3, e4.below hb, e5, e6⟩)
theorem dcF5_app {b B g n cap k0 blk : Nat} {sv : Value} {k : Nat} {xs : List Value} {rf : Rf} {Z i : Nat} {v : Value} {W W1 : World} (h : dcF5 b B g n cap k0 blk sv k xs rf Z i v W) (hi : i ≠ 48) (hg : W.grownBy W1 sv.ownBlock) (hz : ∀ k, sv.ownBlock = some k → k < Z) : dcF5 b B g n cap k0 blk sv k xs rf Z i v W1 := by
  have ho : Only (fun i => sv.ownBlock = some i) W W1 := Only.of_grown hg (fun k h => h)
  unfold dcF5 at h ⊢
  split at h
  all_goals first
    | exact h
    | exact absurd rfl hi
    | (obtain ⟨q, T, e1, e2, e3⟩ := h; exact ⟨q, T, e1, e2.only ho (fun i hi e => by have := hz i e; have := e3 i hi; omega), e3⟩)
    | (obtain ⟨ga, q, T, e1, e2, e3, e4, e5, e6⟩ := h; exact ⟨ga, q, T, e1, e2, ho.has e3 (fun e => by have := hz ga e; omega), e4.only ho (fun i hi e => by have := hz i e; have := e5 i hi; omega), e5, e6⟩)
def sameR2 (l m : List Kr) : Prop := l.map (fun x => (x.rf, x.sus)) = m.map (fun x => (x.rf, x.sus))
set_option maxHeartbeats 4000000 in
set_option maxRecDepth 20000 in
theorem dcopy_any (h : IsRd w S b g u W) (hL : 0 < W.l.length ∧ W.l.length ≤ 1000) (hR : ∀ x ∈ W.l, x.rf.good.length + x.rf.writes.length ≤ 1000000) : Calls Tryz.prog 11 #[ptr b] w fun e w' => ∃ b', e = .returned (ptr b') ∧ ∃ g' u' S' l', IsRd w' S' b' g' u' { W with l := l' } ∧ sameR2 l' W.l ∧ (∀ i, S' i → w.heap.size ≤ i) ∧ Below w.heap.size w w' := by
  have HH := hid h
  have HR := hid hR
  obtain ⟨cap, cup, ⟨c0, c1, c2, c3, c4⟩, _, hg, hu⟩ := h.cells
  have hbl : b < w.heap.size := by obtain ⟨_, _, _, _, _, _, _, _, h5, _, _, h7⟩ := h; exact h7 b h5
  have hgl : g < w.heap.size := by obtain ⟨_, _, _, _, _, _, _, _, _, h5, _, h7⟩ := h; exact h7 g h5
  have hn0 := hL.1
  have hn1 := hL.2
  clear h hR
  unfold ptr at *
  generalize hnn : W.l.length = n at *
  have HNN := hid hnn
  clear hnn
  go_enter Tryz.func11, Tryz.ntmps11
  go_wp2_with fail
  refine Tl.wp_mix_lit (by kernel_rfl) 20 [5, 6, 7, 8, 9, 10, 11, 12, 13, 14, 15, 16, 17, 18, 19, 20, 21, 22, 23, 24] 52 rfl (by kernel_rfl) (BelW w) (dcF1 b u n cup W.calls (less1 W.left) W.dark (ucells W.l) w.heap.size) ((Below.refl _ _).drew)
    ⟨fun a' W' hC hF => ?_, fun a' W' hC hF => ?_, fun a' W' hC hF => ?_, fun a' W' hC hF => ?_, fun a' W' hC hF => ?_, fun a' W' hC hF => ?_, fun a' W' hC hF => ?_, fun a' W' hC hF => ?_, fun a' W' hC hF => ?_, fun a' W' hC hF => ?_, fun a' W' hC hF => ?_, fun a' W' hC hF => ?_, fun a' W' hC hF => ?_, fun a' W' hC hF => ?_, fun a' W' hC hF => ?_, fun a' W' hC hF => ?_, fun a' W' hC hF => ?_, fun a' W' hC hF => ?_, fun a' W' hC hF => ?_, fun a' W' hC hF => ?_, trivial⟩ ?_
  · refine Tl.sm_w _ (Tl.wanted_none rfl) (rn_bs67z rfl) (Below.alloc hC hC.size _) (fun d v _ hf => dcF1_below hf (boxed _ _)) fun d hd => ?_
    cases hd
    exact ⟨W'.heap.size, rfl, ⟨rfl, .inr ⟨W'.heap.size, 0, #[], rfl, hC.size, Has.new _ _ _ _ rfl, Nat.le_refl _, by unfold maxLen; omega, rfl, rfl⟩⟩⟩
  · exact Tl.sm_v 6 _ rfl (Tl.wanted_none rfl) hC rfl (rn_move rfl ((hF 0 (by decide +kernel)).2 (by decide)))
  · exact Tl.sm_v 7 _ rfl (Tl.wanted_none rfl) hC rfl (rn_nilCheck rfl ((hF 6 (by decide +kernel)).1 (by decide)))
  · exact Tl.sm_v 8 _ rfl (Tl.wanted_none rfl) hC rfl (rn_f70_1 rfl ((hF 7 (by decide +kernel)).1 (by decide)))
  · exact Tl.sm_v 9 _ rfl (Tl.wanted_none rfl) hC rfl (rn_load67n rfl ((hF 8 (by decide +kernel)).1 (by decide)) (BelW.cell hC (p := ⟨b, 1, none⟩) hbl c1))
  · obtain ⟨ga, e5, h5⟩ : ∃ ga, a'.tmps.getD 5 undef = .slice (some ⟨ga, 0, none⟩) 0 0 ∧ W'.ownsRow w.heap.size 4 1 (.slice (some ⟨ga, 0, none⟩) 0 0) 0 [] := (hF 5 (by decide +kernel)).1 (by decide)
    obtain ⟨gu, cp, w'', r1, r2, r3⟩ := app_bools (l := W.l) h5 (row_below hu hC) hn0 ⟨hn1, rfl⟩ hC.size
    refine Tl.sm_w _ (Tl.wanted_none rfl) (rn_app67 rfl e5 ((hF 9 (by decide +kernel)).1 (by decide)) r1) (Below.trans hC (r3.mono hC.size)) (fun d v _ hf => dcF1_below hf r3) fun d hd => ?_
    cases hd
    exact ⟨gu, cp, rfl, r2⟩
  · exact Tl.sm_v 11 _ rfl (Tl.wanted_none rfl) hC rfl (rn_move rfl ((hF 0 (by decide +kernel)).2 (by decide)))
  · exact Tl.sm_v 12 _ rfl (Tl.wanted_none rfl) hC rfl (rn_nilCheck rfl ((hF 11 (by decide +kernel)).1 (by decide)))
  · exact Tl.sm_v 13 _ rfl (Tl.wanted_none rfl) hC rfl (rn_f70_2 rfl ((hF 12 (by decide +kernel)).1 (by decide)))
  · exact Tl.sm_v 14 _ rfl (Tl.wanted_none rfl) hC rfl (rn_load3 rfl ((hF 13 (by decide +kernel)).1 (by decide)) (BelW.cell hC (p := ⟨b, 2, none⟩) hbl c2))
  · exact Tl.sm_v 15 _ rfl (Tl.wanted_none rfl) hC rfl (rn_move rfl ((hF 0 (by decide +kernel)).2 (by decide)))
  · exact Tl.sm_v 16 _ rfl (Tl.wanted_none rfl) hC rfl (rn_nilCheck rfl ((hF 15 (by decide +kernel)).1 (by decide)))
  · exact Tl.sm_v 17 _ rfl (Tl.wanted_none rfl) hC rfl (rn_f70_3 rfl ((hF 16 (by decide +kernel)).1 (by decide)))
  · exact Tl.sm_v 18 _ rfl (Tl.wanted_none rfl) hC rfl (rn_load3 rfl ((hF 17 (by decide +kernel)).1 (by decide)) (BelW.cell hC (p := ⟨b, 3, none⟩) hbl c3))
  · exact Tl.sm_v 19 _ rfl (Tl.wanted_none rfl) hC rfl (rn_move rfl ((hF 0 (by decide +kernel)).2 (by decide)))
  · exact Tl.sm_v 20 _ rfl (Tl.wanted_none rfl) hC rfl (rn_nilCheck rfl ((hF 19 (by decide +kernel)).1 (by decide)))
  · exact Tl.sm_v 21 _ rfl (Tl.wanted_none rfl) hC rfl (rn_f70_4 rfl ((hF 20 (by decide +kernel)).1 (by decide)))
  · exact Tl.sm_v 22 _ rfl (Tl.wanted_none rfl) hC rfl (rn_load4 rfl ((hF 21 (by decide +kernel)).1 (by decide)) (BelW.cell hC (p := ⟨b, 4, none⟩) hbl c4))
  · obtain ⟨gu, cp, e10, h10⟩ : ∃ gu cp, a'.tmps.getD 10 undef = .slice (some ⟨gu, 0, none⟩) n cp ∧ W'.ownsRow w.heap.size 4 1 (.slice (some ⟨gu, 0, none⟩) n cp) n (ucells W.l) := (hF 10 (by decide +kernel)).1 (by decide)
    exact Tl.sm_v 23 _ rfl (Tl.wanted_none rfl) hC ⟨gu, cp, rfl, h10⟩ (rn_build70 rfl e10 ((hF 14 (by decide +kernel)).1 (by decide)) ((hF 18 (by decide +kernel)).1 (by decide)) ((hF 22 (by decide +kernel)).1 (by decide)))
  · obtain ⟨gu, cp, e23, h23⟩ : ∃ gu cp, a'.tmps.getD 23 undef = .agg #[.slice none 0 0, .slice (some ⟨gu, 0, none⟩) n cp, .int .i64 (W.calls : Int), .int .i64 (less1 W.left), .bool W.dark] ∧ W'.ownsRow w.heap.size 4 1 (.slice (some ⟨gu, 0, none⟩) n cp) n (ucells W.l) := (hF 23 (by decide +kernel)).1 (by decide)
    refine Tl.sm_w _ (Tl.wanted_none rfl) (rn_box70 rfl e23) (Below.alloc hC hC.size _) (fun d v _ hf => dcF1_below hf (boxed _ _)) fun d hd => ?_
    cases hd
    exact ⟨W'.heap.size, gu, cp, rfl, hC.size, Has.new _ _ _ _ rfl, h23.alloc _⟩
  intro v w2 hw2 hv
  obtain ⟨B, gu, cp, v24, hB, hBx, hBu⟩ : ∃ B gu cp, v 24 = .pointer (some ⟨B, 0, none⟩) ∧ w.heap.size ≤ B ∧ Has w2 B #[.slice none 0 0, .slice (some ⟨gu, 0, none⟩) n cp, .int .i64 (W.calls : Int), .int .i64 (less1 W.left), .bool W.dark] 70 ∧ w2.ownsRow w.heap.size 4 1 (.slice (some ⟨gu, 0, none⟩) n cp) n (ucells W.l) := hv 24 (by decide)
  have HP := hid (show PreRd w2 (fun i => i = B ∨ i = gu) B gu n cp #[.int .i64 (W.calls : Int), .int .i64 (less1 W.left), .bool W.dark] (ucells W.l) [] from ⟨.slice none 0 0, fun _ _ => False, hBx, World.ownsRow_nil _ _ _ _, row_base hBu (Nat.zero_le _), fun j x hj => by simp at hj, fun j k hj => by simp at hj, .inl rfl, fun k hk => by simp [Value.ownBlock] at hk, .inr rfl, fun i hi => by
    rcases hi with rfl | rfl
    · exact hBx.lt
    · exact (hBu.lt i rfl).2⟩)
  have HS0 := hid (show ∀ i, (i = B ∨ i = gu) → w.heap.size ≤ i from fun i hi => by
    rcases hi with rfl | rfl
    · exact hB
    · exact (hBu.lt i rfl).1)
  have HB2 := hid hw2
  have HC0 := hid c0
  clear hv hw2 hBx hBu c0 c1 c2 c3 c4 hg hu
  simp only [Tl.fill, List.drop_succ_cons, List.drop_zero, wpList]
  rw [if_pos (Tl.wanted_none rfl)]
  simp only [Act.put, List.setIfInBounds_toArray, List.set_cons_succ, List.set_cons_zero, v24]
  clear v24
  refine .inl (wp_assign (x := .tmp 24) (d := 3) (v := .pointer (some ⟨B, 0, none⟩)) ?_ ?_ ?_ ?_)
  · rfl
  · rfl
  · rfl
  simp only [Act.put, List.setIfInBounds_toArray, List.set_cons_succ, List.set_cons_zero]
  go_wp2_with fail
  go_loopg [4] n (fun gk s4 wx => ∃ (k : Nat) (S : Nat → Prop) (l : List Kr), k + gk = n ∧ s4 = .int .i64 (k : Int) ∧ Hid (l.length = k ∧ sameR2 l (W.l.take k)) ∧ PreRd wx S B gu n cp #[.int .i64 (W.calls : Int), .int .i64 (less1 W.left), .bool W.dark] (ucells W.l) l ∧ (∀ i, S i → w.heap.size ≤ i) ∧ Below w.heap.size w wx)
  case atStart => exact ⟨0, _, [], by omega, rfl, hid ⟨rfl, rfl⟩, HP.out, HS0.out, HB2.out⟩
  case round =>
    clear HP HS0 HB2
    obtain ⟨k, S', l, hk, rfl, HK, hp, hS, hbw⟩ := hrel
    have HPP := hid hp
    have HSS := hid hS
    have HBW := hid hbw
    have y0 : wr.cell? ⟨b, 0, none⟩ = some (.slice (some ⟨g, 0, none⟩) n cap) := BelW.cell hbw (p := ⟨b, 0, none⟩) hbl HC0.out
    clear hp hS hbw
    cases gk with
    | zero =>
      have p1 : ¬ ((k : Int) < (n : Int)) := by omega
      have HQQ := hid (show ∃ g' u' S' l', IsRd wr S' B g' u' { W with l := l' } ∧ sameR2 l' W.l ∧ (∀ i, S' i → w.heap.size ≤ i) ∧ Below w.heap.size w wr from by
        have hkn : k = n := by omega
        have hlen : l.length = n := by rw [HK.out.1, hkn]
        have hsame : sameR2 l W.l := by
          have := HK.out.2
          rw [hkn, ← HNN.out, List.take_length] at this
          exact this
        have hu : ucells W.l = ucells l := by
          have := congrArg (List.map fun (p : Rf × Bool) => Value.bool p.2) hsame
          simp only [List.map_map] at this
          exact this.symm
        obtain ⟨g', hg'⟩ := PreRd.done (W := { W with l := l }) HPP.out rfl hlen hn0 hu (fun sv => rfl)
        exact ⟨g', gu, S', l, hg', hsame, HSS.out, HBW.out⟩)
      clear HPP HSS HBW
      go_wp2_with fail
      go_ret
      exact ⟨B, rfl, HQQ.out⟩
    | succ g1 =>
      have p1 : (k : Int) < (n : Int) := by omega
      have hkn : k < n := by omega
      have hwl : k < W.l.length := by rw [HNN.out]; exact hkn
      obtain ⟨x, hx⟩ : ∃ x, W.l[k]? = some x := ⟨_, List.getElem?_eq_getElem hwl⟩
      have hxr := HR.out x (List.mem_of_getElem? hx)
      obtain ⟨k0, _, _⟩ := HH.out.kept hx
      obtain ⟨sv, F, h1, hrow, _⟩ := HPP.out
      have hbs : ∀ g, sv.ownBlock = some g → g ≠ B := row_ne hrow h1 (by decide)
      have c0 := h1.cell 0
      have hll : l.length ≤ 1000 := by rw [HK.out.1]; omega
      rw [Array.getElem?_append_left (by simp)] at c0
      have c0' : wr.cell? ⟨B, 0, none⟩ = some sv := by simpa using c0
      have HD0 := hid c0'
      clear c0 c0'
      have hsvS : ∀ k, sv.ownBlock = some k → w.heap.size ≤ k := fun k hk => by
        obtain ⟨sv2, F2, h1', _, _, _, _, _, h7, _, _⟩ := HPP.out
        have e : sv2 = sv := by
          have := h1'.cell 0
          rw [HD0.out, Array.getElem?_append_left (by simp)] at this
          simpa using this.symm
        subst e
        exact HSS.out k (h7 k hk)
      have hbel : ∀ W', AppP wr sv l.length (pcells l) W' → Below w.heap.size w W' := fun W' h => HBW.out.trans (h.1.below HBW.out.size hsvS)
      have HXX := hid hx
      have HXR := hid hxr
      have HK0 := hid k0
      have HBL := hid hbel
      clear hx hxr k0 hbel hwl
      go_wp2_with fail
      have hx := HXX.out
      have hxr := HXR.out
      have k0 := HK0.out
      have hbel := HBL.out
      have c0 := HC0.out
      refine Tl.wp_mix_lit (by kernel_rfl) 15 [34, 35, 36, 37, 38, 39, 40, 41, 42, 43, 44, 45, 46, 47, 48] 52 rfl (by kernel_rfl) (AppP wr sv l.length (pcells l)) (dcF5 b B g n cap k x.blk sv l.length (pcells l) x.rf wr.heap.size) ⟨(Only.refl _ _).drew, hrow⟩
        ⟨fun a' W' hC hF => ?_, fun a' W' hC hF => ?_, fun a' W' hC hF => ?_, fun a' W' hC hF => ?_, fun a' W' hC hF => ?_, fun a' W' hC hF => ?_, fun a' W' hC hF => ?_, fun a' W' hC hF => ?_, fun a' W' hC hF => ?_, fun a' W' hC hF => ?_, fun a' W' hC hF => ?_, fun a' W' hC hF => ?_, fun a' W' hC hF => ?_, fun a' W' hC hF => ?_, fun a' W' hC hF => ?_, trivial⟩ ?_
      · exact Tl.sm_v 34 _ rfl (Tl.wanted_none rfl) hC rfl (rn_move rfl ((hF 3 (by decide +kernel)).2 (by decide)))
      · exact Tl.sm_v 35 _ rfl (Tl.wanted_none rfl) hC rfl (rn_move rfl ((hF 3 (by decide +kernel)).2 (by decide)))
      · exact Tl.sm_v 36 _ rfl (Tl.wanted_none rfl) hC rfl (rn_nilCheck rfl ((hF 35 (by decide +kernel)).1 (by decide)))
      · exact Tl.sm_v 37 _ rfl (Tl.wanted_none rfl) hC rfl (rn_f70_0 rfl ((hF 36 (by decide +kernel)).1 (by decide)))
      · exact Tl.sm_v 38 _ rfl (Tl.wanted_none rfl) hC rfl (rn_load68 rfl ((hF 37 (by decide +kernel)).1 (by decide)) ((hC.1.has h1 (fun e => hbs _ e rfl)).cell 0))
      · exact Tl.sm_v 39 _ rfl (Tl.wanted_none rfl) hC rfl (rn_move rfl ((hF 0 (by decide +kernel)).2 (by decide)))
      · exact Tl.sm_v 40 _ rfl (Tl.wanted_none rfl) hC rfl (rn_nilCheck rfl ((hF 39 (by decide +kernel)).1 (by decide)))
      · exact Tl.sm_v 41 _ rfl (Tl.wanted_none rfl) hC rfl (rn_f70_0 rfl ((hF 40 (by decide +kernel)).1 (by decide)))
      · exact Tl.sm_v 42 _ rfl (Tl.wanted_none rfl) hC rfl (rn_load68 rfl ((hF 41 (by decide +kernel)).1 (by decide)) (BelW.cell (hbel _ hC) (p := ⟨b, 0, none⟩) hbl c0))
      · exact Tl.sm_v 43 _ rfl (Tl.wanted_none rfl) hC rfl (rn_move rfl ((hF 4 (by decide +kernel)).2 (by decide)))
      · exact Tl.sm_v 44 _ rfl (Tl.wanted_none rfl) hC rfl (rn_ix68 rfl ((hF 42 (by decide +kernel)).1 (by decide)) ((hF 43 (by decide +kernel)).1 (by decide)) hkn)
      · exact Tl.sm_v 45 _ rfl (Tl.wanted_none rfl) hC rfl (rn_load71 rfl ((hF 44 (by decide +kernel)).1 (by decide)) (BelW.cell (hbel _ hC) (p := ⟨g, k, none⟩) hgl k0))
      · obtain ⟨T0, t1, _, _⟩ := (HH.out.below (hbel _ hC)).call hx
        refine Tl.sm_call 30 #[_] (Tl.wanted_none rfl) (rn_call1 rfl rfl ((hF 45 (by decide +kernel)).1 (by decide)) (enter30 _)) ((refCopy_any t1 hxr).mono ?_)
        rintro e w'' ⟨q, rfl, T, hq1, hq2, b1⟩
        exact ⟨_, rfl, hC.below b1, fun d v _ h => dcF5_below h b1, fun d hd => by cases hd; exact ⟨q, T, rfl, hq1, fun i hi => Nat.le_trans hC.1.size (hq2 i hi)⟩⟩
      · obtain ⟨q, T, e26, hq1, hq2⟩ : ∃ (q : Nat) (T : Nat → Prop), a'.tmps.getD 46 undef = ptr q ∧ IsRf W' T q x.rf ∧ ∀ i, T i → wr.heap.size ≤ i := (hF 46 (by decide +kernel)).1 (by decide)
        refine Tl.sm_w _ (Tl.wanted_none rfl) (rn_bs68p (q := q) rfl e26) (hC.below (boxed _ _)) (fun d v _ hf => dcF5_below hf (boxed _ _)) fun d hd => ?_
        cases hd
        exact ⟨W'.heap.size, q, T, rfl, hC.1.size, Has.new _ _ _ _ rfl, hq1.below (boxed _ _), hq2, fun hT => by have := hq1.bound _ hT; omega⟩
      · obtain ⟨ga, q, T, e27, hga, hHas, hq1, hq2, hq3⟩ : ∃ (ga q : Nat) (T : Nat → Prop), a'.tmps.getD 47 undef = .slice (some ⟨ga, 0, none⟩) 1 1 ∧ wr.heap.size ≤ ga ∧ Has W' ga #[ptr q] 71 ∧ IsRf W' T q x.rf ∧ (∀ i, T i → wr.heap.size ≤ i) ∧ ¬ T ga := (hF 47 (by decide +kernel)).1 (by decide)
        obtain ⟨gb, cap2, w'', r1', r2, r3, r4, r5⟩ := run_app2 el71 W' 68 0 sv _ _ hC.2 ⟨ga, 0, none⟩ 1 1 [ptr q] (by decide) rfl (has_add (cs := [ptr q]) hHas) (by simp [ptr, Value.oneCell']) (by omega) (Nat.zero_le _)
        refine Tl.sm_w _ (Tl.wanted_none rfl) (rn_app68 rfl ((hF 38 (by decide +kernel)).1 (by decide)) e27 r1') ⟨hC.1.trans (Only.of_grown (S := fun i => sv.ownBlock = some i) r3 (fun k h => h)) (fun _ h => .inl h), r4⟩ (fun i v hi hf => dcF5_app hf (fun e => hi (by rw [e])) r3 (fun k hk => (hrow.lt k hk).2)) fun d hd => ?_
        cases hd
        refine ⟨gb, cap2, q, T, rfl, r2, r5.imp id (Nat.le_trans hC.1.size), hq1.only (Only.of_grown (S := fun i => sv.ownBlock = some i) r3 (fun k h => h)) (fun i hi e => by have := hq2 i hi; have := (hrow.lt i e).2; omega), hq2, fun hT => ?_⟩
        rcases r5 with e | e
        · have := hq2 gb hT; have := (hrow.lt gb e).2; omega
        · have := hq1.bound gb hT; omega
      intro v wB hw hv
      obtain ⟨g', cap', q, T, v28, r1, r2, r3, r4, r5⟩ : ∃ (g' cap' q : Nat) (T : Nat → Prop), v 48 = .slice (some ⟨g', 0, none⟩) (l.length + 1) cap' ∧ wB.ownsRow 0 71 1 (.slice (some ⟨g', 0, none⟩) (l.length + 1) cap') (l.length + 1) (pcells l ++ [ptr q]) ∧ (sv.ownBlock = some g' ∨ wr.heap.size ≤ g') ∧ IsRf wB T q x.rf ∧ (∀ i, T i → wr.heap.size ≤ i) ∧ ¬ T g' := hv 48 (by decide)
      have v21 : v 34 = .pointer (some ⟨B, 0, none⟩) := hv 34 (by decide)
      have HPN := hid (PreRd.push (sus := x.sus) HPP.out HD0.out hw.1 r3 r4 r5 r1 r2)
      have HSN := hid (show ∀ i, (S' i ∨ T i ∨ i = g') → w.heap.size ≤ i from fun i hi => by
        rcases hi with h | h | h
        · exact HSS.out i h
        · exact Nat.le_trans HBW.out.size (r4 i h)
        · subst h
          rcases r2 with e | e
          · exact hsvS _ e
          · exact Nat.le_trans HBW.out.size e)
      have HBN := hid (show Below w.heap.size w (wB.setCell ⟨B, 0, none⟩ (.slice (some ⟨g', 0, none⟩) (l.length + 1) cap')) from (hbel _ hw).setCell (p := ⟨B, 0, none⟩) hB _)
      have HKN := hid (show (l ++ [(⟨q, x.rf, x.sus⟩ : Kr)]).length = k + 1 ∧ sameR2 (l ++ [(⟨q, x.rf, x.sus⟩ : Kr)]) (W.l.take (k + 1)) from ⟨by simp [HK.out.1], by
        have := HK.out.2
        unfold sameR2 at this ⊢
        rw [List.take_add_one, hx, List.map_append, List.map_append, this]
        rfl⟩)
      have hBB := hw.1.has h1 (fun e => hbs _ e rfl)
      have y1 := hBB.cell 0
      rw [Array.getElem?_append_left (by simp)] at y1
      have y1' : wB.cell? ⟨B, 0, none⟩ = some sv := by simpa using y1
      have y2 := hBB.frozen 0
      clear hv hw h1 hrow hbs y1 hBB r1 r2 r3 r4 r5 HPP HSS HBW HK HD0 hsvS hx hxr k0 hbel c0 HXX HXR HK0 HBL y0
      simp only [Tl.fill, List.drop_succ_cons, List.drop_zero]
      simp only [Act.put, List.setIfInBounds_toArray, List.set_cons_succ, List.set_cons_zero, v28, v21]
      clear v28 v21
      generalize l.length + 1 = l1 at *
      go_wp2_with fail
      go_roundg g1
      case measure => omega
      case rel => exact ⟨k + 1, _, _, by omega, by first | rfl | simp, HKN, HPN.out, HSN.out, HBN.out⟩
end Go.Proofs.YtgdiaflikfdnaaaGreat
