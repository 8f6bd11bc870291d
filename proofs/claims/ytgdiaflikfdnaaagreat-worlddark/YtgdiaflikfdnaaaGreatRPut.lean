/- The document's put. Printed by gen_rput.py. -/
import Derived.Test.YtgdiaflikfdnaaaGreatRPut1
namespace Go.Proofs.YtgdiaflikfdnaaaGreat
open Go.RowKit Go.Maps
section
variable {ev : Operand → Value} {o : Oper} {w : World} {x y : Operand}
theorem rn_len45 {a : Option Addr} {n c : Nat} (ho : o.op = .call { callee := .builtin .len, args := #[x], argTypes := #[55] }) (hx : ev x = .slice a n c) : (execOp ev o).run Tryz.prog w = .ok (.value (.int .i64 (n : Int))) w := by
  simp [execOp, ho, hx, go_sem]
theorem rn_lss3 {u v : Int} {c : Bool} (ho : o.op = .binOp .lss 3 x y 3) (hx : ev x = .int .i64 u) (hy : ev y = .int .i64 v) (hc : decide (u < v) = c) : (execOp ev o).run Tryz.prog w = .ok (.value (.bool c)) w := by
  subst hc
  simp [execOp, ho, hx, hy, go_sem]
end
def rpF1 (v5 : Value) (g k L b3 : Nat) (p : Ob) (n : ByteArray) (i : Nat) (v : Value) (_ : World) : Prop := match i with
  | 11 => v = .int .i64 (k : Int)
  | 12 => v = v5
  | 13 => v = .int .i64 (L : Int)
  | 14 => v = .bool true
  | 15 => v = .bool true
  | 16 => v = v5
  | 17 => v = .int .i64 (k : Int)
  | 18 => v = .pointer (some ⟨g, k * 2, none⟩)
  | 19 => v = .pointer (some ⟨g, k * 2, none⟩)
  | 20 => v = .string p.1
  | 21 => v = .pointer (some ⟨b3, 0, none⟩)
  | 22 => v = .string n
  | 23 => v = .bool (lt p.1 n)
  | 24 => v = .bool (lt p.1 n)
  | _ => True
def rpF0 (v5 : Value) (k L : Nat) (i : Nat) (v : Value) (_ : World) : Prop := match i with
  | 11 => v = .int .i64 (k : Int)
  | 12 => v = v5
  | 13 => v = .int .i64 (L : Int)
  | 14 => v = .bool false
  | 15 => v = .bool false
  | 24 => v = .bool false
  | _ => True
set_option maxHeartbeats 4000000 in
set_option maxRecDepth 20000 in
theorem refPut_any {w : World} {v : Value} {M : List Ob} {B : Nat} (h : w.ownsRow B 35 2 v M.length (objCells M)) (hM : M.length ≤ 1000000) (n d : ByteArray) : Calls Tryz.prog 78 #[v, .agg #[.string n, .string d]] w fun e w' => ∃ v', e = .returned v' ∧ w'.ownsRow w.heap.size 35 2 v' (put (n, d) M).length (objCells (put (n, d) M)) ∧ Below w.heap.size w w' := by
  have HH := hid (Has.new w w.heap.size #[.string n, .string d] 35 rfl)
  have H0 := hid (boxed w (.cells #[.string n, .string d] 35))
  have HR := hid h
  clear h
  obtain ⟨x0, x1, _, _⟩ := two_cells (Has.new w w.heap.size #[.string n, .string d] 35 rfl)
  go_enter Tryz.func78, Tryz.ntmps78
  go_wp2_with fail
  refine (refDrop_any (row_below HR.out H0.out) hM n).mono ?_
  clear x0 x1
  rintro x w1 ⟨v5, rfl, hr, hb⟩
  have HDn := hid (show ∀ p ∈ drop n M, p.1 ≠ n from fun p hp => (mem_drop.1 hp).2)
  have HPut := hid (show put (n, d) M = ins (n, d) (drop n M) from rfl)
  have hDl : (drop n M).length ≤ 1000000 := Nat.le_trans (drop_le _ _) hM
  generalize drop n M = D at *
  obtain ⟨ao, ca, rfl⟩ := row_slice hr
  have HRow := hid hr
  have HB1 := hid (H0.out.trans (hb.mono H0.out.size))
  have HHb := hid (HH.out.below hb HH.out.lt)
  clear hr hb HH
  generalize hL : D.length = L at *
  have HL := hid hL
  clear hL
  go_wp2_with fail
  go_loopg [6] L (fun gk s6 wx => ∃ k : Nat, k + gk = L ∧ s6 = .int .i64 (k : Int) ∧ Hid (∀ p ∈ D.take k, lt p.1 n = true) ∧ Below w1.heap.size w1 wx)
  case atStart => exact ⟨0, by omega, rfl, hid (fun p hp => by simp at hp), Below.refl _ _⟩
  case round =>
    obtain ⟨k, hk, rfl, HT, hbw⟩ := hrel
    have HBW := hid hbw
    have hkL : k ≤ L := by omega
    by_cases hk1 : k < L
    · have e14 : decide ((k : Int) < (L : Int)) = true := decide_eq_true (by omega)
      obtain ⟨p, hp⟩ : ∃ p, D[k]? = some p := ⟨_, List.getElem?_eq_getElem (by rw [HL.out]; exact hk1)⟩
      obtain ⟨ga, ca', ea, d0, d1⟩ := ob_cells (row_below (by rw [HL.out]; exact HRow.out) hbw) hp
      rw [HL.out] at ea
      cases ea
      obtain ⟨b0, b1, _, _⟩ := two_cells (HHb.out.below hbw HHb.out.lt)
      have HS := hid (show lt p.1 n = true → ∀ p ∈ D.take (k + 1), lt p.1 n = true from fun h p' hp' => by
        rw [List.take_add_one, hp] at hp'
        rcases List.mem_append.1 hp' with h' | h'
        · exact HT.out p' h'
        · simp at h'; rw [h']; exact h)
      have HIns := hid (show lt p.1 n = false → ins (n, d) D = D.take k ++ (n, d) :: D.drop k from fun h => ins_at (n, d) D k HT.out (fun q hq => by rw [hp] at hq; cases hq; exact h) (by rw [HL.out]; omega))
      clear hp hbw HT
      go_wp2_with fail
      refine Tl.wp_mix_lit (by kernel_rfl) 14 [11, 12, 13, 14, 15, 16, 17, 18, 19, 20, 21, 22, 23, 24] 39 rfl (by kernel_rfl) (AtW wr.drew) (rpF1 (.slice (some ⟨ga, 0, none⟩) L ca) ga k L w.heap.size p n) rfl
        ⟨fun a' W' hC hF => ?_, fun a' W' hC hF => ?_, fun a' W' hC hF => ?_, fun a' W' hC hF => ?_, fun a' W' hC hF => ?_, fun a' W' hC hF => ?_, fun a' W' hC hF => ?_, fun a' W' hC hF => ?_, fun a' W' hC hF => ?_, fun a' W' hC hF => ?_, fun a' W' hC hF => ?_, fun a' W' hC hF => ?_, fun a' W' hC hF => ?_, fun a' W' hC hF => ?_, trivial⟩ ?_
      · exact Tl.sm_v 11 _ rfl (Tl.wanted_none rfl) hC rfl (rn_move rfl ((hF 6 (by decide +kernel)).2 (by decide)))
      · exact Tl.sm_v 12 _ rfl (Tl.wanted_none rfl) hC rfl (rn_move rfl ((hF 5 (by decide +kernel)).2 (by decide)))
      · exact Tl.sm_v 13 _ rfl (Tl.wanted_none rfl) hC rfl (rn_len45 rfl ((hF 12 (by decide +kernel)).1 (by decide)) )
      · exact Tl.sm_v 14 _ rfl (Tl.wanted_none rfl) hC rfl (rn_lss3 rfl ((hF 11 (by decide +kernel)).1 (by decide)) ((hF 13 (by decide +kernel)).1 (by decide)) e14)
      · exact Tl.sm_v 15 _ rfl (Tl.wanted_none rfl) hC rfl (rn_move rfl ((hF 14 (by decide +kernel)).1 (by decide)))
      · exact Tl.sm_v 16 _ rfl (Tl.wanted_is rfl rfl ((hF 15 (by decide +kernel)).1 (by decide))) hC rfl (rn_move rfl ((hF 5 (by decide +kernel)).2 (by decide)))
      · exact Tl.sm_v 17 _ rfl (Tl.wanted_is rfl rfl ((hF 15 (by decide +kernel)).1 (by decide))) hC rfl (rn_move rfl ((hF 6 (by decide +kernel)).2 (by decide)))
      · exact Tl.sm_v 18 _ rfl (Tl.wanted_is rfl rfl ((hF 15 (by decide +kernel)).1 (by decide))) hC rfl (rn_ix45 rfl ((hF 16 (by decide +kernel)).1 (by decide)) ((hF 17 (by decide +kernel)).1 (by decide)) hk1)
      · exact Tl.sm_v 19 _ rfl (Tl.wanted_is rfl rfl ((hF 15 (by decide +kernel)).1 (by decide))) hC rfl (rn_f28_0 rfl ((hF 18 (by decide +kernel)).1 (by decide)))
      · exact Tl.sm_v 20 _ rfl (Tl.wanted_is rfl rfl ((hF 15 (by decide +kernel)).1 (by decide))) hC rfl (rn_load9 rfl ((hF 19 (by decide +kernel)).1 (by decide)) (by rw [show W' = _ from hC]; exact d0))
      · exact Tl.sm_v 21 _ rfl (Tl.wanted_is rfl rfl ((hF 15 (by decide +kernel)).1 (by decide))) hC rfl (rn_f28_0 rfl ((hF 3 (by decide +kernel)).2 (by decide)))
      · exact Tl.sm_v 22 _ rfl (Tl.wanted_is rfl rfl ((hF 15 (by decide +kernel)).1 (by decide))) hC rfl (rn_load9 rfl ((hF 21 (by decide +kernel)).1 (by decide)) (by rw [show W' = _ from hC]; exact b0))
      · exact Tl.sm_v 23 _ rfl (Tl.wanted_is rfl rfl ((hF 15 (by decide +kernel)).1 (by decide))) hC rfl (rn_lss9 rfl ((hF 20 (by decide +kernel)).1 (by decide)) ((hF 22 (by decide +kernel)).1 (by decide)) )
      · exact Tl.sm_v 24 _ rfl (Tl.wanted_none rfl) hC rfl (rn_pickT rfl ((hF 15 (by decide +kernel)).1 (by decide)) ((hF 23 (by decide +kernel)).1 (by decide)))
      intro v wB hw hv
      obtain rfl : wB = _ := hw
      have vv : v 24 = .bool (lt p.1 n) := hv 24 (by decide)
      clear hv
      simp only [Tl.fill, List.drop_succ_cons, List.drop_zero, wpList]
      cases hlt : lt p.1 n with
      | true =>
        rw [hlt] at vv
        have HS' := hid (HS.out hlt)
        simp only [Act.put, List.setIfInBounds_toArray, List.set_cons_succ, List.set_cons_zero, vv]
        clear hlt vv d0 d1 b0 b1 e14
        cases gk with
        | zero => omega
        | succ g1 =>
          go_wp2_with fail
          go_roundg g1
          case measure => omega
          case rel => exact ⟨k + 1, by omega, by first | rfl | simp, HS', HBW.out.drew⟩
      | false =>
        rw [hlt] at vv
        have HI := hid (HIns.out hlt)
        simp only [Act.put, List.setIfInBounds_toArray, List.set_cons_succ, List.set_cons_zero, vv]
        clear hlt vv d0 d1 b0 b1 e14 HS HIns
        obtain ⟨b0, b1, _, _⟩ := two_cells (HHb.out.below HBW.out HHb.out.lt)
        have hbl : w.heap.size < wr.heap.size := by
          have := HHb.out.lt
          have := HBW.out.size
          omega
        obtain ⟨sl1, sl2, hsl1, hsl2, hp1, hp2⟩ := parts_of (k := k) (row_below HRow.out HBW.out) HL.out hkL
        have hX1 : k = 1 → (objCells (D.take k))[0]? ≠ some (.string n) := fun hk1 h0 => by
          subst hk1
          cases hD : D with
          | nil => rw [hD] at h0; simp [objCells] at h0
          | cons p r =>
            rw [hD] at h0
            simp [objCells] at h0
            exact HDn.out p (by rw [hD]; simp) h0
        have HS1 := hid hsl1
        have HS2 := hid hsl2
        have HP1 := hid hp1
        have HP2 := hid hp2
        have HX1 := hid hX1
        clear hsl1 hsl2 hp1 hp2 hX1
        go_wp2_with fail
        have hsl1 := HS1.out
        have hsl2 := HS2.out
        have hp1 : Part wr sl1 k (objCells (D.take k)) := HP1.out
        have hp2 : Part wr sl2 (L - k) (objCells (D.drop k)) := HP2.out
        have hX1 := HX1.out
        refine Tl.wp_mix_lit (by kernel_rfl) 11 [27, 28, 29, 30, 31, 32, 33, 34, 35, 36, 37] 39 rfl (by kernel_rfl) (BelW wr) (rp5 wr.heap.size (.slice (some ⟨ga, 0, none⟩) L ca) sl1 sl2 k (objCells (D.take k)) n d) ((Below.refl _ _).drew.drew)
          ⟨fun a' W' hC hF => ?_, fun a' W' hC hF => ?_, fun a' W' hC hF => ?_, fun a' W' hC hF => ?_, fun a' W' hC hF => ?_, fun a' W' hC hF => ?_, fun a' W' hC hF => ?_, fun a' W' hC hF => ?_, fun a' W' hC hF => ?_, fun a' W' hC hF => ?_, fun a' W' hC hF => ?_, trivial⟩ ?_
        · exact Tl.sm_w _ (Tl.wanted_none rfl) (rn_bs45z rfl) (Below.trans hC ((boxed W' _).mono hC.size)) (fun _ _ _ h => rp5_below h (boxed W' _)) (fun d hd => by cases hd; exact ⟨W'.heap.size, rfl, rowz_nil W' hC.size⟩)
        · exact Tl.sm_v 28 _ rfl (Tl.wanted_none rfl) hC rfl (rn_move rfl ((hF 5 (by decide +kernel)).2 (by decide)))
        · exact Tl.sm_v 29 _ rfl (Tl.wanted_none rfl) hC rfl (rn_move rfl ((hF 6 (by decide +kernel)).2 (by decide)))
        · exact Tl.sm_v 30 _ rfl (Tl.wanted_none rfl) hC rfl (hsl1 _ _ _ _ _ rfl ((hF 28 (by decide +kernel)).1 (by decide)) ((hF 29 (by decide +kernel)).1 (by decide)))
        · obtain ⟨g1, e27, r27⟩ : ∃ g, a'.tmps.getD 27 undef = .slice (some ⟨g, 0, none⟩) 0 0 ∧ RowZ wr.heap.size W' (.slice (some ⟨g, 0, none⟩) 0 0) 0 [] := (hF 27 (by decide +kernel)).1 (by decide)
          obtain ⟨g2, cap2, W2, s1, s2, s3, s4, s5⟩ := app_part (ty := 55) (W0 := wr) rfl r27 hp1 hC (by omega)
          rw [Nat.zero_add, List.nil_append] at s2
          rw [Nat.zero_add] at s1
          exact Tl.sm_w _ (Tl.wanted_none rfl) (rn_app45 rfl e27 ((hF 30 (by decide +kernel)).1 (by decide)) s1) (below_grown hC s3 (r27.cur.elim fun _ h => by obtain ⟨_, _, e, hz, _⟩ := h; cases e; exact hz) hC.size) (fun i _ hi h => rp5_31 h (fun e => hi (by rw [e])) r27 s3 s4) (fun d hd => by cases hd; exact ⟨g2, cap2, rfl, s2, s5⟩)
        · exact Tl.sm_v 32 _ rfl (Tl.wanted_none rfl) hC rfl (rn_load28 rfl ((hF 3 (by decide +kernel)).2 (by decide)) (by rw [Below.cell hC (p := ⟨w.heap.size, 0, none⟩) hbl]; exact b0) (by rw [Below.cell hC (p := ⟨w.heap.size, 1, none⟩) hbl]; exact b1))
        · exact Tl.sm_w _ (Tl.wanted_none rfl) (rn_bs45 rfl ((hF 32 (by decide +kernel)).1 (by decide))) (Below.trans hC ((boxed W' _).mono hC.size)) (fun _ _ _ h => rp5_below h (boxed W' _)) (fun d hd => by cases hd; exact ⟨W'.heap.size, rfl, hC.size, Has.new W' _ _ _ rfl⟩)
        · obtain ⟨g1, cap1, e31, r31, h31⟩ : ∃ g cap, a'.tmps.getD 31 undef = .slice (some ⟨g, 0, none⟩) k cap ∧ RowZ wr.heap.size W' (.slice (some ⟨g, 0, none⟩) k cap) k (objCells (D.take k)) ∧ (k = 0 → cap = 0) := (hF 31 (by decide +kernel)).1 (by decide)
          obtain ⟨gb, e33, hz33, hh33⟩ : ∃ g, a'.tmps.getD 33 undef = .slice (some ⟨g, 0, none⟩) 1 1 ∧ wr.heap.size ≤ g ∧ Has W' g #[.string n, .string d] 35 := (hF 33 (by decide +kernel)).1 (by decide)
          obtain ⟨g2, cap2, W2, s1, s2, s3, s4, s5⟩ := run_app2 el28 W' 55 wr.heap.size (.slice (some ⟨g1, 0, none⟩) k cap1) k (objCells (D.take k)) r31.1 ⟨gb, 0, none⟩ 1 1 [.string n, .string d] (by decide) rfl (fun j u hu => by
            have e : (⟨gb, 0, none⟩ : Addr).add j = ⟨gb, j, none⟩ := by unfold Addr.add; split <;> simp_all
            rw [e]; exact by simpa using hh33.range j u hu) (by simp [Value.oneCell']) (by omega) hC.size
          exact Tl.sm_w _ (Tl.wanted_none rfl) (rn_app45 rfl e31 e33 s1) (below_grown hC s3 (r31.cur.elim fun _ h => by obtain ⟨_, _, e, hz, _⟩ := h; cases e; exact hz) hC.size) (fun i _ hi h => rp5_34 h (fun e => hi (by rw [e])) r31 h31 hX1 s3 ⟨s4, _, _, rfl⟩) (fun d hd => by cases hd; exact ⟨g2, cap2, rfl, s2, _, _, rfl⟩)
        · exact Tl.sm_v 35 _ rfl (Tl.wanted_none rfl) hC rfl (rn_move rfl ((hF 5 (by decide +kernel)).2 (by decide)))
        · exact Tl.sm_v 36 _ rfl (Tl.wanted_none rfl) hC rfl (rn_move rfl ((hF 6 (by decide +kernel)).2 (by decide)))
        · exact Tl.sm_v 37 _ rfl (Tl.wanted_none rfl) hC rfl (hsl2 _ _ _ _ _ rfl ((hF 35 (by decide +kernel)).1 (by decide)) ((hF 36 (by decide +kernel)).1 (by decide)))
        intro v wB hw hv
        have v34 := hv 34 (by decide)
        have v37 : v 37 = sl2 := hv 37 (by decide)
        obtain ⟨g3, cap3, e34, r34⟩ : ∃ g cap, v 34 = .slice (some ⟨g, 0, none⟩) (k + 1) cap ∧ RowZ wr.heap.size wB (.slice (some ⟨g, 0, none⟩) (k + 1) cap) (k + 1) (objCells (D.take k) ++ ([.string n, .string d] : List Value)) := v34
        clear hv
        obtain ⟨g4, cap4, W4, s1, s2, s3, s4, s5⟩ := app_part (ty := 55) (W0 := wr) rfl r34 hp2 hw (by omega)
        have hwb := below_grown hw s3 (r34.cur.elim fun _ h => by obtain ⟨_, _, e, hz, _⟩ := h; cases e; exact hz) hw.size
        have HF4 := hid (show W4.ownsRow w.heap.size 35 2 (.slice (some ⟨g4, 0, none⟩) (k + 1 + (L - k)) cap4) (put (n, d) M).length (objCells (put (n, d) M)) from by
          have e1 : put (n, d) M = D.take k ++ (n, d) :: D.drop k := by rw [HPut.out, HI.out]
          have e2 : objCells (put (n, d) M) = objCells (D.take k) ++ [.string n, .string d] ++ objCells (D.drop k) := by rw [e1]; simp [objCells]
          have e3 : (put (n, d) M).length = k + 1 + (L - k) := by
            rw [e1, List.length_append, List.length_take, List.length_cons, List.length_drop, HL.out]; omega
          rw [e2, e3]
          exact row_base s2.1 (by omega))
        have HB4 := hid (HB1.out.trans ((HBW.out.trans ((show Below wr.heap.size wr W4 from hwb).mono HBW.out.size)).mono HB1.out.size))
        simp only [Tl.fill, List.drop_succ_cons, List.drop_zero]
        simp only [Act.put, List.setIfInBounds_toArray, List.set_cons_succ, List.set_cons_zero, e34, v37]
        refine wpList_plain rfl fun K hK => ?_
        unfold Oper.wp
        rw [rn_app45 rfl rfl rfl s1]
        refine hK _ _ ?_
        clear hsl1 hsl2 hp1 hp2 hX1 e34 v37 s1 s2 s3 s4 s5 r34 hw hwb b0 b1
        simp only [Act.put, List.setIfInBounds_toArray, List.set_cons_succ, List.set_cons_zero]
        go_wp2_with fail
        go_ret
        exact ⟨_, rfl, HF4.out, HB4.out⟩
    · have e14 : decide ((k : Int) < (L : Int)) = false := decide_eq_false (by omega)
      have HI := hid (show ins (n, d) D = D.take k ++ (n, d) :: D.drop k from ins_at (n, d) D k HT.out (fun q hq => by have := (List.getElem?_eq_some_iff.1 hq).1; rw [HL.out] at this; omega) (by rw [HL.out]; omega))
      clear hbw HT
      go_wp2_with fail
      refine Tl.wp_mix_lit (by kernel_rfl) 14 [11, 12, 13, 14, 15, 16, 17, 18, 19, 20, 21, 22, 23, 24] 39 rfl (by kernel_rfl) (AtW wr.drew) (rpF0 (.slice ao L ca) k L) rfl
        ⟨fun a' W' hC hF => ?_, fun a' W' hC hF => ?_, fun a' W' hC hF => ?_, fun a' W' hC hF => ?_, fun a' W' hC hF => ?_, fun a' W' hC hF => ?_, fun a' W' hC hF => ?_, fun a' W' hC hF => ?_, fun a' W' hC hF => ?_, fun a' W' hC hF => ?_, fun a' W' hC hF => ?_, fun a' W' hC hF => ?_, fun a' W' hC hF => ?_, fun a' W' hC hF => ?_, trivial⟩ ?_
      · exact Tl.sm_v 11 _ rfl (Tl.wanted_none rfl) hC rfl (rn_move rfl ((hF 6 (by decide +kernel)).2 (by decide)))
      · exact Tl.sm_v 12 _ rfl (Tl.wanted_none rfl) hC rfl (rn_move rfl ((hF 5 (by decide +kernel)).2 (by decide)))
      · exact Tl.sm_v 13 _ rfl (Tl.wanted_none rfl) hC rfl (rn_len45 rfl ((hF 12 (by decide +kernel)).1 (by decide)) )
      · exact Tl.sm_v 14 _ rfl (Tl.wanted_none rfl) hC rfl (rn_lss3 rfl ((hF 11 (by decide +kernel)).1 (by decide)) ((hF 13 (by decide +kernel)).1 (by decide)) e14)
      · exact Tl.sm_v 15 _ rfl (Tl.wanted_none rfl) hC rfl (rn_move rfl ((hF 14 (by decide +kernel)).1 (by decide)))
      · exact Tl.sm_skip (Tl.wanted_not rfl rfl ((hF 15 (by decide +kernel)).1 (by decide))) (fun d hd => by cases hd; trivial)
      · exact Tl.sm_skip (Tl.wanted_not rfl rfl ((hF 15 (by decide +kernel)).1 (by decide))) (fun d hd => by cases hd; trivial)
      · exact Tl.sm_skip (Tl.wanted_not rfl rfl ((hF 15 (by decide +kernel)).1 (by decide))) (fun d hd => by cases hd; trivial)
      · exact Tl.sm_skip (Tl.wanted_not rfl rfl ((hF 15 (by decide +kernel)).1 (by decide))) (fun d hd => by cases hd; trivial)
      · exact Tl.sm_skip (Tl.wanted_not rfl rfl ((hF 15 (by decide +kernel)).1 (by decide))) (fun d hd => by cases hd; trivial)
      · exact Tl.sm_skip (Tl.wanted_not rfl rfl ((hF 15 (by decide +kernel)).1 (by decide))) (fun d hd => by cases hd; trivial)
      · exact Tl.sm_skip (Tl.wanted_not rfl rfl ((hF 15 (by decide +kernel)).1 (by decide))) (fun d hd => by cases hd; trivial)
      · exact Tl.sm_skip (Tl.wanted_not rfl rfl ((hF 15 (by decide +kernel)).1 (by decide))) (fun d hd => by cases hd; trivial)
      · exact Tl.sm_v 24 _ rfl (Tl.wanted_none rfl) hC rfl (rn_pickF rfl ((hF 15 (by decide +kernel)).1 (by decide)) rfl)
      intro v wB hw hv
      obtain rfl : wB = _ := hw
      have vv : v 24 = .bool false := hv 24 (by decide)
      clear hv
      simp only [Tl.fill, List.drop_succ_cons, List.drop_zero, wpList]
      simp only [Act.put, List.setIfInBounds_toArray, List.set_cons_succ, List.set_cons_zero, vv]
      clear vv e14
      obtain ⟨b0, b1, _, _⟩ := two_cells (HHb.out.below HBW.out HHb.out.lt)
      have hbl : w.heap.size < wr.heap.size := by
        have := HHb.out.lt
        have := HBW.out.size
        omega
      obtain ⟨sl1, sl2, hsl1, hsl2, hp1, hp2⟩ := parts_of (k := k) (row_below HRow.out HBW.out) HL.out hkL
      have hX1 : k = 1 → (objCells (D.take k))[0]? ≠ some (.string n) := fun hk1 h0 => by
        subst hk1
        cases hD : D with
        | nil => rw [hD] at h0; simp [objCells] at h0
        | cons p r =>
          rw [hD] at h0
          simp [objCells] at h0
          exact HDn.out p (by rw [hD]; simp) h0
      have HS1 := hid hsl1
      have HS2 := hid hsl2
      have HP1 := hid hp1
      have HP2 := hid hp2
      have HX1 := hid hX1
      clear hsl1 hsl2 hp1 hp2 hX1
      go_wp2_with fail
      have hsl1 := HS1.out
      have hsl2 := HS2.out
      have hp1 : Part wr sl1 k (objCells (D.take k)) := HP1.out
      have hp2 : Part wr sl2 (L - k) (objCells (D.drop k)) := HP2.out
      have hX1 := HX1.out
      refine Tl.wp_mix_lit (by kernel_rfl) 11 [27, 28, 29, 30, 31, 32, 33, 34, 35, 36, 37] 39 rfl (by kernel_rfl) (BelW wr) (rp5 wr.heap.size (.slice ao L ca) sl1 sl2 k (objCells (D.take k)) n d) ((Below.refl _ _).drew.drew)
        ⟨fun a' W' hC hF => ?_, fun a' W' hC hF => ?_, fun a' W' hC hF => ?_, fun a' W' hC hF => ?_, fun a' W' hC hF => ?_, fun a' W' hC hF => ?_, fun a' W' hC hF => ?_, fun a' W' hC hF => ?_, fun a' W' hC hF => ?_, fun a' W' hC hF => ?_, fun a' W' hC hF => ?_, trivial⟩ ?_
      · exact Tl.sm_w _ (Tl.wanted_none rfl) (rn_bs45z rfl) (Below.trans hC ((boxed W' _).mono hC.size)) (fun _ _ _ h => rp5_below h (boxed W' _)) (fun d hd => by cases hd; exact ⟨W'.heap.size, rfl, rowz_nil W' hC.size⟩)
      · exact Tl.sm_v 28 _ rfl (Tl.wanted_none rfl) hC rfl (rn_move rfl ((hF 5 (by decide +kernel)).2 (by decide)))
      · exact Tl.sm_v 29 _ rfl (Tl.wanted_none rfl) hC rfl (rn_move rfl ((hF 6 (by decide +kernel)).2 (by decide)))
      · exact Tl.sm_v 30 _ rfl (Tl.wanted_none rfl) hC rfl (hsl1 _ _ _ _ _ rfl ((hF 28 (by decide +kernel)).1 (by decide)) ((hF 29 (by decide +kernel)).1 (by decide)))
      · obtain ⟨g1, e27, r27⟩ : ∃ g, a'.tmps.getD 27 undef = .slice (some ⟨g, 0, none⟩) 0 0 ∧ RowZ wr.heap.size W' (.slice (some ⟨g, 0, none⟩) 0 0) 0 [] := (hF 27 (by decide +kernel)).1 (by decide)
        obtain ⟨g2, cap2, W2, s1, s2, s3, s4, s5⟩ := app_part (ty := 55) (W0 := wr) rfl r27 hp1 hC (by omega)
        rw [Nat.zero_add, List.nil_append] at s2
        rw [Nat.zero_add] at s1
        exact Tl.sm_w _ (Tl.wanted_none rfl) (rn_app45 rfl e27 ((hF 30 (by decide +kernel)).1 (by decide)) s1) (below_grown hC s3 (r27.cur.elim fun _ h => by obtain ⟨_, _, e, hz, _⟩ := h; cases e; exact hz) hC.size) (fun i _ hi h => rp5_31 h (fun e => hi (by rw [e])) r27 s3 s4) (fun d hd => by cases hd; exact ⟨g2, cap2, rfl, s2, s5⟩)
      · exact Tl.sm_v 32 _ rfl (Tl.wanted_none rfl) hC rfl (rn_load28 rfl ((hF 3 (by decide +kernel)).2 (by decide)) (by rw [Below.cell hC (p := ⟨w.heap.size, 0, none⟩) hbl]; exact b0) (by rw [Below.cell hC (p := ⟨w.heap.size, 1, none⟩) hbl]; exact b1))
      · exact Tl.sm_w _ (Tl.wanted_none rfl) (rn_bs45 rfl ((hF 32 (by decide +kernel)).1 (by decide))) (Below.trans hC ((boxed W' _).mono hC.size)) (fun _ _ _ h => rp5_below h (boxed W' _)) (fun d hd => by cases hd; exact ⟨W'.heap.size, rfl, hC.size, Has.new W' _ _ _ rfl⟩)
      · obtain ⟨g1, cap1, e31, r31, h31⟩ : ∃ g cap, a'.tmps.getD 31 undef = .slice (some ⟨g, 0, none⟩) k cap ∧ RowZ wr.heap.size W' (.slice (some ⟨g, 0, none⟩) k cap) k (objCells (D.take k)) ∧ (k = 0 → cap = 0) := (hF 31 (by decide +kernel)).1 (by decide)
        obtain ⟨gb, e33, hz33, hh33⟩ : ∃ g, a'.tmps.getD 33 undef = .slice (some ⟨g, 0, none⟩) 1 1 ∧ wr.heap.size ≤ g ∧ Has W' g #[.string n, .string d] 35 := (hF 33 (by decide +kernel)).1 (by decide)
        obtain ⟨g2, cap2, W2, s1, s2, s3, s4, s5⟩ := run_app2 el28 W' 55 wr.heap.size (.slice (some ⟨g1, 0, none⟩) k cap1) k (objCells (D.take k)) r31.1 ⟨gb, 0, none⟩ 1 1 [.string n, .string d] (by decide) rfl (fun j u hu => by
          have e : (⟨gb, 0, none⟩ : Addr).add j = ⟨gb, j, none⟩ := by unfold Addr.add; split <;> simp_all
          rw [e]; exact by simpa using hh33.range j u hu) (by simp [Value.oneCell']) (by omega) hC.size
        exact Tl.sm_w _ (Tl.wanted_none rfl) (rn_app45 rfl e31 e33 s1) (below_grown hC s3 (r31.cur.elim fun _ h => by obtain ⟨_, _, e, hz, _⟩ := h; cases e; exact hz) hC.size) (fun i _ hi h => rp5_34 h (fun e => hi (by rw [e])) r31 h31 hX1 s3 ⟨s4, _, _, rfl⟩) (fun d hd => by cases hd; exact ⟨g2, cap2, rfl, s2, _, _, rfl⟩)
      · exact Tl.sm_v 35 _ rfl (Tl.wanted_none rfl) hC rfl (rn_move rfl ((hF 5 (by decide +kernel)).2 (by decide)))
      · exact Tl.sm_v 36 _ rfl (Tl.wanted_none rfl) hC rfl (rn_move rfl ((hF 6 (by decide +kernel)).2 (by decide)))
      · exact Tl.sm_v 37 _ rfl (Tl.wanted_none rfl) hC rfl (hsl2 _ _ _ _ _ rfl ((hF 35 (by decide +kernel)).1 (by decide)) ((hF 36 (by decide +kernel)).1 (by decide)))
      intro v wB hw hv
      have v34 := hv 34 (by decide)
      have v37 : v 37 = sl2 := hv 37 (by decide)
      obtain ⟨g3, cap3, e34, r34⟩ : ∃ g cap, v 34 = .slice (some ⟨g, 0, none⟩) (k + 1) cap ∧ RowZ wr.heap.size wB (.slice (some ⟨g, 0, none⟩) (k + 1) cap) (k + 1) (objCells (D.take k) ++ ([.string n, .string d] : List Value)) := v34
      clear hv
      obtain ⟨g4, cap4, W4, s1, s2, s3, s4, s5⟩ := app_part (ty := 55) (W0 := wr) rfl r34 hp2 hw (by omega)
      have hwb := below_grown hw s3 (r34.cur.elim fun _ h => by obtain ⟨_, _, e, hz, _⟩ := h; cases e; exact hz) hw.size
      have HF4 := hid (show W4.ownsRow w.heap.size 35 2 (.slice (some ⟨g4, 0, none⟩) (k + 1 + (L - k)) cap4) (put (n, d) M).length (objCells (put (n, d) M)) from by
        have e1 : put (n, d) M = D.take k ++ (n, d) :: D.drop k := by rw [HPut.out, HI.out]
        have e2 : objCells (put (n, d) M) = objCells (D.take k) ++ [.string n, .string d] ++ objCells (D.drop k) := by rw [e1]; simp [objCells]
        have e3 : (put (n, d) M).length = k + 1 + (L - k) := by
          rw [e1, List.length_append, List.length_take, List.length_cons, List.length_drop, HL.out]; omega
        rw [e2, e3]
        exact row_base s2.1 (by omega))
      have HB4 := hid (HB1.out.trans ((HBW.out.trans ((show Below wr.heap.size wr W4 from hwb).mono HBW.out.size)).mono HB1.out.size))
      simp only [Tl.fill, List.drop_succ_cons, List.drop_zero]
      simp only [Act.put, List.setIfInBounds_toArray, List.set_cons_succ, List.set_cons_zero, e34, v37]
      refine wpList_plain rfl fun K hK => ?_
      unfold Oper.wp
      rw [rn_app45 rfl rfl rfl s1]
      refine hK _ _ ?_
      clear hsl1 hsl2 hp1 hp2 hX1 e34 v37 s1 s2 s3 s4 s5 r34 hw hwb b0 b1
      simp only [Act.put, List.setIfInBounds_toArray, List.set_cons_succ, List.set_cons_zero]
      go_wp2_with fail
      go_ret
      exact ⟨_, rfl, HF4.out, HB4.out⟩
end Go.Proofs.YtgdiaflikfdnaaaGreat
