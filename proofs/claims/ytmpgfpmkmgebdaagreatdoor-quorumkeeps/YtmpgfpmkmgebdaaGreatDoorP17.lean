/- Quorum: a manifest is put to all that answer. -/
import Derived.Test.YtmpgfpmkmgebdaaGreatDoorP14
namespace Go.Proofs.YtmpgfpmkmgebdaaGreatDoor
open Go.RowKit Go.Maps
open W
set_option linter.unusedVariables false
/-- a function that puts, as it lies in memory -/
def IsPut (W : World) (b z : Nat) (bb : Bst) (oe og : Int) (v : Value) : Prop := ∃ qs qw qd qb, v = .func (.func 68) #[] #[.pointer (some ⟨qs, 0, none⟩), .pointer (some ⟨qw, 0, none⟩), .pointer (some ⟨qd, 0, none⟩), .pointer (some ⟨qb, 0, none⟩)] ∧ Has W qs #[.func (.func 38) #[.agg #[.int .i64 oe, .int .i64 og]] #[]] 88 ∧ Has W qw #[ptr b] 27 ∧ Has W qd #[.string (mdat bb)] 9 ∧ Has W qb (rV ⟨true, bb⟩).toArray 105 ∧ z ≤ qs ∧ z ≤ qw ∧ z ≤ qd ∧ z ≤ qb
def spF (b g N z : Nat) (bb : Bst) (oe og : Int) (s : Nat) (v : Value) (W : World) : Prop := match s with
  | 11 => v = .slice (some ⟨g, 0, none⟩) N N | 12 => v = .pointer (some ⟨z, 2, none⟩) | 13 => v = .pointer (some ⟨z, 2, none⟩) | 14 => v = .int .i64 bb.k
  | 15 => v = .pointer (some ⟨b, 0, none⟩) | 16 => v = .agg (bV bb).toArray | 17 => v = .agg #[.int .i64 oe, .int .i64 og] | 18 => v = .func (.func 38) #[.agg #[.int .i64 oe, .int .i64 og]] #[]
  | 19 => IsPut W b z bb oe og v
  | _ => True
section
variable {ev : Operand → Value} {o : Oper} {w : World} {x y : Operand}
theorem rn_f34_1 {g k : Nat} (ho : o.op = .fieldAddr 34 x 1) (hx : ev x = .pointer (some ⟨g, k, none⟩)) : (execOp ev o).run Tryz.prog w = .ok (.value (.pointer (some ⟨g, k + 2, none⟩))) w := by
  simp [execOp, ho, hx, go_sem]
theorem rn_f26_0 {g k : Nat} (ho : o.op = .fieldAddr 26 x 0) (hx : ev x = .pointer (some ⟨g, k, none⟩)) : (execOp ev o).run Tryz.prog w = .ok (.value (.pointer (some ⟨g, k, none⟩))) w := by
  simp [execOp, ho, hx, go_sem]
theorem rn_load3k {g k : Nat} {v : Value} (ho : o.op = .load 3 x) (hx : ev x = .pointer (some ⟨g, k, none⟩)) (hc : w.cell? ⟨g, k, none⟩ = some v) : (execOp ev o).run Tryz.prog w = .ok (.value v) w := by
  simp [execOp, ho, hx, go_sem, hc]
theorem rn_load32 {g : Nat} {u v : Int} (ho : o.op = .load 32 x) (hx : ev x = .pointer (some ⟨g, 0, none⟩)) (h0 : w.cell? ⟨g, 0, none⟩ = some (.int .i64 u)) (h1 : w.cell? ⟨g, 1, none⟩ = some (.int .i64 v)) : (execOp ev o).run Tryz.prog w = .ok (.value (.agg #[.int .i64 u, .int .i64 v])) w := by
  simp [execOp, ho, hx, go_sem, h0, h1]
theorem rn_mk37 {u : Value} (ho : o.op = .makeFunc (.func 38) #[x] #[]) (hx : ev x = u) : (execOp ev o).run Tryz.prog w = .ok (.value (.func (.func 38) #[u] #[])) w := by
  simp [execOp, ho, hx, go_sem]
end
theorem ens36 (args : Array Value) (w : World) : (callFunc 37 args).run Tryz.prog w = .ok (.enter 37 args) w := by kernel_rfl
theorem ens38 (args : Array Value) (w : World) : (callFunc 39 args).run Tryz.prog w = .ok (.enter 39 args) w := by kernel_rfl
set_option maxHeartbeats 8000000 in
set_option maxRecDepth 20000 in
theorem spread_any {w0 w : World} {b g N M : Nat} {V : Wd} {P : Nat → Prop} {l : List Hd} {bb : Bst} (oe og : Int) (hwt : WT w0 w b V (fun j => P j ∨ j = g)) (hl0 : F.Lay w0) (hPg : ¬ P g) (hA : AllAt w g l) (hl : l.length = N) (hN : N ≤ 12) (hok : Ok M N V) (hM : M ≤ 800000) (hg0 : w0.heap.size ≤ g) (hbb : mErr bb = 0) (hbn : bb.n = N) :
    Calls Tryz.prog 28 #[ptr b, .slice (some ⟨g, 0, none⟩) N N, .agg (bV bb).toArray, .agg #[.int .i64 oe, .int .i64 og]] w fun e w' => e = .returned (.tuple #[.agg (bV (sprW l bb oe og V).2.1).toArray, er (sprW l bb oe og V).1]) ∧ WT w0 w' b (sprW l bb oe og V).2.2 (fun j => P j ∨ j = g) ∧ Kpt P w w' ∧ Ok (M + 2 * N) N (sprW l bb oe og V).2.2 := by
  obtain ⟨wa, hwa⟩ : ∃ wa, wa = ((w.alloc (.cells (bV bb).toArray 34)).alloc (.cells #[.int .i64 oe, .int .i64 og] 32)).alloc (.cells #[.int .i64 0, .int .i64 0, .int .i64 0, .int .i64 0, .string ⟨#[]⟩] 34) := ⟨_, rfl⟩
  have hB : Below w.heap.size w wa := by rw [hwa]; exact (((Below.refl _ _).alloc (Nat.le_refl _) _).alloc (by simp) _).alloc (by simp; omega) _
  have h1 : Has wa w.heap.size (bV bb).toArray 34 := by rw [hwa]; exact ((Has.new w _ _ _ rfl).alloc _).alloc _
  have h2 : Has wa (w.heap.size + 1) #[.int .i64 oe, .int .i64 og] 32 := by rw [hwa]; exact (Has.new _ (w.heap.size + 1) _ _ (by simp)).alloc _
  have h3 : Has wa (w.heap.size + 2) (bV zB).toArray 34 := by rw [hwa]; exact Has.new _ (w.heap.size + 2) _ _ (by simp)
  have hsz : wa.heap.size = w.heap.size + 3 := by rw [hwa]; simp
  have HWA := hid ((hwt.new hB).sub (T' := fun j => (P j ∨ (w.heap.size ≤ j ∧ j < w.heap.size + 3)) ∨ j = g) fun j hj => by
    rcases hj with (hj | hj) | hj
    · exact .inl (.inl hj)
    · exact .inr ⟨hj.1, by omega⟩
    · exact .inl (.inr hj))
  have HKA := hid ((Kpt.below hwt hB).sub (T' := P) fun j hj => .inl hj)
  have HAA := hid (hA.below hB)
  have HB := hid hB
  have H1 := hid h1
  have H2 := hid h2
  have H3 := hid h3
  have HL0 := hid hl0
  have HPL : Hid (∀ j, P j → j < w.heap.size) := hid fun j hj => hwt.lt j (.inl hj)
  have HGL : Hid (g < w.heap.size) := hid hA.lt
  have HPG := hid hPg
  have HLL := hid hl
  have HOK := hid hok
  have HBB := hid hbb
  have HBN : Hid (bb.n = (V.l.length : Int)) := hid (by rw [hbn, hok.len])
  have l1 := h1.lt
  have l2 := h2.lt
  have c2 : wa.cell? ⟨w.heap.size, 2, none⟩ = some (.int .i64 bb.k) := h1.cell 2
  have d0 : wa.cell? ⟨w.heap.size + 1, 0, none⟩ = some (.int .i64 oe) := h2.cell 0
  have d1 : wa.cell? ⟨w.heap.size + 1, 1, none⟩ = some (.int .i64 og) := h2.cell 1
  clear hbn hwt hl0 hPg hA hl hok hbb hB h1 h2 h3
  obtain ⟨be, bg, bk, bn, bp⟩ := bb
  unfold bV ptr at *
  simp only at *
  go_enter Tryz.func28, Tryz.ntmps28
  go_wp2_with fail
  rw [← hwa]
  clear hwa
  refine Tl.wp_mix_lit (by kernel_rfl) 9 [11, 12, 13, 14, 15, 16, 17, 18, 19] 26 rfl (by kernel_rfl) (BelW wa) (spF b g N w.heap.size ⟨be, bg, bk, bn, bp⟩ oe og) ((Below.refl _ _).drew)
    ⟨fun a' W' hC hF => ?_, fun a' W' hC hF => ?_, fun a' W' hC hF => ?_, fun a' W' hC hF => ?_, fun a' W' hC hF => ?_, fun a' W' hC hF => ?_, fun a' W' hC hF => ?_, fun a' W' hC hF => ?_, fun a' W' hC hF => ?_, trivial⟩ ?_
  · exact Tl.sm_v 11 _ rfl (Tl.wanted_none rfl) hC rfl (rn_move rfl ((hF 1 (by decide +kernel)).2 (by decide)))
  · exact Tl.sm_v 12 _ rfl (Tl.wanted_none rfl) hC rfl (rn_f34_1 rfl ((hF 6 (by decide +kernel)).2 (by decide)))
  · exact Tl.sm_v 13 _ rfl (Tl.wanted_none rfl) hC rfl (rn_f26_0 rfl ((hF 12 (by decide +kernel)).1 (by decide)))
  · exact Tl.sm_v 14 _ rfl (Tl.wanted_none rfl) hC rfl (rn_load3k rfl ((hF 13 (by decide +kernel)).1 (by decide)) (BelW.cell hC (p := ⟨w.heap.size, 2, none⟩) l1 c2))
  · exact Tl.sm_v 15 _ rfl (Tl.wanted_none rfl) hC rfl (rn_move rfl ((hF 0 (by decide +kernel)).2 (by decide)))
  · exact Tl.sm_v 16 _ rfl (Tl.wanted_none rfl) hC rfl (rn_load34 rfl ((hF 6 (by decide +kernel)).2 (by decide)) (H1.out.below hC l1))
  · exact Tl.sm_v 17 _ rfl (Tl.wanted_none rfl) hC rfl (rn_load32 rfl ((hF 7 (by decide +kernel)).2 (by decide)) (BelW.cell hC (p := ⟨w.heap.size + 1, 0, none⟩) l2 d0) (BelW.cell hC (p := ⟨w.heap.size + 1, 1, none⟩) l2 d1))
  · exact Tl.sm_v 18 _ rfl (Tl.wanted_none rfl) hC rfl (rn_mk37 rfl ((hF 17 (by decide +kernel)).1 (by decide)))
  · refine Tl.sm_call 37 #[_, _, _] (Tl.wanted_none rfl) (rn_call3 rfl rfl ((hF 15 (by decide +kernel)).1 (by decide)) ((hF 16 (by decide +kernel)).1 (by decide)) ((hF 18 (by decide +kernel)).1 (by decide)) (ens36 _ _)) ((putter_any (HWA.out.below hC) HL0.out ⟨be, bg, bk, bn, bp⟩ oe og HBB.out HBN.out).mono ?_)
    rintro e w'' ⟨qs, qw, qd, qb, rfl, p1, p2, p3, p4, p5, p6, p7, p8, hb⟩
    have hz : w.heap.size ≤ W'.heap.size := Nat.le_trans HB.out.size (Below.size hC)
    refine ⟨_, rfl, Below.trans hC (hb.mono (Below.size hC)), fun d v hd h => ?_, fun d hd => by cases hd; exact ⟨qs, qw, qd, qb, rfl, p1, p2, p3, p4, by omega, by omega, by omega, by omega⟩⟩
    unfold spF at h ⊢
    split at h <;> first | exact h | exact absurd rfl hd
  intro v w1 hw1 hv
  have v11 : v 11 = .slice (some ⟨g, 0, none⟩) N N := hv 11 (by decide)
  have v14 : v 14 = .int .i64 bk := hv 14 (by decide)
  obtain ⟨qs, qw, qd, qb, v19, p1, p2, p3, p4, p5, p6, p7, p8⟩ := (show IsPut w1 b w.heap.size ⟨be, bg, bk, bn, bp⟩ oe og (v 19) from hv 19 (by decide))
  have hB1 : Below wa.heap.size wa w1 := hw1
  clear hv hw1
  simp only [Tl.fill, List.drop_succ_cons, List.drop_zero, wpList]
  simp only [Act.put, List.setIfInBounds_toArray, List.set_cons_succ, List.set_cons_zero, v11, v14, v19]
  clear v11 v14 v19
  rw [if_pos (Tl.wanted_none rfl)]
  left
  have hwt1 : WT w0 w1 b V (fun j => (P j ∨ (w.heap.size ≤ j ∧ j < w1.heap.size)) ∨ j = g) := (HWA.out.new hB1).sub fun j hj => by
    rcases hj with (hj | hj) | hj
    · exact .inl (.inl (.inl hj))
    · by_cases hjl : j < w.heap.size + 3
      · exact .inl (.inl (.inr ⟨hj.1, hjl⟩))
      · exact .inr ⟨by omega, hj.2⟩
    · exact .inl (.inr hj)
  have hPg1 : ¬ (P g ∨ (w.heap.size ≤ g ∧ g < w1.heap.size)) := fun hj => by
    rcases hj with hj | hj
    · exact HPG.out hj
    · have := HGL.out; omega
  have hw0 : w0.heap.size ≤ w.heap.size := by have := HGL.out; omega
  have HEN := enough_any (w := w1) (P := fun j => P j ∨ (w.heap.size ≤ j ∧ j < w1.heap.size)) bk hwt1 hPg1 (HAA.out.below hB1) HLL.out hN HOK.out hM hg0 (putter_do (bb := ⟨be, bg, bk, bn, bp⟩) (oe := oe) (og := og) HL0.out p1 p2 p3 p4 (.inr ⟨p5, p1.lt⟩) (.inr ⟨p6, p2.lt⟩) (.inr ⟨p7, p3.lt⟩) (.inr ⟨p8, p4.lt⟩) HBB.out hg0) ens65
  have HR1 := hid (H3.out.below hB1 H3.out.lt)
  have HR0 := hid (H1.out.below hB1 H1.out.lt)
  have HK1 := hid (HKA.out.trans ((Kpt.below HWA.out hB1).sub (T' := P) fun j hj => .inl (.inl hj)))
  have HZ1 : Hid (w.heap.size + 3 ≤ w1.heap.size) := hid (by have := hB1.size; omega)
  clear hwt1 hPg1 p1 p2 p3 p4 p5 p6 p7 p8 hB1 HWA HAA HKA c2 d0 d1 l1 l2
  refine wp_call (f := 39) (args := #[.slice (some ⟨g, 0, none⟩) N N, .int .i64 bk, .func (.func 68) #[] #[.pointer (some ⟨qs, 0, none⟩), .pointer (some ⟨qw, 0, none⟩), .pointer (some ⟨qd, 0, none⟩), .pointer (some ⟨qb, 0, none⟩)]]) (rn_call3 rfl rfl rfl rfl rfl (ens38 _ _)) (HEN.mono ?_)
  rintro e w2 ⟨rfl, a1, a2, a3, a4⟩
  clear HEN
  obtain ⟨s, hs⟩ : ∃ s, s = eachE (putD ⟨be, bg, bk, bn, bp⟩ oe og) l V := ⟨_, rfl⟩
  have HSP : Hid (sprW l ⟨be, bg, bk, bn, bp⟩ oe og V = if enoE s bk = 0 then (0, ⟨be, bg, bk, bn, bp⟩, s.V) else (enoE s bk, zB, s.V)) := hid (by unfold sprW; rw [← hs])
  rw [← hs] at a1 a4 ⊢
  have HW2 := hid a1
  have HOK2 := hid a4
  have HK2 := hid (HK1.out.trans (a2.sub fun j hj => .inl hj))
  have HQ2 := hid (a2.has (.inr ⟨by omega, by have := HZ1.out; omega⟩) HR1.out)
  have HQ0 := hid (a2.has (.inr ⟨by omega, by have := HZ1.out; omega⟩) HR0.out)
  clear a1 a2 a3 a4 hs HR1 HR0 HK1
  obtain ⟨ee, hee⟩ : ∃ ee, ee = enoE s bk := ⟨_, rfl⟩
  rw [← hee] at HSP ⊢
  clear hee
  have HFIN : Hid (∀ x : Bst, Has (((((w2.setCell ⟨w.heap.size + 2, 0, none⟩ (.int .i64 x.e)).setCell ⟨w.heap.size + 2, 1, none⟩ (.int .i64 x.g)).setCell ⟨w.heap.size + 2, 2, none⟩ (.int .i64 x.k)).setCell ⟨w.heap.size + 2, 3, none⟩ (.int .i64 x.n)).setCell ⟨w.heap.size + 2, 4, none⟩ (.string x.p)) (w.heap.size + 2) (bV x).toArray 34 ∧ WT w0 (((((w2.setCell ⟨w.heap.size + 2, 0, none⟩ (.int .i64 x.e)).setCell ⟨w.heap.size + 2, 1, none⟩ (.int .i64 x.g)).setCell ⟨w.heap.size + 2, 2, none⟩ (.int .i64 x.k)).setCell ⟨w.heap.size + 2, 3, none⟩ (.int .i64 x.n)).setCell ⟨w.heap.size + 2, 4, none⟩ (.string x.p)) b s.V (fun j => P j ∨ j = g) ∧ Kpt P w (((((w2.setCell ⟨w.heap.size + 2, 0, none⟩ (.int .i64 x.e)).setCell ⟨w.heap.size + 2, 1, none⟩ (.int .i64 x.g)).setCell ⟨w.heap.size + 2, 2, none⟩ (.int .i64 x.k)).setCell ⟨w.heap.size + 2, 3, none⟩ (.int .i64 x.n)).setCell ⟨w.heap.size + 2, 4, none⟩ (.string x.p))) := hid fun x => by
    have ho : Only (fun j => j = w.heap.size + 2) w2 (((((w2.setCell ⟨w.heap.size + 2, 0, none⟩ (.int .i64 x.e)).setCell ⟨w.heap.size + 2, 1, none⟩ (.int .i64 x.g)).setCell ⟨w.heap.size + 2, 2, none⟩ (.int .i64 x.k)).setCell ⟨w.heap.size + 2, 3, none⟩ (.int .i64 x.n)).setCell ⟨w.heap.size + 2, 4, none⟩ (.string x.p)) :=
      Only.set (p := ⟨w.heap.size + 2, 4, none⟩) (Only.set (p := ⟨w.heap.size + 2, 3, none⟩) (Only.set (p := ⟨w.heap.size + 2, 2, none⟩) (Only.set (p := ⟨w.heap.size + 2, 1, none⟩) (Only.set (p := ⟨w.heap.size + 2, 0, none⟩) (Only.refl (fun j => j = w.heap.size + 2) w2) (.inl rfl) _) (.inl rfl) _) (.inl rfl) _) (.inl rfl) _) (.inl rfl) _
    refine ⟨((((HQ2.out.set 0 _).set 1 _).set 2 _).set 3 _).set 4 _, ?_, ?_⟩
    · refine (HW2.out.list (g := w.heap.size + 2) (.inl (.inr ⟨by omega, by have := HZ1.out; omega⟩)) (by omega) ho).sub fun j hj => ?_
      rcases hj with hj | hj
      · exact .inl (.inl hj)
      · exact .inr hj
    · exact HK2.out.trans ⟨ho.size, fun j hj => ho.block j (HW2.out.lt j (.inl (.inl hj))) (by have := HPL.out j hj; omega)⟩
  have y0 : w2.cell? ⟨w.heap.size + 2, 0, none⟩ = some (.int .i64 0) := HQ2.out.cell 0
  have y1 : w2.cell? ⟨w.heap.size + 2, 1, none⟩ = some (.int .i64 0) := HQ2.out.cell 1
  have y2 : w2.cell? ⟨w.heap.size + 2, 2, none⟩ = some (.int .i64 0) := HQ2.out.cell 2
  have y3 : w2.cell? ⟨w.heap.size + 2, 3, none⟩ = some (.int .i64 0) := HQ2.out.cell 3
  have y4 : w2.cell? ⟨w.heap.size + 2, 4, none⟩ = some (.string ⟨#[]⟩) := HQ2.out.cell 4
  have f0 := HQ2.out.frozen 0
  have f1 := HQ2.out.frozen 1
  have f2 := HQ2.out.frozen 2
  have f3 := HQ2.out.frozen 3
  have f4 := HQ2.out.frozen 4
  have x0 : w2.cell? ⟨w.heap.size, 0, none⟩ = some (.int .i64 be) := HQ0.out.cell 0
  have x1 : w2.cell? ⟨w.heap.size, 1, none⟩ = some (.int .i64 bg) := HQ0.out.cell 1
  have x2 : w2.cell? ⟨w.heap.size, 2, none⟩ = some (.int .i64 bk) := HQ0.out.cell 2
  have x3 : w2.cell? ⟨w.heap.size, 3, none⟩ = some (.int .i64 bn) := HQ0.out.cell 3
  have x4 : w2.cell? ⟨w.heap.size, 4, none⟩ = some (.string bp) := HQ0.out.cell 4
  refine ⟨_, rfl, ?_⟩
  unfold er
  simp only [Act.put, List.setIfInBounds_toArray, List.set_cons_succ, List.set_cons_zero]
  rw [if_pos (Tl.wanted_none rfl)]
  left
  refine wp_assign (x := .tmp 20) (d := 10) (v := .int .i64 ee) rfl rfl rfl ?_
  simp only [Act.put, List.setIfInBounds_toArray, List.set_cons_succ, List.set_cons_zero]
  by_cases e0 : ee = 0
  · rw [if_pos e0] at HSP
    subst e0
    have HF := hid (HFIN.out ⟨be, bg, bk, bn, bp⟩)
    clear HFIN
    go_wp2_with fail
    refine F.ret_cell (b := w.heap.size + 2) (cs := bV ⟨be, bg, bk, bn, bp⟩) (p := 8) (u := 9) (v := .int .i64 0) rfl ?_ ?_ rfl HF.out.1.range Tryz.underlying34 rfl info34 ?_
    · rfl
    · rfl
    · rw [HSP.out]
      exact ⟨rfl, HF.out.2.1, HF.out.2.2, HOK2.out⟩
  · rw [if_neg e0] at HSP
    have q1 : (ee != 0) = true := by simpa using e0
    have HF := hid (HFIN.out zB)
    clear HFIN e0
    go_wp2_with fail
    refine F.ret_cell (b := w.heap.size + 2) (cs := bV zB) (p := 8) (u := 9) (v := .int .i64 ee) rfl ?_ ?_ rfl HF.out.1.range Tryz.underlying34 rfl info34 ?_
    · rfl
    · rfl
    · rw [HSP.out]
      exact ⟨rfl, HF.out.2.1, HF.out.2.2, HOK2.out⟩
end Go.Proofs.YtmpgfpmkmgebdaaGreatDoor
/- Quorum: what was found stands for good in all that answer. -/
namespace Go.Proofs.YtmpgfpmkmgebdaaGreatDoor
open Go.RowKit Go.Maps
open W
set_option linter.unusedVariables false
set_option maxHeartbeats 8000000 in
set_option maxRecDepth 20000 in
theorem settle_any {w0 w : World} {b g N M : Nat} {V : Wd} {P : Nat → Prop} {l : List Hd} {bb : Bst} (hwt : WT w0 w b V (fun j => P j ∨ j = g)) (hl0 : F.Lay w0) (hPg : ¬ P g) (hA : AllAt w g l) (hl : l.length = N) (hN : N ≤ 12) (hok : Ok M N V) (hM : M ≤ 800000) (hg0 : w0.heap.size ≤ g) (hbb : mErr bb = 0) (hbn : bb.n = N) :
    Calls Tryz.prog 45 #[ptr b, .slice (some ⟨g, 0, none⟩) N N, .agg (bV bb).toArray] w fun e w' => e = .returned (er (enoE (eachE (setD bb) l V) bb.k)) ∧ WT w0 w' b (eachE (setD bb) l V).V (fun j => P j ∨ j = g) ∧ Kpt P w w' ∧ AllAt w' g (eachE (setD bb) l V).l ∧ Ok (M + 2 * N) N (eachE (setD bb) l V).V := by
  obtain ⟨wa, hwa⟩ : ∃ wa, wa = (w.alloc (.cells #[ptr b] 27)).alloc (.cells (bV bb).toArray 34) := ⟨_, rfl⟩
  have hB : Below w.heap.size w wa := by rw [hwa]; exact ((Below.refl _ _).alloc (Nat.le_refl _) _).alloc (by simp) _
  have h1 : Has wa w.heap.size #[ptr b] 27 := by rw [hwa]; exact (Has.new w _ _ _ rfl).alloc _
  have h2 : Has wa (w.heap.size + 1) (bV bb).toArray 34 := by rw [hwa]; exact Has.new _ (w.heap.size + 1) _ _ (by simp)
  have hsz : wa.heap.size = w.heap.size + 2 := by rw [hwa]; simp
  have HWA := hid ((hwt.new hB).sub (T' := fun j => (P j ∨ (w.heap.size ≤ j ∧ j < w.heap.size + 2)) ∨ j = g) fun j hj => by
    rcases hj with (hj | hj) | hj
    · exact .inl (.inl hj)
    · exact .inr ⟨hj.1, by omega⟩
    · exact .inl (.inr hj))
  have HKA := hid ((Kpt.below hwt hB).sub (T' := P) fun j hj => .inl hj)
  have HAA := hid (hA.below hB)
  have HB := hid hB
  have H1 := hid h1
  have H2 := hid h2
  have HL0 := hid hl0
  have HPL : Hid (∀ j, P j → j < w.heap.size) := hid fun j hj => hwt.lt j (.inl hj)
  have HGL : Hid (g < w.heap.size) := hid hA.lt
  have HPG := hid hPg
  have HLL := hid hl
  have HOK := hid hok
  have HBB := hid hbb
  have HPT := putter_any (HWA.out) hl0 bb bb.e bb.g hbb (by rw [hbn, hok.len])
  have c0 := h1.cell 0
  have d0 := h2.cell 0
  have d1 := h2.cell 1
  have d2 := h2.cell 2
  have d3 := h2.cell 3
  have d4 := h2.cell 4
  clear hbn hwt hl0 hPg hA hl hok hbb hB h1 h2
  obtain ⟨be, bg, bk, bn, bp⟩ := bb
  unfold bV ptr at *
  simp only [List.getElem?_toArray, List.getElem?_cons_zero, List.getElem?_cons_succ] at *
  rw [hwa] at c0 d0 d1 d2 d3 d4
  go_enter Tryz.func45, Tryz.ntmps45
  go_wp2_with fail
  rw [← hwa]
  clear hwa c0 d0 d1 d2 d3 d4
  refine HPT.mono ?_
  rintro e w1 ⟨qs, qw, qd, qb, rfl, p1, p2, p3, p4, p5, p6, p7, p8, hB1⟩
  clear HPT
  obtain ⟨fv, hfv⟩ : ∃ fv : Value, fv = .func (.func 68) #[] #[.pointer (some ⟨qs, 0, none⟩), .pointer (some ⟨qw, 0, none⟩), .pointer (some ⟨qd, 0, none⟩), .pointer (some ⟨qb, 0, none⟩)] := ⟨_, rfl⟩
  obtain ⟨w2, hw2⟩ : ∃ w2, w2 = w1.alloc (.cells #[.func (.func 68) #[] #[.pointer (some ⟨qs, 0, none⟩), .pointer (some ⟨qw, 0, none⟩), .pointer (some ⟨qd, 0, none⟩), .pointer (some ⟨qb, 0, none⟩)]] 86) := ⟨_, rfl⟩
  have hb2 : Below w1.heap.size w1 w2 := by rw [hw2]; exact boxed _ _
  have hB2 : Below wa.heap.size wa w2 := hB1.trans (hb2.mono hB1.size)
  have hp2 : Has w2 w1.heap.size #[.func (.func 68) #[] #[.pointer (some ⟨qs, 0, none⟩), .pointer (some ⟨qw, 0, none⟩), .pointer (some ⟨qd, 0, none⟩), .pointer (some ⟨qb, 0, none⟩)]] 86 := by rw [hw2]; exact Has.new _ _ _ _ rfl
  have hwt1 : WT w0 w2 b V (fun j => (P j ∨ (w.heap.size ≤ j ∧ j < w2.heap.size)) ∨ j = g) := (HWA.out.new hB2).sub fun j hj => by
    rcases hj with (hj | hj) | hj
    · exact .inl (.inl (.inl hj))
    · by_cases hjl : j < w.heap.size + 2
      · exact .inl (.inl (.inr ⟨hj.1, hjl⟩))
      · exact .inr ⟨by omega, hj.2⟩
    · exact .inl (.inr hj)
  have hPg1 : ¬ (P g ∨ (w.heap.size ≤ g ∧ g < w2.heap.size)) := fun hj => by
    rcases hj with hj | hj
    · exact HPG.out hj
    · have := HGL.out; omega
  have hz1 := hB1.size
  have hz2 := hb2.size
  have hqf : Has w2 (w.heap.size + 1) (bV ⟨be, bg, bk, bn, bp⟩).toArray 34 := H2.out.below hB2 H2.out.lt
  have hqw : Has w2 w.heap.size #[ptr b] 27 := H1.out.below hB2 H1.out.lt
  have hput := putter_do (w := w2) (N := N) (P := fun j => P j ∨ (w.heap.size ≤ j ∧ j < w2.heap.size)) (bb := ⟨be, bg, bk, bn, bp⟩) (oe := be) (og := bg) HL0.out (p1.below hb2 p1.lt) (p2.below hb2 p2.lt) (p3.below hb2 p3.lt) (p4.below hb2 p4.lt) (.inr ⟨by omega, by have := p1.lt; omega⟩) (.inr ⟨by omega, by have := p2.lt; omega⟩) (.inr ⟨by omega, by have := p3.lt; omega⟩) (.inr ⟨by omega, by have := p4.lt; omega⟩) HBB.out hg0
  have HEN := enough_any (w := w2) (P := fun j => P j ∨ (w.heap.size ≤ j ∧ j < w2.heap.size)) bk hwt1 hPg1 (HAA.out.below hB2) HLL.out hN HOK.out hM hg0 (settle_do hqf hqw hp2 (.inr ⟨by omega, by have := hqf.lt; omega⟩) (.inr ⟨by omega, by have := hqw.lt; omega⟩) (.inr ⟨by omega, by have := hp2.lt; omega⟩) hput) ens70
  have HK2 := hid (HKA.out.trans ((Kpt.below HWA.out hB2).sub (T' := P) fun j hj => .inl (.inl hj)))
  have x2 : w2.cell? ⟨w.heap.size + 1, 2, none⟩ = some (.int .i64 bk) := hqf.cell 2
  clear hwt1 hPg1 p1 p2 p3 p4 p5 p6 p7 p8 hB1 hB2 hb2 hp2 hqf hqw hput HWA HAA HKA hz1 hz2 hfv
  rw [hw2] at x2
  go_wp2_with fail
  rw [← hw2]
  refine HEN.mono ?_
  rintro e w3 ⟨rfl, a1, a2, a3, a4⟩
  have HG := hid (And.intro (a1.sub (T' := fun j => P j ∨ j = g) fun j hj => by
    rcases hj with hj | hj
    · exact .inl (.inl hj)
    · exact .inr hj) (And.intro (HK2.out.trans (a2.sub (T' := P) fun j hj => .inl hj)) (And.intro a3 a4)))
  clear a1 a2 a3 a4 HEN x2 hw2
  unfold er
  go_wp2_with fail
  go_ret
  exact ⟨rfl, HG.out⟩
end Go.Proofs.YtmpgfpmkmgebdaaGreatDoor
/- Quorum: what is found; what may be put. -/
namespace Go.Proofs.YtmpgfpmkmgebdaaGreatDoor
open Go.RowKit Go.Maps
open W
set_option linter.unusedVariables false
theorem gath_ok (m : Int) {n : Nat} : ∀ (k i : Nat) (V : Wd) (acc : List Hd) (M : Nat), Ok M n V → Ok (M + 2 * k) n (gath m k i V acc).2.1 ∧ ((gath m k i V acc).1 = 0 ∨ (gath m k i V acc).1 = 56)
  | 0, _, _, _, _, h => ⟨h, .inl rfl⟩
  | k + 1, i, V, acc, M, h => by
    have h1 := h.get (i : Int)
    have h2 := h1.get (i : Int)
    unfold gath
    split
    · exact ⟨h1.more (by omega), .inr rfl⟩
    · split
      · exact ⟨h2.more (by omega), .inr rfl⟩
      · have := gath_ok m k (i + 1) _ (acc ++ [⟨okE (getW V (i : Int) m0).2 && okE (getW (askW V (i : Int)) (i : Int) m1).2, lookd m (getW V (i : Int) m0).1, lookd m (getW (askW V (i : Int)) (i : Int) m1).1⟩]) (M + 1 + 1) h2
        rw [show M + 2 * (k + 1) = M + 1 + 1 + 2 * k by omega]
        exact this
theorem gathW_ok {M n : Nat} {V : Wd} (h : Ok M n V) : Ok (M + 2 * n) n (gathW V).2.1 ∧ ((gathW V).1 = 0 ∨ (gathW V).1 = 56) := by
  unfold gathW
  rw [h.len]
  exact gath_ok n n 0 V [] M h
/-- three results, the second one in a cell -/
theorem res3 {fn : Func} {tmps : Array Value} {W : World} {b : Nat} {x : Bst} {s p u : Tmp} {v1 v3 : Value} (hf : fn.results = #[.tmp s, .cell p 34, .tmp u]) (hs : tmps.getD s undef = v1) (hp : tmps.getD p undef = .pointer (some ⟨b, 0, none⟩)) (hv : tmps.getD u undef = v3) (hc : Has W b (bV x).toArray 34) : (results fn tmps).run Tryz.prog W = .ok (.tuple #[v1, .agg (bV x).toArray, v3]) W := by
  have c0 := hc.cell 0
  have c1 := hc.cell 1
  have c2 := hc.cell 2
  have c3 := hc.cell 3
  have c4 := hc.cell 4
  simp only [bV, List.getElem?_toArray, List.getElem?_cons_zero, List.getElem?_cons_succ] at c0 c1 c2 c3 c4
  simp only [results, hf]
  simp only [Array.getD_eq_getD_getElem?] at hp hv hs
  simp [go_sem, hp, hv, hs, c0, c1, c2, c3, c4, bV]
def smallR (r : Rp) : Prop := (0 ≤ r.b.n ∧ r.b.n ≤ 255) ∧ 0 ≤ r.b.k ∧ r.b.k ≤ 255
theorem lookd_small (n : Int) (s : ByteArray) : smallR (lookd n s) := by
  unfold lookd
  split
  · have h1 := F.fB_byte s 13
    have h2 := F.fB_byte s 12
    unfold smallR
    simp only
    omega
  · exact ⟨⟨by decide, by decide⟩, by decide, by decide⟩
theorem gath_small (m : Int) : ∀ (k i : Nat) (V : Wd) (acc : List Hd), (∀ h ∈ acc, smallR h.r0 ∧ smallR h.r1) → ∀ h ∈ (gath m k i V acc).2.2, smallR h.r0 ∧ smallR h.r1
  | 0, _, _, _, h => h
  | k + 1, i, V, acc, h => by
    unfold gath
    split
    · intro x hx; simp at hx
    · split
      · intro x hx; simp at hx
      · refine gath_small m k (i + 1) _ _ fun x hx => ?_
        rcases List.mem_append.1 hx with hx | hx
        · exact h x hx
        · rw [List.mem_singleton] at hx
          subst hx
          exact ⟨lookd_small _ _, lookd_small _ _⟩
theorem nw_small {l : List Hd} (h : ∀ x ∈ l, smallR x.r0 ∧ smallR x.r1) : smallR (nwst l) := by
  rcases (nw_fold l (idx 0 l) noR).2.2 with e | ⟨i, _, x, hx, hr, _⟩
  · unfold nwst
    rw [e]
    exact ⟨⟨by decide, by decide⟩, by decide, by decide⟩
  · have := h x (List.mem_of_getElem? hx)
    unfold nwst
    rcases hr with hr | hr
    · rw [← hr]; exact this.1
    · rw [← hr]; exact this.2
theorem put5 {W : World} {q : Nat} {a c : Bst} (h : Has W q (bV a).toArray 34) : Has (((((W.setCell ⟨q, 0, none⟩ (.int .i64 c.e)).setCell ⟨q, 1, none⟩ (.int .i64 c.g)).setCell ⟨q, 2, none⟩ (.int .i64 c.k)).setCell ⟨q, 3, none⟩ (.int .i64 c.n)).setCell ⟨q, 4, none⟩ (.string c.p)) q (bV c).toArray 34 ∧ Only (fun j => j = q) W (((((W.setCell ⟨q, 0, none⟩ (.int .i64 c.e)).setCell ⟨q, 1, none⟩ (.int .i64 c.g)).setCell ⟨q, 2, none⟩ (.int .i64 c.k)).setCell ⟨q, 3, none⟩ (.int .i64 c.n)).setCell ⟨q, 4, none⟩ (.string c.p)) :=
  ⟨((((h.set 0 _).set 1 _).set 2 _).set 3 _).set 4 _, Only.set (p := ⟨q, 4, none⟩) (Only.set (p := ⟨q, 3, none⟩) (Only.set (p := ⟨q, 2, none⟩) (Only.set (p := ⟨q, 1, none⟩) (Only.set (p := ⟨q, 0, none⟩) (Only.refl (fun j => j = q) W) (.inl rfl) _) (.inl rfl) _) (.inl rfl) _) (.inl rfl) _) (.inl rfl) _⟩
theorem zero5 {W : World} {q : Nat} (h : Has W q (bV zB).toArray 34) : (W.cell? ⟨q, 0, none⟩ = some (.int .i64 0) ∧ W.cell? ⟨q, 1, none⟩ = some (.int .i64 0) ∧ W.cell? ⟨q, 2, none⟩ = some (.int .i64 0) ∧ W.cell? ⟨q, 3, none⟩ = some (.int .i64 0) ∧ W.cell? ⟨q, 4, none⟩ = some (.string ⟨#[]⟩)) ∧ W.frozen? ⟨q, 0, none⟩ = false ∧ W.frozen? ⟨q, 1, none⟩ = false ∧ W.frozen? ⟨q, 2, none⟩ = false ∧ W.frozen? ⟨q, 3, none⟩ = false ∧ W.frozen? ⟨q, 4, none⟩ = false :=
  ⟨⟨h.cell 0, h.cell 1, h.cell 2, h.cell 3, h.cell 4⟩, h.frozen 0, h.frozen 1, h.frozen 2, h.frozen 3, h.frozen 4⟩
set_option maxHeartbeats 8000000 in
set_option maxRecDepth 20000 in
theorem find_any {w0 w : World} {b : Nat} {V : Wd} {T : Nat → Prop} (h : WT w0 w b V T) (hl : F.Lay w0) {M n : Nat} (hok : Ok M n V) (hn : n ≤ 12) (hM : M ≤ 800000) (Q : Ending → World → Prop)
    (hqE : (findW V).1 ≠ 0 → ∀ w', WT w0 w' b (findW V).2.1 T → Kpt T w w' → Q (.returned (.tuple #[.slice none 0 0, .agg (bV zB).toArray, .int .i64 (findW V).1])) w')
    (hqO : (findW V).1 = 0 → (findW V).2.2.length = n → ∀ w' g, WT w0 w' b (findW V).2.1 (fun i => T i ∨ i = g) → Kpt T w w' → AllAt w' g (findW V).2.2 → w.heap.size ≤ g → Q (.returned (.tuple #[.slice (some ⟨g, 0, none⟩) n n, .agg (bV (nwst (findW V).2.2).b).toArray, .int .i64 0])) w') : Calls Tryz.prog 44 #[ptr b] w Q := by
  obtain ⟨wa, hwa⟩ : ∃ wa, wa = w.alloc (.cells #[.int .i64 0, .int .i64 0, .int .i64 0, .int .i64 0, .string ⟨#[]⟩] 34) := ⟨_, rfl⟩
  have hB : Below w.heap.size w wa := by rw [hwa]; exact boxed _ _
  have h1 : Has wa w.heap.size (bV zB).toArray 34 := by rw [hwa]; exact Has.new _ _ _ _ rfl
  have hsz : wa.heap.size = w.heap.size + 1 := by rw [hwa]; simp
  have HWA := hid ((h.new hB).sub (T' := fun j => T j ∨ j = w.heap.size) fun j hj => by
    rcases hj with hj | hj
    · exact .inl hj
    · exact .inr ⟨by omega, by omega⟩)
  have HKA := hid (Kpt.below h hB)
  have HTL : Hid (∀ j, T j → j < w.heap.size) := hid h.lt
  have HW0 : Hid (w0.heap.size ≤ w.heap.size) := hid h.base.size
  have H1 := hid h1
  have HL := hid hl
  have HOK := hid hok
  have HQE := hid hqE
  have HQO := hid hqO
  clear h hl hok hqE hqO hB h1
  unfold ptr at *
  go_enter Tryz.func44, Tryz.ntmps44
  go_wp2_with fail
  rw [← hwa]
  clear hwa
  refine gather_any HWA.out HL.out HOK.out hn (by omega) _ ?cut ?okk
  case cut =>
    intro hg1 w1 a1 a2
    have hq0 : Has w1 w.heap.size (bV zB).toArray 34 := a2.has (.inr rfl) H1.out
    obtain ⟨⟨y0, y1, y2, y3, y4⟩, f0, f1, f2, f3, f4⟩ := zero5 hq0
    have hf : (findW V).1 = 56 := by
      unfold findW
      rw [hg1]
      rfl
    obtain ⟨p1, p2⟩ := put5 (c := zB) hq0
    have HF := hid (And.intro p1 p2)
    have HQ := hid (HQE.out (by rw [hf]; decide) _ ((a1.list (g := w.heap.size) (.inr rfl) HW0.out p2).sub fun j hj => .inl hj) ((HKA.out.trans (a2.sub (T' := T) fun j hj => .inl hj)).trans ⟨p2.size, fun j hj => p2.block j (a1.lt j (.inl hj)) (by have := HTL.out j hj; omega)⟩))
    rw [hf] at HQ
    clear a1 a2 hq0 p1 p2 hg1 hf
    go_wp2_with fail
    refine bodyPost_ret (res3 (s := 2) (p := 3) (u := 4) (b := w.heap.size) (x := zB) (v1 := .slice none 0 0) (v3 := .int .i64 56) rfl ?_ ?_ ?_ HF.out.1) rfl ?_
    · rfl
    · rfl
    · rfl
    · exact HQ.out
  case okk =>
    intro hg1 hgl w1 g a1 a2 a3 a4
    have hfw : (findW V).2.2 = (gathW V).2.2 ∧ (findW V).2.1 = (gathW V).2.1 ∧ (findW V).1 = findE (gathW V).2.2 := ⟨rfl, rfl, by unfold findW; rw [if_pos hg1]⟩
    obtain ⟨l, hl⟩ : ∃ l, l = (gathW V).2.2 := ⟨_, rfl⟩
    rw [← hl] at hfw a3 hgl
    have hsm : smallR (nwst l) := nw_small (by rw [hl]; exact gath_small _ _ _ _ _ (fun x hx => by simp at hx))
    have HNW := newest_any a3 hgl (by omega)
    have hq0 : Has w1 w.heap.size (bV zB).toArray 34 := a2.has (.inr rfl) H1.out
    have HW1 := hid a1
    have HK1 := hid a2
    have HA1 := hid a3
    have HG1 := hid a4
    have HQ0 := hid hq0
    have HFW := hid hfw
    have HGL := hid hgl
    have HLE := hid hl
    clear hl a1 a2 a3 a4 hq0 hfw hg1
    obtain ⟨nw, hnw⟩ : ∃ nw, nw = nwst l := ⟨_, rfl⟩
    rw [← hnw] at HNW hsm
    have HNE := hid hnw
    clear hnw
    obtain ⟨ns, ne, ng, nk, nn, np⟩ := nw
    unfold bV at HNW
    simp only at HNW
    unfold smallR at hsm
    simp only at hsm
    go_wp2_with fail
    refine HNW.mono ?_
    rintro e w2 ⟨rfl, hb2⟩
    clear HNW
    obtain ⟨w3, hw3⟩ : ∃ w3, w3 = w2.alloc (.cells #[.int .i64 ne, .int .i64 ng, .int .i64 nk, .int .i64 nn, .string np] 34) := ⟨_, rfl⟩
    have hb3 : Below w1.heap.size w1 w3 := by rw [hw3]; exact hb2.alloc hb2.size _
    have hf3 : Has w3 w2.heap.size (bV ⟨ne, ng, nk, nn, np⟩).toArray 34 := by rw [hw3]; exact Has.new _ _ _ _ rfl
    have HAN := answers_any (HA1.out.below hb3) HGL.out (by omega)
    have HF3 := hid hf3
    have HB3 := hid hb3
    have HS2 : Hid (w1.heap.size ≤ w2.heap.size) := hid hb2.size
    clear hb2 hb3 hf3
    go_wp2_with fail
    rw [← hw3]
    clear hw3
    refine HAN.mono ?_
    rintro e w4 ⟨rfl, hb4⟩
    clear HAN
    have hb5 : Below w1.heap.size w1 w4 := HB3.out.trans (hb4.mono HB3.out.size)
    have hq4 := HQ0.out.below hb5 HQ0.out.lt
    have hf4 := HF3.out.below hb4 HF3.out.lt
    obtain ⟨⟨y0, y1, y2, y3, y4⟩, f0, f1, f2, f3, f4⟩ := zero5 hq4
    have x0 := hf4.cell 0
    have x1 := hf4.cell 1
    have x2 := hf4.cell 2
    have x3 := hf4.cell 3
    have x4 := hf4.cell 4
    simp only [bV, List.getElem?_toArray, List.getElem?_cons_zero, List.getElem?_cons_succ] at x0 x1 x2 x3 x4
    have HW4 := hid ((HW1.out.below hb5))
    have HK4 := hid (HK1.out.trans (Kpt.below (HW1.out.sub (T' := fun j => T j ∨ j = w.heap.size) fun j hj => .inl hj) hb5))
    have HA4 := hid (HA1.out.below hb5)
    have HQ4 := hid hq4
    clear hb4 hb5 hq4 hf4 HW1 HK1 HA1 HQ0 HF3 HB3
    have HEND : Hid (∀ x : Bst, WT w0 (((((w4.setCell ⟨w.heap.size, 0, none⟩ (.int .i64 x.e)).setCell ⟨w.heap.size, 1, none⟩ (.int .i64 x.g)).setCell ⟨w.heap.size, 2, none⟩ (.int .i64 x.k)).setCell ⟨w.heap.size, 3, none⟩ (.int .i64 x.n)).setCell ⟨w.heap.size, 4, none⟩ (.string x.p)) b (gathW V).2.1 (fun i => T i ∨ i = g) ∧ Kpt T w (((((w4.setCell ⟨w.heap.size, 0, none⟩ (.int .i64 x.e)).setCell ⟨w.heap.size, 1, none⟩ (.int .i64 x.g)).setCell ⟨w.heap.size, 2, none⟩ (.int .i64 x.k)).setCell ⟨w.heap.size, 3, none⟩ (.int .i64 x.n)).setCell ⟨w.heap.size, 4, none⟩ (.string x.p)) ∧ AllAt (((((w4.setCell ⟨w.heap.size, 0, none⟩ (.int .i64 x.e)).setCell ⟨w.heap.size, 1, none⟩ (.int .i64 x.g)).setCell ⟨w.heap.size, 2, none⟩ (.int .i64 x.k)).setCell ⟨w.heap.size, 3, none⟩ (.int .i64 x.n)).setCell ⟨w.heap.size, 4, none⟩ (.string x.p)) g l ∧ Has (((((w4.setCell ⟨w.heap.size, 0, none⟩ (.int .i64 x.e)).setCell ⟨w.heap.size, 1, none⟩ (.int .i64 x.g)).setCell ⟨w.heap.size, 2, none⟩ (.int .i64 x.k)).setCell ⟨w.heap.size, 3, none⟩ (.int .i64 x.n)).setCell ⟨w.heap.size, 4, none⟩ (.string x.p)) w.heap.size (bV x).toArray 34) := hid fun x => by
      obtain ⟨p1, p2⟩ := put5 (c := x) HQ4.out
      refine ⟨(HW4.out.list (g := w.heap.size) (.inl (.inr rfl)) HW0.out p2).sub fun j hj => ?_, (HKA.out.trans (HK4.out.sub (T' := T) fun j hj => .inl hj)).trans ⟨p2.size, fun j hj => p2.block j (HW4.out.lt j (.inl (.inl hj))) (by have := HTL.out j hj; omega)⟩, HA4.out.only p2 (by have := HG1.out; omega), p1⟩
      rcases hj with hj | hj
      · exact .inl (.inl hj)
      · exact .inr hj
    obtain ⟨c, hc⟩ : ∃ c, c = (idx 0 l).length := ⟨_, rfl⟩
    rw [← hc]
    have hcl : c ≤ n := by
      rw [hc, idx_len, ← HGL.out]
      exact List.countP_le_length
    have HFE : Hid ((findW V).1 = if ns then (if (c : Int) < nn - nk + 1 then 55 else 0) else if c = n then 5 else 55) := hid (by
      rw [HFW.out.2.2]
      unfold findE
      rw [← HNE.out, ← hc, HGL.out])
    clear hc
    cases ns with
    | false =>
      simp only [Bool.false_eq_true, if_false] at HFE
      by_cases hcn : c = n
      · have hf : (findW V).1 = 5 := by rw [HFE.out, if_pos hcn]
        subst hcn
        have HE := HEND.out zB
        have HQ := hid (HQE.out (by rw [hf]; decide) _ (by rw [HFW.out.2.1]; exact HE.1.sub fun j hj => .inl hj) HE.2.1)
        rw [hf] at HQ
        have HHE := hid HE.2.2.2
        clear HE HEND hf
        go_wp2_with fail
        refine bodyPost_ret (res3 (s := 2) (p := 3) (u := 4) (b := w.heap.size) (x := zB) (v1 := .slice none 0 0) (v3 := .int .i64 5) rfl ?_ ?_ ?_ HHE.out) rfl ?_
        · rfl
        · rfl
        · rfl
        · exact HQ.out
      · have hf : (findW V).1 = 55 := by rw [HFE.out, if_neg hcn]
        have q1 : ((c : Int) == (n : Int)) = false := by
          simp
          omega
        clear hcn
        have HE := HEND.out zB
        have HQ := hid (HQE.out (by rw [hf]; decide) _ (by rw [HFW.out.2.1]; exact HE.1.sub fun j hj => .inl hj) HE.2.1)
        rw [hf] at HQ
        have HHE := hid HE.2.2.2
        clear HE HEND hf
        go_wp2_with fail
        refine bodyPost_ret (res3 (s := 2) (p := 3) (u := 4) (b := w.heap.size) (x := zB) (v1 := .slice none 0 0) (v3 := .int .i64 55) rfl ?_ ?_ ?_ HHE.out) rfl ?_
        · rfl
        · rfl
        · rfl
        · exact HQ.out
    | true =>
      simp only [if_true] at HFE
      have wr1 : IntKind.i64.wrap (nn - nk) = nn - nk := wrap_i64_of (by omega) (by omega)
      have wr2 : IntKind.i64.wrap (nn - nk + 1) = nn - nk + 1 := wrap_i64_of (by omega) (by omega)
      by_cases hcn : (c : Int) < nn - nk + 1
      · have hf : (findW V).1 = 55 := by rw [HFE.out, if_pos hcn]
        have HE := HEND.out zB
        have HQ := hid (HQE.out (by rw [hf]; decide) _ (by rw [HFW.out.2.1]; exact HE.1.sub fun j hj => .inl hj) HE.2.1)
        rw [hf] at HQ
        have HHE := hid HE.2.2.2
        clear HE HEND hf
        go_wp2_with fail
        refine bodyPost_ret (res3 (s := 2) (p := 3) (u := 4) (b := w.heap.size) (x := zB) (v1 := .slice none 0 0) (v3 := .int .i64 55) rfl ?_ ?_ ?_ HHE.out) rfl ?_
        · rfl
        · rfl
        · rfl
        · exact HQ.out
      · have hf : (findW V).1 = 0 := by rw [HFE.out, if_neg hcn]
        have HE := HEND.out ⟨ne, ng, nk, nn, np⟩
        have hbb : (nwst (findW V).2.2).b = ⟨ne, ng, nk, nn, np⟩ := by rw [HFW.out.1, ← HNE.out]
        have HBB := hid hbb
        have HF0 := hid hf
        have HEE := hid HE
        clear HE HEND hf hbb
        go_wp2_with fail
        go_region
        have hE := HEE.out
        obtain ⟨W5, hW5⟩ : ∃ W5, W5 = ((((w4.setCell ⟨w.heap.size, 0, none⟩ (.int .i64 ne)).setCell ⟨w.heap.size, 1, none⟩ (.int .i64 ng)).setCell ⟨w.heap.size, 2, none⟩ (.int .i64 nk)).setCell ⟨w.heap.size, 3, none⟩ (.int .i64 nn)).setCell ⟨w.heap.size, 4, none⟩ (.string np) := ⟨_, rfl⟩
        rw [← hW5] at hE ⊢
        have hbd : Below W5.heap.size W5 W5.drew := (Below.refl _ _).drew
        have HQ := hid (HQO.out HF0.out (by rw [HFW.out.1]; exact HGL.out) W5.drew g (by rw [HFW.out.2.1]; exact hE.1.below hbd) (hE.2.1.trans ((Kpt.below hE.1 hbd).sub (T' := T) fun j hj => .inl hj)) (by rw [HFW.out.1]; exact hE.2.2.1.below hbd) (by have := HG1.out; omega))
        rw [HBB.out] at HQ
        have HH5 := hid (hE.2.2.2.below hbd hE.2.2.2.lt)
        clear hE hbd hW5 HEE
        go_wp2_with fail
        refine bodyPost_ret (res3 (s := 2) (p := 3) (u := 4) (b := w.heap.size) (x := ⟨ne, ng, nk, nn, np⟩) (v1 := .slice (some ⟨g, 0, none⟩) n n) (v3 := .int .i64 0) rfl ?_ ?_ ?_ HH5.out) rfl ?_
        · rfl
        · rfl
        · rfl
        · exact HQ.out
end Go.Proofs.YtmpgfpmkmgebdaaGreatDoor
