/- Quorum: Read; what may be put. -/
import Derived.Test.YtmpgfpmkmgebdaaGreatDoorP18
namespace Go.Proofs.YtmpgfpmkmgebdaaGreatDoor
open Go.RowKit Go.Maps
open W
set_option linter.unusedVariables false
def mpF (b q n : Nat) (bn : Int) (s : Nat) (v : Value) (_ : World) : Prop := match s with
  | 7 => v = .pointer (some ⟨b, 0, none⟩) | 8 => v = .bool false | 9 => v = .bool false | 10 => v = .pointer (some ⟨q, 2, none⟩) | 11 => v = .pointer (some ⟨q, 3, none⟩) | 12 => v = .int .i64 bn | 13 => v = .pointer (some ⟨b, 0, none⟩) | 14 => v = .int .i64 (n : Int) | 15 => v = .bool (!decide (bn = (n : Int))) | 16 => v = .bool (!decide (bn = (n : Int)))
  | _ => True
section
variable {ev : Operand → Value} {o : Oper} {w : World} {x y : Operand}
theorem rn_eqnil {g : Nat} (ho : o.op = .binOp .eql 27 x y 27) (hx : ev x = .pointer (some ⟨g, 0, none⟩)) (hy : ev y = .pointer none) : (execOp ev o).run Tryz.prog w = .ok (.value (.bool false)) w := by
  simp [execOp, ho, hx, hy, go_sem]
theorem rn_f26_1q {g k : Nat} (ho : o.op = .fieldAddr 26 x 1) (hx : ev x = .pointer (some ⟨g, k, none⟩)) : (execOp ev o).run Tryz.prog w = .ok (.value (.pointer (some ⟨g, k + 1, none⟩))) w := by
  simp [execOp, ho, hx, go_sem]
theorem rn_neq3 {u v : Int} (ho : o.op = .binOp .neq 3 x y 3) (hx : ev x = .int .i64 u) (hy : ev y = .int .i64 v) : (execOp ev o).run Tryz.prog w = .ok (.value (.bool (!decide (u = v)))) w := by
  by_cases h : u = v <;> simp [execOp, ho, hx, hy, go_sem, h]
end
set_option maxHeartbeats 4000000 in
set_option maxRecDepth 20000 in
theorem mayPut_any {w0 w : World} {b : Nat} {V : Wd} {T : Nat → Prop} (h : WT w0 w b V T) (hl : F.Lay w0) (bb : Bst) : Calls Tryz.prog 24 #[ptr b, .agg (bV bb).toArray] w fun e w' => e = .returned (er (mayP V bb)) ∧ Below w.heap.size w w' := by
  obtain ⟨wa, hwa⟩ : ∃ wa, wa = w.alloc (.cells (bV bb).toArray 34) := ⟨_, rfl⟩
  have hB : Below w.heap.size w wa := by rw [hwa]; exact boxed _ _
  have h1 : Has wa w.heap.size (bV bb).toArray 34 := by rw [hwa]; exact Has.new _ _ _ _ rfl
  have HN := (h.below hB).n
  have HNB : ∀ W', Below wa.heap.size wa W' → Calls Tryz.prog 42 #[ptr b] W' fun e w' => e = .returned (.int .i64 (V.l.length : Int)) ∧ w' = W' := fun W' hW => ((h.below hB).below hW).n
  have HM := fun W' (hW : Below wa.heap.size wa W') => make_is bb W' (((h.below hB).below hW).lay hl).ht
  have HMP : Hid (mayP V bb = if bb.n = V.l.length then mErr bb else 1) := hid rfl
  have HBB := hid hB
  have c0 := h1.cell 0
  have c1 := h1.cell 1
  have c2 := h1.cell 2
  have c3 := h1.cell 3
  have c4 := h1.cell 4
  generalize V.l.length = n at *
  clear h hl hB h1
  obtain ⟨me, hme⟩ : ∃ me, me = mErr bb := ⟨_, rfl⟩
  obtain ⟨md, hmd⟩ : ∃ md, md = mdat bb := ⟨_, rfl⟩
  rw [← hme] at HMP
  rw [← hme, ← hmd] at HM
  clear hme hmd
  have HHM := hid HM
  clear HM
  obtain ⟨be, bg, bk, bn, bp⟩ := bb
  unfold bV ptr at *
  simp only [List.getElem?_toArray, List.getElem?_cons_zero, List.getElem?_cons_succ] at *
  rw [hwa] at c0 c1 c2 c3 c4 HN
  have lq : w.heap.size < wa.heap.size := by rw [hwa]; simp
  have c3' : wa.cell? ⟨w.heap.size, 3, none⟩ = some (.int .i64 bn) := by rw [hwa]; exact c3
  go_enter Tryz.func24, Tryz.ntmps24
  go_wp2_with fail
  rw [← hwa]
  refine Tl.wp_mix_lit (by kernel_rfl) 10 [7, 8, 9, 10, 11, 12, 13, 14, 15, 16] 23 rfl (by kernel_rfl) (BelW wa) (mpF b w.heap.size n bn) ((Below.refl _ _).drew)
    ⟨fun a' W' hC hF => ?_, fun a' W' hC hF => ?_, fun a' W' hC hF => ?_, fun a' W' hC hF => ?_, fun a' W' hC hF => ?_, fun a' W' hC hF => ?_, fun a' W' hC hF => ?_, fun a' W' hC hF => ?_, fun a' W' hC hF => ?_, fun a' W' hC hF => ?_, trivial⟩ ?_
  · exact Tl.sm_v 7 _ rfl (Tl.wanted_none rfl) hC rfl (rn_move rfl ((hF 0 (by decide +kernel)).2 (by decide)))
  · exact Tl.sm_v 8 _ rfl (Tl.wanted_none rfl) hC rfl (rn_eqnil rfl ((hF 7 (by decide +kernel)).1 (by decide)) rfl)
  · exact Tl.sm_v 9 _ rfl (Tl.wanted_none rfl) hC rfl (rn_move rfl ((hF 8 (by decide +kernel)).1 (by decide)))
  · exact Tl.sm_v 10 _ rfl (Tl.wanted_is rfl rfl ((hF 9 (by decide +kernel)).1 (by decide))) hC rfl (rn_f34_1 rfl ((hF 3 (by decide +kernel)).2 (by decide)))
  · exact Tl.sm_v 11 _ rfl (Tl.wanted_is rfl rfl ((hF 9 (by decide +kernel)).1 (by decide))) hC rfl (rn_f26_1q rfl ((hF 10 (by decide +kernel)).1 (by decide)))
  · exact Tl.sm_v 12 _ rfl (Tl.wanted_is rfl rfl ((hF 9 (by decide +kernel)).1 (by decide))) hC rfl (rn_load3k rfl ((hF 11 (by decide +kernel)).1 (by decide)) (BelW.cell hC (p := ⟨w.heap.size, 3, none⟩) lq c3'))
  · exact Tl.sm_v 13 _ rfl (Tl.wanted_is rfl rfl ((hF 9 (by decide +kernel)).1 (by decide))) hC rfl (rn_move rfl ((hF 0 (by decide +kernel)).2 (by decide)))
  · refine Tl.sm_call 42 #[_] (Tl.wanted_is rfl rfl ((hF 9 (by decide +kernel)).1 (by decide))) (rn_call1 rfl rfl ((hF 13 (by decide +kernel)).1 (by decide)) (ens41 _ _)) ((HNB W' hC).mono ?_)
    rintro e w'' ⟨rfl, rfl⟩
    exact ⟨_, rfl, hC, fun d v _ h => h, fun d hd => by cases hd; rfl⟩
  · exact Tl.sm_v 15 _ rfl (Tl.wanted_is rfl rfl ((hF 9 (by decide +kernel)).1 (by decide))) hC rfl (rn_neq3 rfl ((hF 12 (by decide +kernel)).1 (by decide)) ((hF 14 (by decide +kernel)).1 (by decide)))
  · exact Tl.sm_v 16 _ rfl (Tl.wanted_none rfl) hC rfl (rn_pickF rfl ((hF 9 (by decide +kernel)).1 (by decide)) ((hF 15 (by decide +kernel)).1 (by decide)))
  intro v w1 hw1 hv
  have v16 : v 16 = .bool (!decide (bn = (n : Int))) := hv 16 (by decide)
  have hB1 : Below wa.heap.size wa w1 := hw1
  clear hv hw1
  simp only [Tl.fill, List.drop_succ_cons, List.drop_zero, wpList]
  simp only [Act.put, List.setIfInBounds_toArray, List.set_cons_succ, List.set_cons_zero, v16]
  clear v16
  have HB1 := hid (HBB.out.trans (hB1.mono HBB.out.size))
  by_cases hbn : bn = (n : Int)
  · rw [if_pos hbn] at HMP
    rw [decide_eq_true hbn]
    have HM := HHM.out w1 hB1
    have x0 : w1.cell? ⟨w.heap.size, 0, none⟩ = some (.int .i64 be) := by rw [hB1.cell (p := ⟨w.heap.size, 0, none⟩) lq, hwa]; exact c0
    have x1 : w1.cell? ⟨w.heap.size, 1, none⟩ = some (.int .i64 bg) := by rw [hB1.cell (p := ⟨w.heap.size, 1, none⟩) lq, hwa]; exact c1
    have x2 : w1.cell? ⟨w.heap.size, 2, none⟩ = some (.int .i64 bk) := by rw [hB1.cell (p := ⟨w.heap.size, 2, none⟩) lq, hwa]; exact c2
    have x3 : w1.cell? ⟨w.heap.size, 3, none⟩ = some (.int .i64 bn) := by rw [hB1.cell (p := ⟨w.heap.size, 3, none⟩) lq, hwa]; exact c3
    have x4 : w1.cell? ⟨w.heap.size, 4, none⟩ = some (.string bp) := by rw [hB1.cell (p := ⟨w.heap.size, 4, none⟩) lq, hwa]; exact c4
    clear HHM hB1 hbn c0 c1 c2 c3 c4 c3' HN HNB hwa
    go_wp2_with fail
    refine HM.mono ?_
    rintro e w2 ⟨rfl, hb2⟩
    have HB2 := hid (HB1.out.trans (hb2.mono HB1.out.size))
    clear HM hb2 x0 x1 x2 x3 x4
    go_wp2_with fail
    go_ret
    exact ⟨by rw [HMP.out]; rfl, HB2.out⟩
  · rw [if_neg hbn] at HMP
    rw [decide_eq_false hbn]
    clear HHM hB1 hbn c0 c1 c2 c3 c4 c3' HN HNB hwa
    go_wp2_with fail
    go_ret
    exact ⟨by rw [HMP.out]; rfl, HB1.out⟩
set_option maxHeartbeats 16000000 in
set_option maxRecDepth 20000 in
theorem read_any {w0 w : World} {b : Nat} {V : Wd} {T : Nat → Prop} (h : WT w0 w b V T) (hl : F.Lay w0) {M n : Nat} (hok : Ok M n V) (hn : n ≤ 12) (hM : M ≤ 700000) : Calls Tryz.prog 15 #[ptr b] w fun e w' => e = .returned (.tuple #[.agg (bV (readW V).2.1).toArray, er (readW V).1]) ∧ WT w0 w' b (readW V).2.2 T ∧ Kpt T w w' ∧ Ok (M + 6 * n) n (readW V).2.2 := by
  obtain ⟨wa, hwa⟩ : ∃ wa, wa = w.alloc (.cells #[.int .i64 0, .int .i64 0, .int .i64 0, .int .i64 0, .string ⟨#[]⟩] 34) := ⟨_, rfl⟩
  have hB : Below w.heap.size w wa := by rw [hwa]; exact boxed _ _
  have h1 : Has wa w.heap.size (bV zB).toArray 34 := by rw [hwa]; exact Has.new _ _ _ _ rfl
  have hsz : wa.heap.size = w.heap.size + 1 := by rw [hwa]; simp
  have HWA := hid (h.plus hB (q := w.heap.size) ⟨Nat.le_refl _, by omega⟩)
  have HKA := hid (Kpt.below h hB)
  have HTL : Hid (∀ j, T j → j < w.heap.size) := hid h.lt
  have HW0 : Hid (w0.heap.size ≤ w.heap.size) := hid h.base.size
  have H1 := hid h1
  have HL := hid hl
  have HOK := hid hok
  have HGO := hid (gathW_ok hok)
  clear h hl hok hB h1
  unfold ptr at *
  go_enter Tryz.func15, Tryz.ntmps15
  go_wp2_with fail
  rw [← hwa]
  clear hwa
  refine find_any HWA.out HL.out HOK.out hn (by omega) _ ?cut ?okk
  case cut =>
    intro hg1 w1 a1 a2
    have ho : readW V = ((findW V).1, zB, (findW V).2.1) := by
      unfold readW
      simp only
      rw [if_pos hg1]
    obtain ⟨w2, hw2⟩ : ∃ w2, w2 = w1.alloc (.cells (bV zB).toArray 34) := ⟨_, rfl⟩
    have hb2 : Below w1.heap.size w1 w2 := by rw [hw2]; exact boxed _ _
    have hf2 : Has w2 w1.heap.size (bV zB).toArray 34 := by rw [hw2]; exact Has.new _ _ _ _ rfl
    have hq0 : Has w2 w.heap.size (bV zB).toArray 34 := by
      have := a2.has (.inr rfl) H1.out
      exact this.below hb2 this.lt
    have HF := hid (fin5 (T := T) (a1.below hb2) (fun j hj => .inl hj) (.inr rfl) HTL.out HW0.out ((HKA.out.trans (a2.sub (T' := T) fun j hj => .inl hj)).trans ((Kpt.below a1 hb2).sub fun j hj => .inl hj)) hq0 zB)
    obtain ⟨⟨y0, y1, y2, y3, y4⟩, f0, f1, f2, f3, f4⟩ := zero5 hq0
    have x0 := hf2.cell 0
    have x1 := hf2.cell 1
    have x2 := hf2.cell 2
    have x3 := hf2.cell 3
    have x4 := hf2.cell 4
    obtain ⟨fe, hfe⟩ : ∃ fe, fe = (findW V).1 := ⟨_, rfl⟩
    rw [← hfe] at ho ⊢
    have HO := hid ho
    unfold bV zB at *
    simp only [List.getElem?_toArray, List.getElem?_cons_zero, List.getElem?_cons_succ] at *
    rw [hw2] at y0 y1 y2 y3 y4 f0 f1 f2 f3 f4 x0 x1 x2 x3 x4 HF
    unfold w5 at HF
    simp only at HF
    clear a1 a2 hb2 hq0 hf2 hw2 hfe hg1 ho
    go_wp2_with fail
    refine F.ret_cell (b := w.heap.size) (cs := bV zB) (p := 2) (u := 3) (v := .int .i64 fe) rfl ?_ ?_ rfl HF.out.2.2.range Tryz.underlying34 rfl info34 ?_
    · rfl
    · rfl
    · rw [HO.out]
      exact ⟨rfl, HF.out.1, HF.out.2.1, HGO.out.1.more (by omega)⟩
  case okk =>
    intro hg1 hgl w1 g a1 a2 a3 a4
    obtain ⟨fb, hfb⟩ : ∃ fb, fb = (nwst (findW V).2.2).b := ⟨_, rfl⟩
    have ho : readW V = (0, fb, (findW V).2.1) := by
      unfold readW
      simp only
      rw [if_neg (by rw [hg1]; decide), hfb]
    rw [← hfb]
    clear hfb
    obtain ⟨w2, hw2⟩ : ∃ w2, w2 = w1.alloc (.cells (bV fb).toArray 34) := ⟨_, rfl⟩
    have hb2 : Below w1.heap.size w1 w2 := by rw [hw2]; exact boxed _ _
    have hf2 : Has w2 w1.heap.size (bV fb).toArray 34 := by rw [hw2]; exact Has.new _ _ _ _ rfl
    have hq0 : Has w2 w.heap.size (bV zB).toArray 34 := by
      have := a2.has (.inr rfl) H1.out
      exact this.below hb2 this.lt
    have HF := hid (fin5 (T := T) (a1.below hb2) (fun j hj => .inl (.inl hj)) (.inl (.inr rfl)) HTL.out HW0.out ((HKA.out.trans (a2.sub (T' := T) fun j hj => .inl hj)).trans ((Kpt.below a1 hb2).sub fun j hj => .inl (.inl hj))) hq0 fb)
    obtain ⟨⟨y0, y1, y2, y3, y4⟩, f0, f1, f2, f3, f4⟩ := zero5 hq0
    have x0 := hf2.cell 0
    have x1 := hf2.cell 1
    have x2 := hf2.cell 2
    have x3 := hf2.cell 3
    have x4 := hf2.cell 4
    have HO := hid ho
    obtain ⟨be, bg, bk, bn, bp⟩ := fb
    unfold bV at *
    simp only [List.getElem?_toArray, List.getElem?_cons_zero, List.getElem?_cons_succ] at *
    rw [hw2] at y0 y1 y2 y3 y4 f0 f1 f2 f3 f4 x0 x1 x2 x3 x4 HF
    unfold w5 at HF
    simp only at HF
    clear a1 a2 a3 hb2 hq0 hf2 hw2 hg1 ho
    go_wp2_with fail
    refine F.ret_cell (b := w.heap.size) (cs := bV ⟨be, bg, bk, bn, bp⟩) (p := 2) (u := 3) (v := .int .i64 0) rfl ?_ ?_ rfl HF.out.2.2.range Tryz.underlying34 rfl info34 ?_
    · rfl
    · rfl
    · rw [HO.out]
      exact ⟨rfl, HF.out.1, HF.out.2.1, HGO.out.1.more (by omega)⟩
end Go.Proofs.YtmpgfpmkmgebdaaGreatDoor
/- Quorum: Write. -/
namespace Go.Proofs.YtmpgfpmkmgebdaaGreatDoor
open Go.RowKit Go.Maps
open W
set_option linter.unusedVariables false
section
variable {ev : Operand → Value} {o : Oper} {w : World} {x y z : Operand}
theorem rn_store34 {q : Nat} {a c : Bst} (ho : o.op = .store 34 x y) (hx : ev x = .pointer (some ⟨q, 0, none⟩)) (hy : ev y = .agg (bV c).toArray) (h : Has w q (bV a).toArray 34) : (execOp ev o).run Tryz.prog w = .ok .skip (w5 w q c) := by
  have h1 := h.set 0 (.int .i64 c.e)
  have h2 := h1.set 1 (.int .i64 c.g)
  have h3 := h2.set 2 (.int .i64 c.k)
  have h4 := h3.set 3 (.int .i64 c.n)
  have c0 := h.cell 0
  have c1 := h1.cell 1
  have c2 := h2.cell 2
  have c3 := h3.cell 3
  have c4 := h4.cell 4
  have f0 := h.frozen 0
  have f1 := h1.frozen 1
  have f2 := h2.frozen 2
  have f3 := h3.frozen 3
  have f4 := h4.frozen 4
  obtain ⟨ce, cg, ck, cn, cp⟩ := c
  obtain ⟨ae, ag, ak, an, ap⟩ := a
  unfold bV at *
  unfold w5
  simp at c0 c1 c2 c3 c4
  simp [execOp, ho, hx, hy, go_sem, c0, c1, c2, c3, c4, f0, f1, f2, f3, f4]
theorem rn_alloc34 (ho : o.op = .alloc 34) : (execOp ev o).run Tryz.prog w = .ok (.value (.pointer (some ⟨w.heap.size, 0, none⟩))) (w.alloc (.cells (bV zB).toArray 34)) := by
  simp [execOp, ho, go_sem]
  rfl
theorem rn_f34_0 {g k : Nat} (ho : o.op = .fieldAddr 34 x 0) (hx : ev x = .pointer (some ⟨g, k, none⟩)) : (execOp ev o).run Tryz.prog w = .ok (.value (.pointer (some ⟨g, k, none⟩))) w := by
  simp [execOp, ho, hx, go_sem]
theorem rn_load26 {g : Nat} {u v : Int} (ho : o.op = .load 26 x) (hx : ev x = .pointer (some ⟨g, 2, none⟩)) (h0 : w.cell? ⟨g, 2, none⟩ = some (.int .i64 u)) (h1 : w.cell? ⟨g, 3, none⟩ = some (.int .i64 v)) : (execOp ev o).run Tryz.prog w = .ok (.value (.agg #[.int .i64 u, .int .i64 v])) w := by
  simp [execOp, ho, hx, go_sem, h0, h1]
theorem rn_build34 {a b c d : Int} {p : ByteArray} (ho : o.op = .build 34 #[(0, x), (1, y), (2, z)]) (hx : ev x = .agg #[.int .i64 a, .int .i64 b]) (hy : ev y = .agg #[.int .i64 c, .int .i64 d]) (hz : ev z = .string p) : (execOp ev o).run Tryz.prog w = .ok (.value (.agg (bV ⟨a, b, c, d, p⟩).toArray)) w := by
  simp [execOp, ho, hx, hy, hz, go_sem, bV]
end
theorem wp_store34 {o : Oper} {a : Act} {w : World} {K : Act → World → Prop} {Q : Exit → Act → World → Prop} {x y : Operand} {q : Nat} {b c : Bst} (ho : o.op = .store 34 x y) (hd : o.dst = none) (hx : a.eval x = .pointer (some ⟨q, 0, none⟩)) (hy : a.eval y = .agg (bV c).toArray) (hz : Has w q (bV b).toArray 34) (h : K a (w5 w q c)) : o.wp Tryz.prog a w K Q := by
  unfold Oper.wp
  rw [rn_store34 ho hx hy hz]
  show K (a.put o.dst undef) (w5 w q c)
  rw [hd]
  exact h
theorem ens23 (args : Array Value) (w : World) : (callFunc 23 args).run Tryz.prog w = .ok (.enter 23 args) w := by kernel_rfl
end Go.Proofs.YtmpgfpmkmgebdaaGreatDoor
/- Quorum: Write. -/
namespace Go.Proofs.YtmpgfpmkmgebdaaGreatDoor
open Go.RowKit Go.Maps
open W
set_option linter.unusedVariables false
def wrF (q : Nat) (e g k n : Int) (p : ByteArray) (z : Nat) (s : Nat) (v : Value) (W : World) : Prop := match s with
  | 12 => v = .pointer (some ⟨q, 0, none⟩) | 13 => v = .agg #[.int .i64 e, .int .i64 g] | 14 => v = .pointer (some ⟨q, 2, none⟩) | 15 => v = .agg #[.int .i64 k, .int .i64 n] | 16 => v = .string p | 17 => v = .string p | 18 => v = .agg (bV ⟨e, g, k, n, p⟩).toArray
  | 8 => ∃ x, v = .pointer (some ⟨x, 0, none⟩) ∧ Has W x (bV zB).toArray 34 ∧ z ≤ x
  | _ => True
theorem wrF_below {q z : Nat} {e g k n : Int} {p : ByteArray} {s : Nat} {v : Value} {W W' : World} (h : wrF q e g k n p z s v W) (hb : Below W.heap.size W W') : wrF q e g k n p z s v W' := by
  unfold wrF at h ⊢
  split at h <;> first | exact h | skip
  obtain ⟨x, h1, h2, h3⟩ := h
  exact ⟨x, h1, h2.below hb h2.lt, h3⟩
def wcF (g N q c : Nat) (k : Int) (s : Nat) (v : Value) (_ : World) : Prop := match s with
  | 46 => v = .slice (some ⟨g, 0, none⟩) N N | 47 => v = .int .i64 (c : Int) | 48 => v = .pointer (some ⟨q, 2, none⟩) | 49 => v = .pointer (some ⟨q, 2, none⟩) | 50 => v = .int .i64 k | 51 => v = .bool (decide ((c : Int) < k))
  | _ => True
set_option maxHeartbeats 16000000 in
set_option maxRecDepth 20000 in
theorem write_any {w0 w : World} {b : Nat} {V : Wd} {T : Nat → Prop} (h : WT w0 w b V T) (hl : F.Lay w0) {M n : Nat} (hok : Ok M n V) (hn : n ≤ 12) (hM : M ≤ 700000) (bb : Bst) (p : ByteArray) (hp : p.size ≤ 1000000) : Calls Tryz.prog 19 #[ptr b, .agg (bV bb).toArray, .string p] w fun e w' => e = .returned (.tuple #[.agg (bV (writeW V bb p).2.1).toArray, er (writeW V bb p).1]) ∧ WT w0 w' b (writeW V bb p).2.2 T ∧ Kpt T w w' ∧ Ok (M + 6 * n) n (writeW V bb p).2.2 := by
  obtain ⟨wa, hwa⟩ : ∃ wa, wa = (w.alloc (.cells (bV bb).toArray 34)).alloc (.cells #[.int .i64 0, .int .i64 0, .int .i64 0, .int .i64 0, .string ⟨#[]⟩] 34) := ⟨_, rfl⟩
  have hB : Below w.heap.size w wa := by rw [hwa]; exact ((Below.refl _ _).alloc (Nat.le_refl _) _).alloc (by simp) _
  have h0 : Has wa w.heap.size (bV bb).toArray 34 := by rw [hwa]; exact (Has.new w _ _ _ rfl).alloc _
  have h1 : Has wa (w.heap.size + 1) (bV zB).toArray 34 := by rw [hwa]; exact Has.new _ (w.heap.size + 1) _ _ (by simp)
  have hsz : wa.heap.size = w.heap.size + 2 := by rw [hwa]; simp
  have HWA := hid ((h.new hB).sub (T' := fun j => T j ∨ (w.heap.size ≤ j ∧ j < w.heap.size + 2)) fun j hj => by
    rcases hj with hj | hj
    · exact .inl hj
    · exact .inr ⟨hj.1, by omega⟩)
  have HKA := hid (Kpt.below h hB)
  have HTL : Hid (∀ j, T j → j < w.heap.size) := hid h.lt
  have HW0 : Hid (w0.heap.size ≤ w.heap.size) := hid h.base.size
  have H0 := hid h0
  have H1 := hid h1
  have HL := hid hl
  have HOK := hid hok
  have lq := h0.lt
  have c0 : wa.cell? ⟨w.heap.size, 0, none⟩ = some (.int .i64 bb.e) := h0.cell 0
  have c1 : wa.cell? ⟨w.heap.size, 1, none⟩ = some (.int .i64 bb.g) := h0.cell 1
  have c2 : wa.cell? ⟨w.heap.size, 2, none⟩ = some (.int .i64 bb.k) := h0.cell 2
  have c3 : wa.cell? ⟨w.heap.size, 3, none⟩ = some (.int .i64 bb.n) := h0.cell 3
  clear h hl hok hB h0 h1
  obtain ⟨be, bg, bk, bn, bp⟩ := bb
  unfold bV ptr at *
  simp only at *
  go_enter Tryz.func19, Tryz.ntmps19
  go_wp2_with fail
  rw [← hwa]
  clear hwa
  refine Tl.wp_mix_lit (by kernel_rfl) 8 [12, 13, 14, 15, 16, 17, 18, 8] 61 rfl (by kernel_rfl) (BelW wa) (wrF w.heap.size be bg bk bn p wa.heap.size) ((Below.refl _ _).drew)
    ⟨fun a' W' hC hF => ?_, fun a' W' hC hF => ?_, fun a' W' hC hF => ?_, fun a' W' hC hF => ?_, fun a' W' hC hF => ?_, fun a' W' hC hF => ?_, fun a' W' hC hF => ?_, fun a' W' hC hF => ?_, trivial⟩ ?_
  · exact Tl.sm_v 12 _ rfl (Tl.wanted_none rfl) hC rfl (rn_f34_0 rfl ((hF 4 (by decide +kernel)).2 (by decide)))
  · exact Tl.sm_v 13 _ rfl (Tl.wanted_none rfl) hC rfl (rn_load32 rfl ((hF 12 (by decide +kernel)).1 (by decide)) (BelW.cell hC (p := ⟨w.heap.size, 0, none⟩) lq c0) (BelW.cell hC (p := ⟨w.heap.size, 1, none⟩) lq c1))
  · exact Tl.sm_v 14 _ rfl (Tl.wanted_none rfl) hC rfl (rn_f34_1 rfl ((hF 4 (by decide +kernel)).2 (by decide)))
  · exact Tl.sm_v 15 _ rfl (Tl.wanted_none rfl) hC rfl (rn_load26 rfl ((hF 14 (by decide +kernel)).1 (by decide)) (BelW.cell hC (p := ⟨w.heap.size, 2, none⟩) lq c2) (BelW.cell hC (p := ⟨w.heap.size, 3, none⟩) lq c3))
  · exact Tl.sm_v 16 _ rfl (Tl.wanted_none rfl) hC rfl (rn_move rfl ((hF 2 (by decide +kernel)).2 (by decide)))
  · refine Tl.sm_call 23 #[_] (Tl.wanted_none rfl) (rn_call1 rfl rfl ((hF 16 (by decide +kernel)).1 (by decide)) (ens23 _ _)) ((clone_any p W' (by omega)).mono ?_)
    rintro e w'' ⟨rfl, hb⟩
    exact ⟨_, rfl, Below.trans hC (hb.mono (Below.size hC)), fun d v _ h => wrF_below h hb, fun d hd => by cases hd; rfl⟩
  · exact Tl.sm_v 18 _ rfl (Tl.wanted_none rfl) hC rfl (rn_build34 rfl ((hF 13 (by decide +kernel)).1 (by decide)) ((hF 15 (by decide +kernel)).1 (by decide)) ((hF 17 (by decide +kernel)).1 (by decide)))
  · exact Tl.sm_w _ (Tl.wanted_none rfl) (rn_alloc34 rfl) (Below.trans hC ((boxed W' _).mono (Below.size hC))) (fun d v _ h => wrF_below h (boxed W' _)) (fun d hd => by cases hd; exact ⟨_, rfl, Has.new _ _ _ _ rfl, Below.size hC⟩)
  intro v w1 hw1 hv
  have v18 : v 18 = .agg (bV ⟨be, bg, bk, bn, p⟩).toArray := hv 18 (by decide)
  obtain ⟨q, v8, hq1, hqz⟩ := (show ∃ x, v 8 = .pointer (some ⟨x, 0, none⟩) ∧ Has w1 x (bV zB).toArray 34 ∧ wa.heap.size ≤ x from hv 8 (by decide))
  have hB1 : Below wa.heap.size wa w1 := hw1
  clear hv hw1 c0 c1 c2 c3
  simp only [Tl.fill, List.drop_succ_cons, List.drop_zero, wpList]
  simp only [Act.put, List.setIfInBounds_toArray, List.set_cons_succ, List.set_cons_zero, v18, v8]
  clear v18 v8
  rw [if_pos (Tl.wanted_none rfl)]
  left
  apply wp_store34 (x := .tmp 8) (y := .tmp 18) (q := q) (c := ⟨be, bg, bk, bn, p⟩) _ _ _ _ hq1
  rotate_left
  · rfl
  · rfl
  · rfl
  · rfl
  obtain ⟨p1, p2⟩ := put5 (c := ⟨be, bg, bk, bn, p⟩) hq1
  have hW1 : WT w0 w1 b V (fun j => T j ∨ (w.heap.size ≤ j ∧ j < w1.heap.size)) := (HWA.out.new hB1).sub fun j hj => by
    rcases hj with hj | hj
    · exact .inl (.inl hj)
    · by_cases hjl : j < w.heap.size + 2
      · exact .inl (.inr ⟨hj.1, hjl⟩)
      · exact .inr ⟨by omega, hj.2⟩
  obtain ⟨w2, hw2⟩ : ∃ w2, w2 = w5 w1 q ⟨be, bg, bk, bn, p⟩ := ⟨_, rfl⟩
  have hO2 : Only (fun j => j = q) w1 w2 := by rw [hw2]; exact p2
  have hN2 : Has w2 q (bV ⟨be, bg, bk, bn, p⟩).toArray 34 := by rw [hw2]; exact p1
  rw [← hw2]
  have HZ : Hid (w.heap.size + 2 ≤ q ∧ q < w1.heap.size ∧ w1.heap.size ≤ w2.heap.size) := hid ⟨by omega, hq1.lt, hO2.size⟩
  have HW2 : Hid (WT w0 w2 b V (fun j => T j ∨ (j = w.heap.size ∨ j = w.heap.size + 1 ∨ j = q))) := hid ((hW1.list (g := q) (.inr ⟨by omega, hq1.lt⟩) (by have := HW0.out; omega) hO2).sub fun j hj => by
    have := HZ.out
    rcases hj with hj | hj
    · exact .inl hj
    · exact .inr ⟨by omega, by omega⟩)
  have HK2 : Hid (Kpt T w w2) := hid ((HKA.out.trans ((Kpt.below HWA.out hB1).sub (T' := T) fun j hj => .inl hj)).trans ⟨hO2.size, fun j hj => hO2.block j (hW1.lt j (.inl hj)) (by have := HTL.out j hj; have := HZ.out; omega)⟩)
  have HR2 : Hid (Has w2 (w.heap.size + 1) (bV zB).toArray 34) := hid (hO2.has (H1.out.below hB1 H1.out.lt) (by have := HZ.out; omega))
  have HB2 : Hid (Has w2 w.heap.size (bV ⟨be, bg, bk, bn, bp⟩).toArray 34) := hid (hO2.has (H0.out.below hB1 H0.out.lt) (by have := HZ.out; omega))
  have HN2 := hid hN2
  clear p1 p2 hW1 hw2 hO2 hN2 hq1 hqz hB1 HWA HKA H0 H1 lq
  have HMP := mayPut_any HW2.out HL.out ⟨be, bg, bk, bn, p⟩
  have HWR : Hid (writeW V ⟨be, bg, bk, bn, bp⟩ p = if mayP V ⟨be, bg, bk, bn, p⟩ ≠ 0 then (mayP V ⟨be, bg, bk, bn, p⟩, zB, V) else if bg = 2147483647 then (40, zB, V) else if (gathW V).1 ≠ 0 then ((gathW V).1, zB, (gathW V).2.1) else if ((idx 0 (gathW V).2.2).length : Int) < bk then (55, zB, (gathW V).2.1) else sprW (gathW V).2.2 ⟨be, bg + 1, bk, bn, p⟩ be bg (gathW V).2.1) := hid rfl
  obtain ⟨me, hme⟩ : ∃ me, me = mayP V ⟨be, bg, bk, bn, p⟩ := ⟨_, rfl⟩
  rw [← hme] at HMP HWR
  have HME := hid hme
  clear hme
  have hqn := HN2.out
  have x0 : w2.cell? ⟨q, 0, none⟩ = some (.int .i64 be) := hqn.cell 0
  have x1 : w2.cell? ⟨q, 1, none⟩ = some (.int .i64 bg) := hqn.cell 1
  have x2 : w2.cell? ⟨q, 2, none⟩ = some (.int .i64 bk) := hqn.cell 2
  have x3 : w2.cell? ⟨q, 3, none⟩ = some (.int .i64 bn) := hqn.cell 3
  have x4 : w2.cell? ⟨q, 4, none⟩ = some (.string p) := hqn.cell 4
  clear hqn
  unfold bV ptr er at HMP
  simp only at HMP
  go_wp2_with fail
  refine HMP.mono ?_
  rintro e w3 ⟨rfl, hb3⟩
  clear HMP x0 x1 x2 x3 x4
  have HW3 := hid (HW2.out.below hb3)
  have HK3 := hid (HK2.out.trans ((Kpt.below HW2.out hb3).sub (T' := T) fun j hj => .inl hj))
  have HR3 := hid (HR2.out.below hb3 HR2.out.lt)
  have HB3 := hid (HB2.out.below hb3 HB2.out.lt)
  have HN3 := hid (HN2.out.below hb3 HN2.out.lt)
  clear hb3 HW2 HK2 HR2 HB2 HN2
  obtain ⟨⟨y0, y1, y2, y3, y4⟩, f0, f1, f2, f3, f4⟩ := zero5 HR3.out
  have hqn := HN3.out
  have x0 : w3.cell? ⟨q, 0, none⟩ = some (.int .i64 be) := hqn.cell 0
  have x1 : w3.cell? ⟨q, 1, none⟩ = some (.int .i64 bg) := hqn.cell 1
  have x2 : w3.cell? ⟨q, 2, none⟩ = some (.int .i64 bk) := hqn.cell 2
  have x3 : w3.cell? ⟨q, 3, none⟩ = some (.int .i64 bn) := hqn.cell 3
  have x4 : w3.cell? ⟨q, 4, none⟩ = some (.string p) := hqn.cell 4
  have xf := hqn.frozen 1
  clear hqn
  have HF := hid (fin5 HW3.out (fun j hj => .inl hj) (.inr (.inr (.inl rfl))) (fun j hj => by have := HTL.out j hj; omega) (by have := HW0.out; omega) HK3.out HR3.out zB)
  have HOF : Hid (Ok (M + 6 * n) n V) := hid (HOK.out.more (by omega))
  unfold w5 at HF
  by_cases hm0 : me = 0
  · rw [if_neg (fun h => h hm0)] at HWR
    by_cases hgm : bg = 2147483647
    · have HO : Hid (writeW V ⟨be, bg, bk, bn, bp⟩ p = (40, zB, V)) := hid (by rw [HWR.out, if_pos hgm])
      subst hm0
      rw [hgm] at x1
      have x1' : w3.cell? ⟨q, 1, none⟩ = some (.int .i64 2147483647) := x1
      clear x1
      go_wp2_with fail
      refine F.ret_cell (b := w.heap.size + 1) (cs := bV zB) (p := 6) (u := 7) (v := .int .i64 40) rfl ?_ ?_ rfl HF.out.2.2.range Tryz.underlying34 rfl info34 ?_
      · rfl
      · rfl
      · rw [HO.out]
        exact ⟨rfl, HF.out.1, HF.out.2.1, HOF.out⟩
    · rw [if_neg hgm] at HWR
      have q1 : (bg == 2147483647) = false := by simpa using hgm
      have hmok : mErr ⟨be, bg, bk, bn, p⟩ = 0 ∧ bn = (V.l.length : Int) := by
        have := HME.out
        unfold mayP at this
        rw [hm0] at this
        by_cases hbn : bn = (V.l.length : Int)
        · rw [if_pos hbn] at this
          exact ⟨this.symm, hbn⟩
        · rw [if_neg hbn] at this
          cases this
      have hgb : 0 ≤ bg ∧ bg ≤ 2147483647 := by
        have h3 := (F.mkE_zero.1 hmok.1).1
        unfold F.okF F.okN at h3
        simp only [Bool.and_eq_true, decide_eq_true_eq] at h3
        omega
      have HDO : Hid (mErr ⟨be, bg + 1, bk, bn, p⟩ = 0) := hid (by
        have h1 := F.mkE_zero.1 hmok.1
        refine F.mkE_zero.2 ⟨?_, h1.2⟩
        have h3 := h1.1
        unfold F.okF F.okN at h3 ⊢
        simp only [Bool.and_eq_true, decide_eq_true_eq] at h3 ⊢
        exact ⟨⟨h3.1.1, ⟨by omega, by omega⟩⟩, h3.2⟩)
      have wr1 : IntKind.i64.wrap (bg + 1) = bg + 1 := wrap_i64_of (by omega) (by omega)
      have HDN : Hid (bn = (n : Int)) := hid (hmok.2.trans (by rw [HOK.out.len]))
      clear hmok hgb hgm HF HOF
      subst hm0
      obtain ⟨w4, hw4⟩ : ∃ w4, w4 = w3.setCell ⟨q, 1, none⟩ (.int .i64 (bg + 1)) := ⟨_, rfl⟩
      have ho4 : Only (fun j => j = q) w3 w4 := by rw [hw4]; exact Only.set (p := ⟨q, 1, none⟩) (Only.refl (fun j => j = q) w3) (.inl rfl) _
      have HZ' := HZ.out
      have HW4 := hid (HW3.out.list (g := q) (.inr (.inr (.inr rfl))) (by have := HW0.out; omega) ho4)
      have HK4 := hid (HK3.out.trans ⟨ho4.size, fun j hj => ho4.block j (HW3.out.lt j (.inl hj)) (by have := HTL.out j hj; omega)⟩)
      have HR4 := hid (ho4.has HR3.out (by omega))
      have HB4 := hid (ho4.has HB3.out (by omega))
      have HN4 : Hid (Has w4 q (bV ⟨be, bg + 1, bk, bn, p⟩).toArray 34) := hid (by rw [hw4]; exact HN3.out.set 1 _)
      clear ho4 HW3 HK3 HR3 HB3 HN3 y0 y1 y2 y3 y4 f0 f1 f2 f3 f4
      go_wp2_with fail
      rw [← hw4]
      clear hw4 x0 x1 x2 x3 x4 xf
      refine gather_any HW4.out HL.out HOK.out hn (by omega) _ ?cut ?okk
      case cut =>
        intro hg1 w6 a1 a2
        have HO : Hid (writeW V ⟨be, bg, bk, bn, bp⟩ p = (56, zB, (gathW V).2.1)) := hid (by rw [HWR.out, if_pos (by rw [hg1]; decide), hg1])
        have hq0 := a2.has (.inr (.inr (.inl rfl))) HR4.out
        obtain ⟨⟨y0, y1, y2, y3, y4⟩, f0, f1, f2, f3, f4⟩ := zero5 hq0
        have HF := hid (fin5 a1 (fun j hj => .inl hj) (.inr (.inr (.inl rfl))) (fun j hj => by have := HTL.out j hj; omega) (by have := HW0.out; omega) (HK4.out.trans (a2.sub (T' := T) fun j hj => .inl hj)) hq0 zB)
        have HOF : Hid (Ok (M + 6 * n) n (gathW V).2.1) := hid ((gathW_ok HOK.out).1.more (by omega))
        unfold w5 at HF
        clear a1 a2 hq0 hg1
        go_wp2_with fail
        refine F.ret_cell (b := w.heap.size + 1) (cs := bV zB) (p := 6) (u := 7) (v := .int .i64 56) rfl ?_ ?_ rfl HF.out.2.2.range Tryz.underlying34 rfl info34 ?_
        · rfl
        · rfl
        · rw [HO.out]
          exact ⟨rfl, HF.out.1, HF.out.2.1, HOF.out⟩
      case okk =>
        intro hg1 hgl w6 g a1 a2 a3 a4
        rw [if_neg (by rw [hg1]; decide)] at HWR
        have hok1 := (gathW_ok HOK.out).1
        obtain ⟨l, hl⟩ : ∃ l, l = (gathW V).2.2 := ⟨_, rfl⟩
        obtain ⟨V1, hV1⟩ : ∃ V1, V1 = (gathW V).2.1 := ⟨_, rfl⟩
        obtain ⟨c, hc⟩ : ∃ c, c = (idx 0 l).length := ⟨_, rfl⟩
        rw [← hl] at a3 hgl HWR
        rw [← hV1] at a1 hok1 HWR
        rw [← hc] at HWR
        have HW6 := hid a1
        have HK6 := hid (HK4.out.trans (a2.sub (T' := T) fun j hj => .inl hj))
        have HA6 := hid a3
        have HR6 := hid (a2.has (.inr (.inr (.inl rfl))) HR4.out)
        have HB6 := hid (a2.has (.inr (.inl rfl)) HB4.out)
        have HN6 := hid (a2.has (.inr (.inr (.inr rfl))) HN4.out)
        have HGL := hid hgl
        have HOK6 := hid hok1
        have HG6 : Hid (w4.heap.size ≤ g) := hid a4
        have HQ4 : Hid (q < w4.heap.size) := hid HN4.out.lt
        have HPG : Hid (¬ (T g ∨ (g = w.heap.size ∨ g = w.heap.size + 1 ∨ g = q))) := hid fun hj => by
          have := HN4.out.lt
          rcases hj with hj | hj
          · have := HTL.out g hj; omega
          · omega
        clear a1 a2 a3 a4 hl hV1 hgl hok1 hg1 HW4 HK4 HR4 HB4 HN4
        go_wp2_with fail
        have hqn := HN6.out
        have lq := hqn.lt
        have c2 : w6.cell? ⟨q, 2, none⟩ = some (.int .i64 bk) := hqn.cell 2
        clear hqn
        refine Tl.wp_mix_lit (by kernel_rfl) 6 [46, 47, 48, 49, 50, 51] 61 rfl (by kernel_rfl) (BelW w6) (wcF g n q c bk) ((Below.refl _ _).drew)
          ⟨fun a' W' hC hF => ?_, fun a' W' hC hF => ?_, fun a' W' hC hF => ?_, fun a' W' hC hF => ?_, fun a' W' hC hF => ?_, fun a' W' hC hF => ?_, trivial⟩ ?_
        · exact Tl.sm_v 46 _ rfl (Tl.wanted_none rfl) hC rfl (rn_move rfl ((hF 10 (by decide +kernel)).2 (by decide)))
        · refine Tl.sm_call 27 #[_] (Tl.wanted_none rfl) (rn_call1 rfl rfl ((hF 46 (by decide +kernel)).1 (by decide)) (ens27 _ _)) ((answers_any (HA6.out.below hC) HGL.out (by omega)).mono ?_)
          rintro e w'' ⟨rfl, hb⟩
          exact ⟨_, rfl, Below.trans hC (hb.mono (Below.size hC)), fun d v _ h => h, fun d hd => by cases hd; rw [← hc]; rfl⟩
        · exact Tl.sm_v 48 _ rfl (Tl.wanted_none rfl) hC rfl (rn_f34_1 rfl ((hF 8 (by decide +kernel)).2 (by decide)))
        · exact Tl.sm_v 49 _ rfl (Tl.wanted_none rfl) hC rfl (rn_f26_0 rfl ((hF 48 (by decide +kernel)).1 (by decide)))
        · exact Tl.sm_v 50 _ rfl (Tl.wanted_none rfl) hC rfl (rn_load3k rfl ((hF 49 (by decide +kernel)).1 (by decide)) (BelW.cell hC (p := ⟨q, 2, none⟩) lq c2))
        · exact Tl.sm_v 51 _ rfl (Tl.wanted_none rfl) hC rfl (rn_lss3 rfl ((hF 47 (by decide +kernel)).1 (by decide)) ((hF 50 (by decide +kernel)).1 (by decide)))
        intro v w7 hw7 hv
        have v51 : v 51 = .bool (decide ((c : Int) < bk)) := hv 51 (by decide)
        have hB7 : Below w6.heap.size w6 w7 := hw7
        clear hv hw7 c2
        simp only [Tl.fill, List.drop_succ_cons, List.drop_zero, wpList]
        simp only [Act.put, List.setIfInBounds_toArray, List.set_cons_succ, List.set_cons_zero, v51]
        clear v51
        have HW7 := hid (HW6.out.below hB7)
        have HK7 := hid (HK6.out.trans ((Kpt.below HW6.out hB7).sub (T' := T) fun j hj => .inl (.inl hj)))
        have HA7 := hid (HA6.out.below hB7)
        have HR7 := hid (HR6.out.below hB7 HR6.out.lt)
        have HB7 := hid (HB6.out.below hB7 HB6.out.lt)
        have HN7 := hid (HN6.out.below hB7 HN6.out.lt)
        clear hB7 HW6 HK6 HA6 HR6 HB6 HN6 lq
        obtain ⟨⟨y0, y1, y2, y3, y4⟩, f0, f1, f2, f3, f4⟩ := zero5 HR7.out
        by_cases hck : (c : Int) < bk
        · have HO : Hid (writeW V ⟨be, bg, bk, bn, bp⟩ p = (55, zB, V1)) := hid (by rw [HWR.out, if_pos hck])
          have HF := hid (fin5 HW7.out (fun j hj => .inl (.inl hj)) (.inl (.inr (.inr (.inl rfl)))) (fun j hj => by have := HTL.out j hj; omega) (by have := HW0.out; omega) HK7.out HR7.out zB)
          have HOF : Hid (Ok (M + 6 * n) n V1) := hid (HOK6.out.more (by omega))
          unfold w5 at HF
          rw [decide_eq_true hck]
          clear hck
          go_wp2_with fail
          refine F.ret_cell (b := w.heap.size + 1) (cs := bV zB) (p := 6) (u := 7) (v := .int .i64 55) rfl ?_ ?_ rfl HF.out.2.2.range Tryz.underlying34 rfl info34 ?_
          · rfl
          · rfl
          · rw [HO.out]
            exact ⟨rfl, HF.out.1, HF.out.2.1, HOF.out⟩
        · rw [if_neg hck] at HWR
          rw [decide_eq_false hck]
          clear hck y0 y1 y2 y3 y4 f0 f1 f2 f3 f4
          have hqn := HN7.out
          have x0 : w7.cell? ⟨q, 0, none⟩ = some (.int .i64 be) := hqn.cell 0
          have x1 : w7.cell? ⟨q, 1, none⟩ = some (.int .i64 (bg + 1)) := hqn.cell 1
          have x2 : w7.cell? ⟨q, 2, none⟩ = some (.int .i64 bk) := hqn.cell 2
          have x3 : w7.cell? ⟨q, 3, none⟩ = some (.int .i64 bn) := hqn.cell 3
          have x4 : w7.cell? ⟨q, 4, none⟩ = some (.string p) := hqn.cell 4
          have hqb := HB7.out
          have z0 : w7.cell? ⟨w.heap.size, 0, none⟩ = some (.int .i64 be) := hqb.cell 0
          have z1 : w7.cell? ⟨w.heap.size, 1, none⟩ = some (.int .i64 bg) := hqb.cell 1
          clear hqn hqb
          have hg0 : w0.heap.size ≤ g := by have := HW0.out; have := HG6.out; have := HQ4.out; omega
          have HSP := spread_any (P := fun j => T j ∨ (j = w.heap.size ∨ j = w.heap.size + 1 ∨ j = q)) (bb := ⟨be, bg + 1, bk, bn, p⟩) be bg HW7.out HL.out HPG.out HA7.out HGL.out hn HOK6.out (by omega) hg0 HDO.out HDN.out
          obtain ⟨sp, hsp⟩ : ∃ sp, sp = sprW l ⟨be, bg + 1, bk, bn, p⟩ be bg V1 := ⟨_, rfl⟩
          rw [← hsp] at HSP HWR
          clear hsp
          unfold bV ptr er at HSP
          simp only at HSP
          obtain ⟨se, sb, sV⟩ := sp
          obtain ⟨re, rg, rk, rn, rp⟩ := sb
          simp only at HSP
          go_wp2_with fail
          refine HSP.mono ?_
          rintro e w8 ⟨rfl, a1, a2, a3⟩
          clear HSP x0 x1 x2 x3 x4 z0 z1
          have hq8 := a2.has (.inr (.inr (.inl rfl))) HR7.out
          obtain ⟨⟨y0, y1, y2, y3, y4⟩, f0, f1, f2, f3, f4⟩ := zero5 hq8
          have HF := hid (fin5 a1 (fun j hj => .inl (.inl hj)) (.inl (.inr (.inr (.inl rfl)))) (fun j hj => by have := HTL.out j hj; omega) (by have := HW0.out; omega) (HK7.out.trans (a2.sub (T' := T) fun j hj => .inl hj)) hq8 ⟨re, rg, rk, rn, rp⟩)
          have HOF : Hid (Ok (M + 6 * n) n sV) := hid (a3.more (by omega))
          have HO := HWR
          unfold w5 at HF
          clear a1 a2 a3 hq8
          go_wp2_with fail
          refine F.ret_cell (b := w.heap.size + 1) (cs := bV ⟨re, rg, rk, rn, rp⟩) (p := 6) (u := 7) (v := .int .i64 se) rfl ?_ ?_ rfl HF.out.2.2.range Tryz.underlying34 rfl info34 ?_
          · rfl
          · rfl
          · rw [HO.out]
            exact ⟨rfl, HF.out.1, HF.out.2.1, HOF.out⟩
  · rw [if_pos hm0] at HWR
    have q1 : (me != 0) = true := by simpa using hm0
    have HO := HWR
    clear hm0
    go_wp2_with fail
    refine F.ret_cell (b := w.heap.size + 1) (cs := bV zB) (p := 6) (u := 7) (v := .int .i64 me) rfl ?_ ?_ rfl HF.out.2.2.range Tryz.underlying34 rfl info34 ?_
    · rfl
    · rfl
    · rw [HO.out]
      exact ⟨rfl, HF.out.1, HF.out.2.1, HOF.out⟩
end Go.Proofs.YtmpgfpmkmgebdaaGreatDoor
