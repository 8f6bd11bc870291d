/- Quorum: Open. -/
import Derived.Test.YtmpgfpmkmgebdaaGreatDoorP17
import Derived.Test.YtmpgfpmkmgebdaaGreatDoorQ3
namespace Go.Proofs.YtmpgfpmkmgebdaaGreatDoor
open Go.RowKit Go.Maps
open W
set_option linter.unusedVariables false
theorem gath_all {p : Rp → Prop} (m : Int) (hp : ∀ s, p (lookd m s)) : ∀ (k i : Nat) (V : Wd) (acc : List Hd), (∀ h ∈ acc, p h.r0 ∧ p h.r1) → ∀ h ∈ (gath m k i V acc).2.2, p h.r0 ∧ p h.r1
  | 0, _, _, _, h => h
  | k + 1, i, V, acc, h => by
    unfold gath
    split
    · intro x hx; simp at hx
    · split
      · intro x hx; simp at hx
      · refine gath_all m hp k (i + 1) _ _ fun x hx => ?_
        rcases List.mem_append.1 hx with hx | hx
        · exact h x hx
        · rw [List.mem_singleton] at hx
          subst hx
          exact ⟨hp _, hp _⟩
/-- what is found may be -/
theorem found_ok2 {V : Wd} (h : (findW V).1 = 0) : mErr (nwst (findW V).2.2).b = 0 ∧ (nwst (findW V).2.2).b.n = (V.l.length : Int) := by
  have hg : (gathW V).1 = 0 := by
    by_cases hg : (gathW V).1 = 0
    · exact hg
    · unfold findW at h
      rw [if_neg hg] at h
      exact h
  have hf : findE (gathW V).2.2 = 0 := by
    unfold findW at h
    rw [if_pos hg] at h
    exact h
  show mErr (nwst (gathW V).2.2).b = 0 ∧ (nwst (gathW V).2.2).b.n = (V.l.length : Int)
  have hsd : (nwst (gathW V).2.2).sd = true := by
    cases hs : (nwst (gathW V).2.2).sd with
    | true => rfl
    | false =>
      unfold findE at hf
      rw [hs] at hf
      simp only [Bool.false_eq_true, if_false] at hf
      split at hf <;> cases hf
  have hall : ∀ x ∈ (gathW V).2.2, (x.r0.sd = true → mErr x.r0.b = 0 ∧ x.r0.b.n = (V.l.length : Int)) ∧ (x.r1.sd = true → mErr x.r1.b = 0 ∧ x.r1.b.n = (V.l.length : Int)) := gath_all (p := fun r => r.sd = true → mErr r.b = 0 ∧ r.b.n = (V.l.length : Int)) _ (fun s hs => by
    generalize hr : lookd (V.l.length : Int) s = r at hs
    obtain ⟨d, b⟩ := r
    simp only at hs
    subst hs
    exact ⟨(lookd_ok hr).1, (lookd_ok hr).2.1⟩) _ _ _ _ (fun x hx => by simp at hx)
  rcases (nw_fold (gathW V).2.2 (idx 0 (gathW V).2.2) noR).2.2 with e | ⟨i, _, x, hx, hr, _⟩
  · unfold nwst at hsd
    rw [e] at hsd
    cases hsd
  · have := hall x (List.mem_of_getElem? hx)
    unfold nwst at hsd ⊢
    rcases hr with hr | hr
    · rw [← hr] at hsd ⊢; exact this.1 hsd
    · rw [← hr] at hsd ⊢; exact this.2 hsd
theorem found_ok {V : Wd} (h : (findW V).1 = 0) : mErr (nwst (findW V).2.2).b = 0 := (found_ok2 h).1
theorem next_ok {b : Bst} (h : mErr b = 0) (he : b.e ≠ 2147483647) : mErr (nextE b) = 0 := by
  have h1 := F.mkE_zero.1 h
  refine F.mkE_zero.2 ⟨?_, h1.2⟩
  have h3 := h1.1
  unfold F.okF F.okN at h3 ⊢
  simp only [Bool.and_eq_true, decide_eq_true_eq] at h3 ⊢
  exact ⟨⟨⟨by show 0 ≤ b.e + 1; omega, by show b.e + 1 ≤ 2147483647; omega⟩, h3.1.2⟩, h3.2⟩
theorem WT.plus {w0 w w' : World} {b : Nat} {V : Wd} {T : Nat → Prop} (h : WT w0 w b V T) (hb : Below w.heap.size w w') {q : Nat} (hq : w.heap.size ≤ q ∧ q < w'.heap.size) : WT w0 w' b V (fun j => T j ∨ j = q) := (h.new hb).sub fun j hj => by
  rcases hj with hj | hj
  · exact .inl hj
  · exact .inr (by rw [hj]; exact hq)
def opF (g N q c : Nat) (k : Int) (s : Nat) (v : Value) (_ : World) : Prop := match s with
  | 19 => v = .slice (some ⟨g, 0, none⟩) N N | 20 => v = .int .i64 (c : Int) | 21 => v = .pointer (some ⟨q, 2, none⟩) | 22 => v = .pointer (some ⟨q, 2, none⟩) | 23 => v = .int .i64 k | 24 => v = .bool (decide ((c : Int) < k))
  | _ => True
theorem ens27 (args : Array Value) (w : World) : (callFunc 27 args).run Tryz.prog w = .ok (.enter 27 args) w := by kernel_rfl
theorem rn_lss3 {ev : Operand → Value} {o : Oper} {w : World} {x y : Operand} {u v : Int} (ho : o.op = .binOp .lss 3 x y 3) (hx : ev x = .int .i64 u) (hy : ev y = .int .i64 v) : (execOp ev o).run Tryz.prog w = .ok (.value (.bool (decide (u < v)))) w := by
  simp [execOp, ho, hx, hy, go_sem]
theorem each_len (f : Nat → Hd → Wd → Int × Hd × Wd) (l : List Hd) (V : Wd) : (eachE f l V).l.length = l.length := by
  have : ∀ (ids : List Nat) (s : ES), (ids.foldl (oneE f) s).l.length = s.l.length := fun ids => by
    induction ids with
    | nil => intro s; rfl
    | cons i t ih =>
      intro s
      rw [List.foldl_cons, ih]
      unfold oneE
      split
      · rfl
      · split
        · rw [List.length_set]
        · rfl
  exact this _ _
/-- the result's five cells are stored -/
def w5 (W : World) (q : Nat) (x : Bst) : World := ((((W.setCell ⟨q, 0, none⟩ (.int .i64 x.e)).setCell ⟨q, 1, none⟩ (.int .i64 x.g)).setCell ⟨q, 2, none⟩ (.int .i64 x.k)).setCell ⟨q, 3, none⟩ (.int .i64 x.n)).setCell ⟨q, 4, none⟩ (.string x.p)
theorem fin5 {w0 w W : World} {b q : Nat} {V : Wd} {X T : Nat → Prop} (h : WT w0 W b V X) (hT : ∀ j, T j → X j) (hq : X q) (hTq : ∀ j, T j → j < q) (hw : w0.heap.size ≤ q) (hk : Kpt T w W) {a : Bst} (hz : Has W q (bV a).toArray 34) (x : Bst) : WT w0 (w5 W q x) b V T ∧ Kpt T w (w5 W q x) ∧ Has (w5 W q x) q (bV x).toArray 34 := by
  obtain ⟨p1, p2⟩ := put5 (c := x) hz
  exact ⟨(h.list (g := q) hq hw p2).sub hT, hk.trans ⟨p2.size, fun j hj => p2.block j (h.lt j (hT j hj)) (by have := hTq j hj; omega)⟩, p1⟩
set_option maxHeartbeats 16000000 in
set_option maxRecDepth 20000 in
theorem open_any {w0 w : World} {b : Nat} {V : Wd} {T : Nat → Prop} (h : WT w0 w b V T) (hl : F.Lay w0) {M n : Nat} (hok : Ok M n V) (hn : n ≤ 12) (hM : M ≤ 700000) : Calls Tryz.prog 20 #[ptr b] w fun e w' => e = .returned (.tuple #[.agg (bV (openW V).2.1).toArray, er (openW V).1]) ∧ WT w0 w' b (openW V).2.2 T ∧ Kpt T w w' ∧ Ok (M + 6 * n) n (openW V).2.2 := by
  obtain ⟨wa, hwa⟩ : ∃ wa, wa = w.alloc (.cells #[.int .i64 0, .int .i64 0, .int .i64 0, .int .i64 0, .string ⟨#[]⟩] 34) := ⟨_, rfl⟩
  have hB : Below w.heap.size w wa := by rw [hwa]; exact boxed _ _
  have h1 : Has wa w.heap.size (bV zB).toArray 34 := by rw [hwa]; exact Has.new _ _ _ _ rfl
  have hsz : wa.heap.size = w.heap.size + 1 := by rw [hwa]; simp
  have HWA := hid (h.plus hB (q := w.heap.size) ⟨Nat.le_refl _, by omega⟩)
  have HKA := hid (Kpt.below h hB)
  have HTL : Hid (∀ j, T j → j < w.heap.size) := hid h.lt
  have HW0 : Hid (w0.heap.size ≤ w.heap.size) := hid h.base.size
  have H1 := hid h1
  have HL := hid hl
  have HOK := hid hok
  have HGO := hid (gathW_ok hok)
  clear h hl hok hB h1
  unfold ptr at *
  go_enter Tryz.func20, Tryz.ntmps20
  go_wp2_with fail
  rw [← hwa]
  clear hwa
  refine find_any HWA.out HL.out HOK.out hn (by omega) _ ?cut ?okk
  case cut =>
    intro hg1 w1 a1 a2
    have ho : openW V = ((findW V).1, zB, (findW V).2.1) := by
      unfold openW
      simp only
      rw [if_pos hg1]
    obtain ⟨w2, hw2⟩ : ∃ w2, w2 = w1.alloc (.cells #[.int .i64 0, .int .i64 0, .int .i64 0, .int .i64 0, .string ⟨#[]⟩] 34) := ⟨_, rfl⟩
    have hb2 : Below w1.heap.size w1 w2 := by rw [hw2]; exact boxed _ _
    have hq0 : Has w2 w.heap.size (bV zB).toArray 34 := by
      have := a2.has (.inr rfl) H1.out
      exact this.below hb2 this.lt
    have HF := hid (fin5 (a1.below hb2) (fun j hj => .inl hj) (.inr rfl) HTL.out HW0.out ((HKA.out.trans (a2.sub (T' := T) fun j hj => .inl hj)).trans ((Kpt.below a1 hb2).sub fun j hj => .inl hj)) hq0 zB)
    obtain ⟨⟨y0, y1, y2, y3, y4⟩, f0, f1, f2, f3, f4⟩ := zero5 hq0
    obtain ⟨fe, hfe⟩ : ∃ fe, fe = (findW V).1 := ⟨_, rfl⟩
    rw [← hfe] at hg1 ho ⊢
    have q1 : (fe != 0) = true := by simpa using hg1
    have HO := hid ho
    rw [hw2] at y0 y1 y2 y3 y4 f0 f1 f2 f3 f4 HF
    unfold w5 at HF
    unfold bV zB
    simp only
    clear a1 a2 hb2 hq0 hw2 hfe hg1 ho
    go_wp2_with fail
    refine F.ret_cell (b := w.heap.size) (cs := bV zB) (p := 2) (u := 3) (v := .int .i64 fe) rfl ?_ ?_ rfl HF.out.2.2.range Tryz.underlying34 rfl info34 ?_
    · rfl
    · rfl
    · rw [HO.out]
      exact ⟨rfl, HF.out.1, HF.out.2.1, HGO.out.1.more (by omega)⟩
  case okk =>
    intro hg1 hgl w1 g a1 a2 a3 a4
    have hfo := found_ok hg1
    have hfn : (nwst (findW V).2.2).b.n = (n : Int) := (found_ok2 hg1).2.trans (by rw [HOK.out.len])
    obtain ⟨l, hl⟩ : ∃ l, l = (findW V).2.2 := ⟨_, rfl⟩
    obtain ⟨V1, hV1⟩ : ∃ V1, V1 = (findW V).2.1 := ⟨_, rfl⟩
    obtain ⟨fb, hfb⟩ : ∃ fb, fb = (nwst l).b := ⟨_, rfl⟩
    obtain ⟨c, hc⟩ : ∃ c, c = (idx 0 l).length := ⟨_, rfl⟩
    have hO : openW V = if (c : Int) < fb.k then (55, zB, V1) else if fb.e = 2147483647 then (40, zB, V1) else if enoE (eachE (setD fb) l V1) fb.k ≠ 0 then (enoE (eachE (setD fb) l V1) fb.k, zB, (eachE (setD fb) l V1).V) else sprW (eachE (setD fb) l V1).l (nextE fb) fb.e fb.g (eachE (setD fb) l V1).V := by
      unfold openW
      simp only
      rw [if_neg (by rw [hg1]; decide), ← hl, ← hV1, ← hfb, ← hc]
    rw [← hl] at hfo hgl a3 hfn
    rw [← hl, ← hfb]
    rw [← hfb] at hfo hfn
    rw [← hV1] at a1
    have HOK1 : Hid (Ok (M + 2 * n) n V1) := hid (by rw [hV1]; exact HGO.out.1)
    have HHO := hid hO
    have HFO := hid hfo
    have HFN := hid hfn
    have HGL := hid hgl
    clear hO hfo hfn hgl hl hV1 hfb hg1
    obtain ⟨w2, hw2⟩ : ∃ w2, w2 = w1.alloc (.cells (bV fb).toArray 34) := ⟨_, rfl⟩
    have hb2 : Below w1.heap.size w1 w2 := by rw [hw2]; exact boxed _ _
    have hz2 : w2.heap.size = w1.heap.size + 1 := by rw [hw2]; simp
    have hf2 : Has w2 w1.heap.size (bV fb).toArray 34 := by rw [hw2]; exact Has.new _ _ _ _ rfl
    obtain ⟨q, hq⟩ : ∃ q, q = w1.heap.size := ⟨_, rfl⟩
    -- the blocks that stand: T, the result's, what was found
    have HW2 : Hid (WT w0 w2 b V1 (fun j => ((T j ∨ j = w.heap.size) ∨ j = q) ∨ j = g)) := hid ((a1.plus hb2 (q := q) ⟨by omega, by omega⟩).sub fun j hj => by
      rcases hj with (hj | hj) | hj
      · exact .inl (.inl hj)
      · exact .inr hj
      · exact .inl (.inr hj))
    have HK2 := hid ((HKA.out.trans (a2.sub (T' := T) fun j hj => .inl hj)).trans ((Kpt.below a1 hb2).sub (T' := T) fun j hj => .inl (.inl hj)))
    have HA2 := hid (a3.below hb2)
    have HQ2 : Hid (Has w2 w.heap.size (bV zB).toArray 34) := hid (by
      have := a2.has (.inr rfl) H1.out
      exact this.below hb2 this.lt)
    have HF2 : Hid (Has w2 q (bV fb).toArray 34) := hid (by rw [hq]; exact hf2)
    have HG2 : Hid (w.heap.size < g ∧ g < w1.heap.size) := hid ⟨by omega, a3.lt⟩
    have HQW : Hid (w.heap.size < q) := hid (by have := a3.lt; omega)
    have HPG : Hid (¬ ((T g ∨ g = w.heap.size) ∨ g = q)) := hid fun hj => by
      have := a3.lt
      rcases hj with (hj | hj) | hj
      · have := HTL.out g hj; omega
      · omega
      · omega
    clear a1 a2 a3 a4 hf2 hb2 HKA HWA H1 hz2
    obtain ⟨be, bg, bk, bn, bp⟩ := fb
    unfold bV at hw2 ⊢
    simp only at hw2 ⊢
    go_wp2_with fail
    rw [← hw2, ← hq]
    clear hw2 hq
    have hqf := HF2.out
    have lq := hqf.lt
    have c2 : w2.cell? ⟨q, 2, none⟩ = some (.int .i64 bk) := hqf.cell 2
    clear hqf
    refine Tl.wp_mix_lit (by kernel_rfl) 6 [19, 20, 21, 22, 23, 24] 54 rfl (by kernel_rfl) (BelW w2) (opF g n q c bk) ((Below.refl _ _).drew)
      ⟨fun a' W' hC hF => ?_, fun a' W' hC hF => ?_, fun a' W' hC hF => ?_, fun a' W' hC hF => ?_, fun a' W' hC hF => ?_, fun a' W' hC hF => ?_, trivial⟩ ?_
    · exact Tl.sm_v 19 _ rfl (Tl.wanted_none rfl) hC rfl (rn_move rfl ((hF 4 (by decide +kernel)).2 (by decide)))
    · refine Tl.sm_call 27 #[_] (Tl.wanted_none rfl) (rn_call1 rfl rfl ((hF 19 (by decide +kernel)).1 (by decide)) (ens27 _ _)) ((answers_any (HA2.out.below hC) HGL.out (by omega)).mono ?_)
      rintro e w'' ⟨rfl, hb⟩
      exact ⟨_, rfl, Below.trans hC (hb.mono (Below.size hC)), fun d v _ h => h, fun d hd => by cases hd; rw [← hc]; rfl⟩
    · exact Tl.sm_v 21 _ rfl (Tl.wanted_none rfl) hC rfl (rn_f34_1 rfl ((hF 5 (by decide +kernel)).2 (by decide)))
    · exact Tl.sm_v 22 _ rfl (Tl.wanted_none rfl) hC rfl (rn_f26_0 rfl ((hF 21 (by decide +kernel)).1 (by decide)))
    · exact Tl.sm_v 23 _ rfl (Tl.wanted_none rfl) hC rfl (rn_load3k rfl ((hF 22 (by decide +kernel)).1 (by decide)) (BelW.cell hC (p := ⟨q, 2, none⟩) lq c2))
    · exact Tl.sm_v 24 _ rfl (Tl.wanted_none rfl) hC rfl (rn_lss3 rfl ((hF 20 (by decide +kernel)).1 (by decide)) ((hF 23 (by decide +kernel)).1 (by decide)))
    intro v w3 hw3 hv
    have v24 : v 24 = .bool (decide ((c : Int) < bk)) := hv 24 (by decide)
    have hB3 : Below w2.heap.size w2 w3 := hw3
    clear hv hw3 c2
    simp only [Tl.fill, List.drop_succ_cons, List.drop_zero, wpList]
    simp only [Act.put, List.setIfInBounds_toArray, List.set_cons_succ, List.set_cons_zero, v24]
    clear v24
    have HW3 := hid (HW2.out.below hB3)
    have HK3 := hid (HK2.out.trans ((Kpt.below HW2.out hB3).sub (T' := T) fun j hj => .inl (.inl (.inl hj))))
    have HA3 := hid (HA2.out.below hB3)
    have HQ3 := hid (HQ2.out.below hB3 HQ2.out.lt)
    have HF3 := hid (HF2.out.below hB3 HF2.out.lt)
    clear hB3 HW2 HK2 HA2 HQ2 HF2 lq
    obtain ⟨⟨y0, y1, y2, y3, y4⟩, f0, f1, f2, f3, f4⟩ := zero5 HQ3.out
    have hqf := HF3.out
    have x0 : w3.cell? ⟨q, 0, none⟩ = some (.int .i64 be) := hqf.cell 0
    have x1 : w3.cell? ⟨q, 1, none⟩ = some (.int .i64 bg) := hqf.cell 1
    have x2 : w3.cell? ⟨q, 2, none⟩ = some (.int .i64 bk) := hqf.cell 2
    have x3 : w3.cell? ⟨q, 3, none⟩ = some (.int .i64 bn) := hqf.cell 3
    have x4 : w3.cell? ⟨q, 4, none⟩ = some (.string bp) := hqf.cell 4
    clear hqf
    have HF := hid (fin5 HW3.out (fun j hj => .inl (.inl (.inl hj))) (.inl (.inl (.inr rfl))) HTL.out HW0.out HK3.out HQ3.out zB)
    have HOF : Hid (Ok (M + 6 * n) n V1) := hid (HOK1.out.more (by omega))
    unfold w5 at HF
    by_cases hck : (c : Int) < bk
    · have HO : Hid (openW V = (55, zB, V1)) := hid (by rw [HHO.out, if_pos hck])
      rw [decide_eq_true hck]
      clear hck
      go_wp2_with fail
      refine F.ret_cell (b := w.heap.size) (cs := bV zB) (p := 2) (u := 3) (v := .int .i64 55) rfl ?_ ?_ rfl HF.out.2.2.range Tryz.underlying34 rfl info34 ?_
      · rfl
      · rfl
      · rw [HO.out]
        exact ⟨rfl, HF.out.1, HF.out.2.1, HOF.out⟩
    · rw [decide_eq_false hck]
      by_cases hbe : be = 2147483647
      · have HO : Hid (openW V = (40, zB, V1)) := hid (by rw [HHO.out, if_neg hck, if_pos hbe])
        subst hbe
        clear hck
        go_wp2_with fail
        refine F.ret_cell (b := w.heap.size) (cs := bV zB) (p := 2) (u := 3) (v := .int .i64 40) rfl ?_ ?_ rfl HF.out.2.2.range Tryz.underlying34 rfl info34 ?_
        · rfl
        · rfl
        · rw [HO.out]
          exact ⟨rfl, HF.out.1, HF.out.2.1, HOF.out⟩
      · have q3 : (be == 2147483647) = false := by simpa using hbe
        have HHO2 : Hid (openW V = if enoE (eachE (setD ⟨be, bg, bk, bn, bp⟩) l V1) bk ≠ 0 then (enoE (eachE (setD ⟨be, bg, bk, bn, bp⟩) l V1) bk, zB, (eachE (setD ⟨be, bg, bk, bn, bp⟩) l V1).V) else sprW (eachE (setD ⟨be, bg, bk, bn, bp⟩) l V1).l (nextE ⟨be, bg, bk, bn, bp⟩) be bg (eachE (setD ⟨be, bg, bk, bn, bp⟩) l V1).V) := hid (by rw [HHO.out, if_neg hck, if_neg hbe])
        have HNX := hid (next_ok HFO.out hbe)
        clear hck HF HOF
        have hg0 : w0.heap.size ≤ g := by have := HW0.out; have := HG2.out; omega
        have HST := settle_any (P := fun j => (T j ∨ j = w.heap.size) ∨ j = q) (bb := ⟨be, bg, bk, bn, bp⟩) HW3.out HL.out HPG.out HA3.out HGL.out hn HOK1.out (by omega) hg0 HFO.out HFN.out
        obtain ⟨s, hs⟩ : ∃ s, s = eachE (setD ⟨be, bg, bk, bn, bp⟩) l V1 := ⟨_, rfl⟩
        rw [← hs] at HST HHO2
        have hsl : s.l.length = n ∨ True := .inr trivial
        have HS := hid hs
        clear hs hsl
        obtain ⟨ee, hee⟩ : ∃ ee, ee = enoE s bk := ⟨_, rfl⟩
        rw [show (⟨be, bg, bk, bn, bp⟩ : Bst).k = bk from rfl, ← hee] at HST
        rw [← hee] at HHO2
        clear hee
        unfold bV ptr er at HST
        simp only at HST
        go_wp2_with fail
        refine HST.mono ?_
        rintro e w4 ⟨rfl, a1, a2, a3, a4⟩
        clear HST y0 y1 y2 y3 y4 f0 f1 f2 f3 f4 x0 x1 x2 x3 x4
        have HW4 := hid a1
        have HK4 := hid (HK3.out.trans (a2.sub (T' := T) fun j hj => .inl (.inl hj)))
        have HA4 := hid a3
        have HQ4 := hid (a2.has (.inl (.inr rfl)) HQ3.out)
        have HF4 := hid (a2.has (.inr rfl) HF3.out)
        have HOK4 := hid a4
        clear a1 a2 a3 a4 HW3 HK3 HA3 HQ3 HF3
        obtain ⟨⟨y0, y1, y2, y3, y4⟩, f0, f1, f2, f3, f4⟩ := zero5 HQ4.out
        have hqf := HF4.out
        have x0 : w4.cell? ⟨q, 0, none⟩ = some (.int .i64 be) := hqf.cell 0
        have x1 : w4.cell? ⟨q, 1, none⟩ = some (.int .i64 bg) := hqf.cell 1
        have x2 : w4.cell? ⟨q, 2, none⟩ = some (.int .i64 bk) := hqf.cell 2
        have x3 : w4.cell? ⟨q, 3, none⟩ = some (.int .i64 bn) := hqf.cell 3
        have x4 : w4.cell? ⟨q, 4, none⟩ = some (.string bp) := hqf.cell 4
        have lq := hqf.lt
        clear hqf
        by_cases he0 : ee = 0
        · rw [if_neg (fun h => h he0)] at HHO2
          subst he0
          have hbm : 0 ≤ be ∧ be ≤ 2147483647 := by
            have h3 := (F.mkE_zero.1 HFO.out).1
            unfold F.okF F.okN at h3
            simp only [Bool.and_eq_true, decide_eq_true_eq] at h3
            omega
          have wr1 : IntKind.i64.wrap (be + 1) = be + 1 := wrap_i64_of (by omega) (by omega)
          obtain ⟨w6, hw6⟩ : ∃ w6, w6 = w4.alloc (.cells #[.int .i64 (be + 1), .int .i64 bg, .int .i64 bk, .int .i64 bn, .string bp] 34) := ⟨_, rfl⟩
          have hn6 : Has w6 w4.heap.size #[.int .i64 (be + 1), .int .i64 bg, .int .i64 bk, .int .i64 bn, .string bp] 34 := by rw [hw6]; exact Has.new _ _ _ _ rfl
          have hb6 : Below w4.heap.size w4 w6 := by rw [hw6]; exact boxed _ _
          have z0 := hn6.cell 0
          have z1 := hn6.cell 1
          have z2 := hn6.cell 2
          have z3 := hn6.cell 3
          have z4 := hn6.cell 4
          have u0 : w6.cell? ⟨q, 0, none⟩ = some (.int .i64 be) := by rw [hb6.cell (p := ⟨q, 0, none⟩) lq]; exact x0
          have u1 : w6.cell? ⟨q, 1, none⟩ = some (.int .i64 bg) := by rw [hb6.cell (p := ⟨q, 1, none⟩) lq]; exact x1
          have HW6 : Hid (WT w0 w6 b s.V (fun j => (((T j ∨ j = w.heap.size) ∨ j = q) ∨ j = w4.heap.size) ∨ j = g)) := hid ((HW4.out.plus hb6 (q := w4.heap.size) ⟨Nat.le_refl _, hn6.lt⟩).sub fun j hj => by
            rcases hj with (hj | hj) | hj
            · exact .inl (.inl hj)
            · exact .inr hj
            · exact .inl (.inr hj))
          have HPG6 : Hid (¬ (((T g ∨ g = w.heap.size) ∨ g = q) ∨ g = w4.heap.size)) := hid fun hj => by
            rcases hj with hj | hj
            · exact HPG.out hj
            · have := HA4.out.lt; omega
          have hSL : s.l.length = n := by rw [HS.out, each_len]; exact HGL.out
          have HSP := spread_any (P := fun j => ((T j ∨ j = w.heap.size) ∨ j = q) ∨ j = w4.heap.size) (bb := nextE ⟨be, bg, bk, bn, bp⟩) be bg HW6.out HL.out HPG6.out (HA4.out.below hb6) hSL hn HOK4.out (by omega) hg0 HNX.out HFN.out
          obtain ⟨sp, hsp⟩ : ∃ sp, sp = sprW s.l (nextE ⟨be, bg, bk, bn, bp⟩) be bg s.V := ⟨_, rfl⟩
          rw [← hsp] at HSP HHO2
          clear hsp
          have HQ6 := hid (HQ4.out.below hb6 HQ4.out.lt)
          have HK6 := hid (HK4.out.trans ((Kpt.below HW4.out hb6).sub (T' := T) fun j hj => .inl (.inl (.inl hj))))
          unfold nextE bV ptr er at HSP
          simp only at HSP
          simp only [List.getElem?_toArray, List.getElem?_cons_zero, List.getElem?_cons_succ] at z0 z1 z2 z3 z4
          rw [hw6] at z0 z1 z2 z3 z4 u0 u1
          clear hn6 hb6 HW4 HK4 HA4 HQ4 HF4
          obtain ⟨se, sb, sV⟩ := sp
          obtain ⟨re, rg, rk, rn, rp⟩ := sb
          simp only at HSP
          go_wp2_with fail
          rw [← hw6]
          refine HSP.mono ?_
          rintro e w7 ⟨rfl, a1, a2, a3⟩
          clear HSP hw6 z0 z1 z2 z3 z4 u0 u1 y0 y1 y2 y3 y4 f0 f1 f2 f3 f4 x0 x1 x2 x3 x4
          have hq7 := a2.has (.inl (.inl (.inr rfl))) HQ6.out
          obtain ⟨⟨y0, y1, y2, y3, y4⟩, f0, f1, f2, f3, f4⟩ := zero5 hq7
          have HF := hid (fin5 a1 (fun j hj => .inl (.inl (.inl (.inl hj)))) (.inl (.inl (.inl (.inr rfl)))) HTL.out HW0.out (HK6.out.trans (a2.sub (T' := T) fun j hj => .inl (.inl (.inl hj)))) hq7 ⟨re, rg, rk, rn, rp⟩)
          have HOF : Hid (Ok (M + 6 * n) n sV) := hid (a3.more (by omega))
          unfold w5 at HF
          clear a1 a2 a3 hq7
          go_wp2_with fail
          refine F.ret_cell (b := w.heap.size) (cs := bV ⟨re, rg, rk, rn, rp⟩) (p := 2) (u := 3) (v := .int .i64 se) rfl ?_ ?_ rfl HF.out.2.2.range Tryz.underlying34 rfl info34 ?_
          · rfl
          · rfl
          · rw [HHO2.out]
            exact ⟨rfl, HF.out.1, HF.out.2.1, HOF.out⟩
        · rw [if_pos he0] at HHO2
          have q5 : (ee != 0) = true := by simpa using he0
          have HF := hid (fin5 HW4.out (fun j hj => .inl (.inl (.inl hj))) (.inl (.inl (.inr rfl))) HTL.out HW0.out HK4.out HQ4.out zB)
          have HOF : Hid (Ok (M + 6 * n) n s.V) := hid (HOK4.out.more (by omega))
          have HO := HHO2
          unfold w5 at HF
          clear he0
          go_wp2_with fail
          refine F.ret_cell (b := w.heap.size) (cs := bV zB) (p := 2) (u := 3) (v := .int .i64 ee) rfl ?_ ?_ rfl HF.out.2.2.range Tryz.underlying34 rfl info34 ?_
          · rfl
          · rfl
          · rw [HO.out]
            exact ⟨rfl, HF.out.1, HF.out.2.1, HOF.out⟩
end Go.Proofs.YtmpgfpmkmgebdaaGreatDoor
