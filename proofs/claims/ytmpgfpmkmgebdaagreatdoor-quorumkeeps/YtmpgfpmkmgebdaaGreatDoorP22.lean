/- Quorum: Init. -/
import Derived.Test.YtmpgfpmkmgebdaaGreatDoorP21
namespace Go.Proofs.YtmpgfpmkmgebdaaGreatDoor
open Go.RowKit Go.Maps
open W
set_option linter.unusedVariables false
def inF (q : Nat) (k n : Int) (p : ByteArray) (z : Nat) (s : Nat) (v : Value) (W : World) : Prop := match s with
  | 14 => v = .agg #[.int .i64 1, .int .i64 1] | 15 => v = .agg #[.int .i64 k, .int .i64 n] | 16 => v = .string p | 17 => v = .string p | 18 => v = .agg (bV ⟨1, 1, k, n, p⟩).toArray
  | 8 => ∃ x, v = .pointer (some ⟨x, 0, none⟩) ∧ Has W x (bV zB).toArray 34 ∧ z ≤ x
  | _ => True
theorem inF_below {q z : Nat} {k n : Int} {p : ByteArray} {s : Nat} {v : Value} {W W' : World} (h : inF q k n p z s v W) (hb : Below W.heap.size W W') : inF q k n p z s v W' := by
  unfold inF at h ⊢
  split at h <;> first | exact h | skip
  obtain ⟨x, h1, h2, h3⟩ := h
  exact ⟨x, h1, h2.below hb h2.lt, h3⟩
section
variable {ev : Operand → Value} {o : Oper} {w : World} {x y : Operand}
theorem rn_b32_11 (ho : o.op = .build 32 #[(0, .const (.int .i64 1)), (1, .const (.int .i64 1))]) (h1 : ev (.const (.int .i64 1)) = .int .i64 1) : (execOp ev o).run Tryz.prog w = .ok (.value (.agg #[.int .i64 1, .int .i64 1])) w := by
  simp [execOp, ho, h1, go_sem]
theorem rn_load26z {g : Nat} {u v : Int} (ho : o.op = .load 26 x) (hx : ev x = .pointer (some ⟨g, 0, none⟩)) (h0 : w.cell? ⟨g, 0, none⟩ = some (.int .i64 u)) (h1 : w.cell? ⟨g, 1, none⟩ = some (.int .i64 v)) : (execOp ev o).run Tryz.prog w = .ok (.value (.agg #[.int .i64 u, .int .i64 v])) w := by
  simp [execOp, ho, hx, go_sem, h0, h1]
end
set_option maxHeartbeats 16000000 in
set_option maxRecDepth 20000 in
theorem init_any {w0 w : World} {b : Nat} {V : Wd} {T : Nat → Prop} (h : WT w0 w b V T) (hl : F.Lay w0) {M n : Nat} (hok : Ok M n V) (hn : n ≤ 12) (hM : M ≤ 700000) (bk bn : Int) (p : ByteArray) (hp : p.size ≤ 1000000) : Calls Tryz.prog 7 #[ptr b, .agg #[.int .i64 bk, .int .i64 bn], .string p] w fun e w' => e = .returned (.tuple #[.agg (bV (initW V bk bn p).2.1).toArray, er (initW V bk bn p).1]) ∧ WT w0 w' b (initW V bk bn p).2.2 T ∧ Kpt T w w' ∧ Ok (M + 6 * n) n (initW V bk bn p).2.2 := by
  obtain ⟨wa, hwa⟩ : ∃ wa, wa = (w.alloc (.cells #[.int .i64 bk, .int .i64 bn] 26)).alloc (.cells #[.int .i64 0, .int .i64 0, .int .i64 0, .int .i64 0, .string ⟨#[]⟩] 34) := ⟨_, rfl⟩
  have hB : Below w.heap.size w wa := by rw [hwa]; exact ((Below.refl _ _).alloc (Nat.le_refl _) _).alloc (by simp) _
  have h0 : Has wa w.heap.size #[.int .i64 bk, .int .i64 bn] 26 := by rw [hwa]; exact (Has.new w _ _ _ rfl).alloc _
  have h1 : Has wa (w.heap.size + 1) (bV zB).toArray 34 := by rw [hwa]; exact Has.new _ (w.heap.size + 1) _ _ (by simp)
  have hsz : wa.heap.size = w.heap.size + 2 := by rw [hwa]; simp
  have HWA := hid ((h.new hB).sub (T' := fun j => T j ∨ (w.heap.size ≤ j ∧ j < w.heap.size + 2)) fun j hj => by
    rcases hj with hj | hj
    · exact .inl hj
    · exact .inr ⟨hj.1, by omega⟩)
  have HKA := hid (Kpt.below h hB)
  have HTL : Hid (∀ j, T j → j < w.heap.size) := hid h.lt
  have HW0 : Hid (w0.heap.size ≤ w.heap.size) := hid h.base.size
  have H1 := hid h1
  have HL := hid hl
  have HOK := hid hok
  have lq := h0.lt
  have c0 : wa.cell? ⟨w.heap.size, 0, none⟩ = some (.int .i64 bk) := h0.cell 0
  have c1 : wa.cell? ⟨w.heap.size, 1, none⟩ = some (.int .i64 bn) := h0.cell 1
  clear h hl hok hB h0 h1
  unfold ptr at *
  go_enter Tryz.func7, Tryz.ntmps7
  go_wp2_with fail
  rw [← hwa]
  clear hwa
  refine Tl.wp_mix_lit (by kernel_rfl) 6 [14, 15, 16, 17, 18, 8] 55 rfl (by kernel_rfl) (BelW wa) (inF w.heap.size bk bn p wa.heap.size) ((Below.refl _ _).drew)
    ⟨fun a' W' hC hF => ?_, fun a' W' hC hF => ?_, fun a' W' hC hF => ?_, fun a' W' hC hF => ?_, fun a' W' hC hF => ?_, fun a' W' hC hF => ?_, trivial⟩ ?_
  · exact Tl.sm_v 14 _ rfl (Tl.wanted_none rfl) hC rfl (rn_b32_11 rfl rfl)
  · exact Tl.sm_v 15 _ rfl (Tl.wanted_none rfl) hC rfl (rn_load26z rfl ((hF 4 (by decide +kernel)).2 (by decide)) (BelW.cell hC (p := ⟨w.heap.size, 0, none⟩) lq c0) (BelW.cell hC (p := ⟨w.heap.size, 1, none⟩) lq c1))
  · exact Tl.sm_v 16 _ rfl (Tl.wanted_none rfl) hC rfl (rn_move rfl ((hF 2 (by decide +kernel)).2 (by decide)))
  · refine Tl.sm_call 23 #[_] (Tl.wanted_none rfl) (rn_call1 rfl rfl ((hF 16 (by decide +kernel)).1 (by decide)) (ens23 _ _)) ((clone_any p W' (by omega)).mono ?_)
    rintro e w'' ⟨rfl, hb⟩
    exact ⟨_, rfl, Below.trans hC (hb.mono (Below.size hC)), fun d v _ h => inF_below h hb, fun d hd => by cases hd; rfl⟩
  · exact Tl.sm_v 18 _ rfl (Tl.wanted_none rfl) hC rfl (rn_build34 rfl ((hF 14 (by decide +kernel)).1 (by decide)) ((hF 15 (by decide +kernel)).1 (by decide)) ((hF 17 (by decide +kernel)).1 (by decide)))
  · exact Tl.sm_w _ (Tl.wanted_none rfl) (rn_alloc34 rfl) (Below.trans hC ((boxed W' _).mono (Below.size hC))) (fun d v _ h => inF_below h (boxed W' _)) (fun d hd => by cases hd; exact ⟨_, rfl, Has.new _ _ _ _ rfl, Below.size hC⟩)
  intro v w1 hw1 hv
  have v18 : v 18 = .agg (bV ⟨1, 1, bk, bn, p⟩).toArray := hv 18 (by decide)
  obtain ⟨q, v8, hq1, hqz⟩ := (show ∃ x, v 8 = .pointer (some ⟨x, 0, none⟩) ∧ Has w1 x (bV zB).toArray 34 ∧ wa.heap.size ≤ x from hv 8 (by decide))
  have hB1 : Below wa.heap.size wa w1 := hw1
  clear hv hw1 c0 c1
  simp only [Tl.fill, List.drop_succ_cons, List.drop_zero, wpList]
  simp only [Act.put, List.setIfInBounds_toArray, List.set_cons_succ, List.set_cons_zero, v18, v8]
  clear v18 v8
  rw [if_pos (Tl.wanted_none rfl)]
  left
  apply wp_store34 (x := .tmp 8) (y := .tmp 18) (q := q) (c := ⟨1, 1, bk, bn, p⟩) _ _ _ _ hq1
  rotate_left
  · rfl
  · rfl
  · rfl
  · rfl
  obtain ⟨p1, p2⟩ := put5 (c := ⟨1, 1, bk, bn, p⟩) hq1
  have hW1 : WT w0 w1 b V (fun j => T j ∨ (w.heap.size ≤ j ∧ j < w1.heap.size)) := (HWA.out.new hB1).sub fun j hj => by
    rcases hj with hj | hj
    · exact .inl (.inl hj)
    · by_cases hjl : j < w.heap.size + 2
      · exact .inl (.inr ⟨hj.1, hjl⟩)
      · exact .inr ⟨by omega, hj.2⟩
  obtain ⟨w2, hw2⟩ : ∃ w2, w2 = w5 w1 q ⟨1, 1, bk, bn, p⟩ := ⟨_, rfl⟩
  have hO2 : Only (fun j => j = q) w1 w2 := by rw [hw2]; exact p2
  have hN2 : Has w2 q (bV ⟨1, 1, bk, bn, p⟩).toArray 34 := by rw [hw2]; exact p1
  rw [← hw2]
  have HZ : Hid (w.heap.size + 2 ≤ q ∧ q < w1.heap.size ∧ w1.heap.size ≤ w2.heap.size) := hid ⟨by omega, hq1.lt, hO2.size⟩
  have HW2 : Hid (WT w0 w2 b V (fun j => T j ∨ (j = w.heap.size + 1 ∨ j = q))) := hid ((hW1.list (g := q) (.inr ⟨by omega, hq1.lt⟩) (by have := HW0.out; omega) hO2).sub fun j hj => by
    have := HZ.out
    rcases hj with hj | hj
    · exact .inl hj
    · exact .inr ⟨by omega, by omega⟩)
  have HK2 : Hid (Kpt T w w2) := hid ((HKA.out.trans ((Kpt.below HWA.out hB1).sub (T' := T) fun j hj => .inl hj)).trans ⟨hO2.size, fun j hj => hO2.block j (hW1.lt j (.inl hj)) (by have := HTL.out j hj; have := HZ.out; omega)⟩)
  have HR2 : Hid (Has w2 (w.heap.size + 1) (bV zB).toArray 34) := hid (hO2.has (H1.out.below hB1 H1.out.lt) (by have := HZ.out; omega))
  have HN2 := hid hN2
  clear p1 p2 hW1 hw2 hO2 hN2 hq1 hqz hB1 HWA HKA H1 lq
  have HMP := mayPut_any HW2.out HL.out ⟨1, 1, bk, bn, p⟩
  have HWR : Hid (initW V bk bn p = if mayP V ⟨1, 1, bk, bn, p⟩ ≠ 0 then (mayP V ⟨1, 1, bk, bn, p⟩, zB, V) else if (gathW V).1 ≠ 0 then ((gathW V).1, zB, (gathW V).2.1) else if (nwst (gathW V).2.2).sd then (6, zB, (gathW V).2.1) else if (idx 0 (gathW V).2.2).length < (gathW V).2.2.length then (55, zB, (gathW V).2.1) else sprW (gathW V).2.2 ⟨1, 1, bk, bn, p⟩ 0 0 (gathW V).2.1) := hid rfl
  obtain ⟨me, hme⟩ : ∃ me, me = mayP V ⟨1, 1, bk, bn, p⟩ := ⟨_, rfl⟩
  rw [← hme] at HMP HWR
  have HME := hid hme
  clear hme
  have hqn := HN2.out
  have x0 : w2.cell? ⟨q, 0, none⟩ = some (.int .i64 1) := hqn.cell 0
  have x1 : w2.cell? ⟨q, 1, none⟩ = some (.int .i64 1) := hqn.cell 1
  have x2 : w2.cell? ⟨q, 2, none⟩ = some (.int .i64 bk) := hqn.cell 2
  have x3 : w2.cell? ⟨q, 3, none⟩ = some (.int .i64 bn) := hqn.cell 3
  have x4 : w2.cell? ⟨q, 4, none⟩ = some (.string p) := hqn.cell 4
  clear hqn
  unfold bV ptr er at HMP
  simp only at HMP
  go_wp2_with fail
  refine HMP.mono ?_
  rintro e w3 ⟨rfl, hb3⟩
  clear HMP x0 x1 x2 x3 x4
  have HW3 := hid (HW2.out.below hb3)
  have HK3 := hid (HK2.out.trans ((Kpt.below HW2.out hb3).sub (T' := T) fun j hj => .inl hj))
  have HR3 := hid (HR2.out.below hb3 HR2.out.lt)
  have HN3 := hid (HN2.out.below hb3 HN2.out.lt)
  clear hb3 HW2 HK2 HR2 HN2
  by_cases hm0 : me = 0
  · rw [if_neg (fun h => h hm0)] at HWR
    have HDN : Hid (bn = (n : Int)) := hid (by
      have := HME.out
      unfold mayP at this
      rw [hm0] at this
      by_cases hbn : bn = (V.l.length : Int)
      · rw [hbn, HOK.out.len]
      · rw [if_neg hbn] at this
        cases this)
    have HDO : Hid (mErr ⟨1, 1, bk, bn, p⟩ = 0) := hid (by
      have := HME.out
      unfold mayP at this
      rw [hm0] at this
      by_cases hbn : bn = (V.l.length : Int)
      · rw [if_pos hbn] at this
        exact this.symm
      · rw [if_neg hbn] at this
        cases this)
    subst hm0
    go_wp2_with fail
    refine gather_any HW3.out HL.out HOK.out hn (by omega) _ ?cut ?okk
    case cut =>
      intro hg1 w6 a1 a2
      have HO : Hid (initW V bk bn p = (56, zB, (gathW V).2.1)) := hid (by rw [HWR.out, if_pos (by rw [hg1]; decide), hg1])
      have hq0 := a2.has (.inr (.inl rfl)) HR3.out
      obtain ⟨⟨y0, y1, y2, y3, y4⟩, f0, f1, f2, f3, f4⟩ := zero5 hq0
      have HF := hid (fin5 a1 (fun j hj => .inl hj) (.inr (.inl rfl)) (fun j hj => by have := HTL.out j hj; omega) (by have := HW0.out; omega) (HK3.out.trans (a2.sub (T' := T) fun j hj => .inl hj)) hq0 zB)
      have HOF : Hid (Ok (M + 6 * n) n (gathW V).2.1) := hid ((gathW_ok HOK.out).1.more (by omega))
      unfold w5 at HF
      clear a1 a2 hq0 hg1
      go_wp2_with fail
      refine F.ret_cell (b := w.heap.size + 1) (cs := bV zB) (p := 6) (u := 7) (v := .int .i64 56) rfl ?_ ?_ rfl HF.out.2.2.range Tryz.underlying34 rfl info34 ?_
      · rfl
      · rfl
      · rw [HO.out]
        exact ⟨rfl, HF.out.1, HF.out.2.1, HOF.out⟩
    case okk =>
      intro hg1 hgl w6 g a1 a2 a3 a4
      rw [if_neg (by rw [hg1]; decide)] at HWR
      have hok1 := (gathW_ok HOK.out).1
      obtain ⟨l, hl⟩ : ∃ l, l = (gathW V).2.2 := ⟨_, rfl⟩
      obtain ⟨V1, hV1⟩ : ∃ V1, V1 = (gathW V).2.1 := ⟨_, rfl⟩
      rw [← hl] at a3 hgl HWR
      rw [← hV1] at a1 hok1 HWR
      have HNW := newest_any a3 hgl (by omega)
      have HW6 := hid a1
      have HK6 := hid (HK3.out.trans (a2.sub (T' := T) fun j hj => .inl hj))
      have HA6 := hid a3
      have HR6 := hid (a2.has (.inr (.inl rfl)) HR3.out)
      have HN6 := hid (a2.has (.inr (.inr rfl)) HN3.out)
      have HGL := hid hgl
      have HOK6 := hid hok1
      have HG6 : Hid (w3.heap.size ≤ g) := hid a4
      have HQ3 : Hid (q < w3.heap.size) := hid HN3.out.lt
      have HPG : Hid (¬ (T g ∨ (g = w.heap.size + 1 ∨ g = q))) := hid fun hj => by
        have := HN3.out.lt
        have := HZ.out
        rcases hj with hj | hj
        · have := HTL.out g hj; omega
        · omega
      clear a1 a2 a3 a4 hl hV1 hgl hok1 hg1 HW3 HK3 HR3 HN3
      obtain ⟨nw, hnw⟩ : ∃ nw, nw = nwst l := ⟨_, rfl⟩
      rw [← hnw] at HNW HWR
      clear hnw
      obtain ⟨ns, ne, ng, nk, nn, np⟩ := nw
      unfold bV at HNW
      simp only at HNW HWR
      go_wp2_with fail
      refine HNW.mono ?_
      rintro e w7 ⟨rfl, hb7⟩
      clear HNW
      obtain ⟨w8, hw8⟩ : ∃ w8, w8 = w7.alloc (.cells #[.int .i64 ne, .int .i64 ng, .int .i64 nk, .int .i64 nn, .string np] 34) := ⟨_, rfl⟩
      have hb8 : Below w6.heap.size w6 w8 := by rw [hw8]; exact hb7.alloc hb7.size _
      have HW8 := hid (HW6.out.below hb8)
      have HK8 := hid (HK6.out.trans ((Kpt.below HW6.out hb8).sub (T' := T) fun j hj => .inl (.inl hj)))
      have HA8 := hid (HA6.out.below hb8)
      have HR8 := hid (HR6.out.below hb8 HR6.out.lt)
      have HN8 := hid (HN6.out.below hb8 HN6.out.lt)
      clear hb7 hb8 HW6 HK6 HA6 HR6 HN6
      obtain ⟨⟨y0, y1, y2, y3, y4⟩, f0, f1, f2, f3, f4⟩ := zero5 HR8.out
      cases ns with
      | true =>
        have HO : Hid (initW V bk bn p = (6, zB, V1)) := hid (by rw [HWR.out, if_pos rfl])
        have HF := hid (fin5 HW8.out (fun j hj => .inl (.inl hj)) (.inl (.inr (.inl rfl))) (fun j hj => by have := HTL.out j hj; omega) (by have := HW0.out; omega) HK8.out HR8.out zB)
        have HOF : Hid (Ok (M + 6 * n) n V1) := hid (HOK6.out.more (by omega))
        unfold w5 at HF
        clear HWR HW8 HK8 HA8 HR8 HN8
        rw [hw8] at y0 y1 y2 y3 y4 f0 f1 f2 f3 f4 HF
        clear hw8
        go_wp2_with fail
        refine F.ret_cell (b := w.heap.size + 1) (cs := bV zB) (p := 6) (u := 7) (v := .int .i64 6) rfl ?_ ?_ rfl HF.out.2.2.range Tryz.underlying34 rfl info34 ?_
        · rfl
        · rfl
        · rw [HO.out]
          exact ⟨rfl, HF.out.1, HF.out.2.1, HOF.out⟩
      | false =>
        rw [if_neg (by decide)] at HWR
        clear y0 y1 y2 y3 y4 f0 f1 f2 f3 f4
        have HAN := answers_any HA8.out HGL.out (by omega)
        obtain ⟨c, hc⟩ : ∃ c, c = (idx 0 l).length := ⟨_, rfl⟩
        rw [← hc] at HAN HWR
        clear hc
        go_wp2_with fail
        rw [← hw8]
        clear hw8
        refine HAN.mono ?_
        rintro e w9 ⟨rfl, hb9⟩
        clear HAN
        have HW9 := hid (HW8.out.below hb9)
        have HK9 := hid (HK8.out.trans ((Kpt.below HW8.out hb9).sub (T' := T) fun j hj => .inl (.inl hj)))
        have HA9 := hid (HA8.out.below hb9)
        have HR9 := hid (HR8.out.below hb9 HR8.out.lt)
        have HN9 := hid (HN8.out.below hb9 HN8.out.lt)
        clear hb9 HW8 HK8 HA8 HR8 HN8
        rw [HGL.out] at HWR
        by_cases hck : c < n
        · have q1 : ((c : Int) < (n : Int)) = True := by simp; omega
          have HO : Hid (initW V bk bn p = (55, zB, V1)) := hid (by rw [HWR.out, if_pos hck])
          obtain ⟨⟨y0, y1, y2, y3, y4⟩, f0, f1, f2, f3, f4⟩ := zero5 HR9.out
          have HF := hid (fin5 HW9.out (fun j hj => .inl (.inl hj)) (.inl (.inr (.inl rfl))) (fun j hj => by have := HTL.out j hj; omega) (by have := HW0.out; omega) HK9.out HR9.out zB)
          have HOF : Hid (Ok (M + 6 * n) n V1) := hid (HOK6.out.more (by omega))
          unfold w5 at HF
          clear HWR
          go_wp2_with fail
          refine F.ret_cell (b := w.heap.size + 1) (cs := bV zB) (p := 6) (u := 7) (v := .int .i64 55) rfl ?_ ?_ rfl HF.out.2.2.range Tryz.underlying34 rfl info34 ?_
          · rfl
          · rfl
          · rw [HO.out]
            exact ⟨rfl, HF.out.1, HF.out.2.1, HOF.out⟩
        · rw [if_neg hck] at HWR
          have q1 : ((c : Int) < (n : Int)) = False := by simp; omega
          have hqn := HN9.out
          have x0 : w9.cell? ⟨q, 0, none⟩ = some (.int .i64 1) := hqn.cell 0
          have x1 : w9.cell? ⟨q, 1, none⟩ = some (.int .i64 1) := hqn.cell 1
          have x2 : w9.cell? ⟨q, 2, none⟩ = some (.int .i64 bk) := hqn.cell 2
          have x3 : w9.cell? ⟨q, 3, none⟩ = some (.int .i64 bn) := hqn.cell 3
          have x4 : w9.cell? ⟨q, 4, none⟩ = some (.string p) := hqn.cell 4
          clear hqn
          have hg0 : w0.heap.size ≤ g := by have := HW0.out; have := HG6.out; have := HQ3.out; have := HZ.out; omega
          have HSP := spread_any (P := fun j => T j ∨ (j = w.heap.size + 1 ∨ j = q)) (bb := ⟨1, 1, bk, bn, p⟩) 0 0 HW9.out HL.out HPG.out HA9.out HGL.out hn HOK6.out (by omega) hg0 HDO.out HDN.out
          obtain ⟨sp, hsp⟩ : ∃ sp, sp = sprW l ⟨1, 1, bk, bn, p⟩ 0 0 V1 := ⟨_, rfl⟩
          rw [← hsp] at HSP HWR
          clear hsp
          unfold bV ptr er at HSP
          simp only at HSP
          obtain ⟨se, sb, sV⟩ := sp
          obtain ⟨re, rg, rk, rn, rp⟩ := sb
          simp only at HSP
          go_wp2_with fail
          refine HSP.mono ?_
          rintro e w10 ⟨rfl, a1, a2, a3⟩
          clear HSP x0 x1 x2 x3 x4
          have hq8 := a2.has (.inr (.inl rfl)) HR9.out
          obtain ⟨⟨y0, y1, y2, y3, y4⟩, f0, f1, f2, f3, f4⟩ := zero5 hq8
          have HF := hid (fin5 a1 (fun j hj => .inl (.inl hj)) (.inl (.inr (.inl rfl))) (fun j hj => by have := HTL.out j hj; omega) (by have := HW0.out; omega) (HK9.out.trans (a2.sub (T' := T) fun j hj => .inl hj)) hq8 ⟨re, rg, rk, rn, rp⟩)
          have HOF : Hid (Ok (M + 6 * n) n sV) := hid (a3.more (by omega))
          have HO := HWR
          unfold w5 at HF
          clear a1 a2 a3 hq8
          go_wp2_with fail
          refine F.ret_cell (b := w.heap.size + 1) (cs := bV ⟨re, rg, rk, rn, rp⟩) (p := 6) (u := 7) (v := .int .i64 se) rfl ?_ ?_ rfl HF.out.2.2.range Tryz.underlying34 rfl info34 ?_
          · rfl
          · rfl
          · rw [HO.out]
            exact ⟨rfl, HF.out.1, HF.out.2.1, HOF.out⟩
  · rw [if_pos hm0] at HWR
    have q1 : (me != 0) = true := by simpa using hm0
    have HO := HWR
    obtain ⟨⟨y0, y1, y2, y3, y4⟩, f0, f1, f2, f3, f4⟩ := zero5 HR3.out
    have HF := hid (fin5 HW3.out (fun j hj => .inl hj) (.inr (.inl rfl)) (fun j hj => by have := HTL.out j hj; omega) (by have := HW0.out; omega) HK3.out HR3.out zB)
    have HOF : Hid (Ok (M + 6 * n) n V) := hid (HOK.out.more (by omega))
    unfold w5 at HF
    clear hm0
    go_wp2_with fail
    refine F.ret_cell (b := w.heap.size + 1) (cs := bV zB) (p := 6) (u := 7) (v := .int .i64 me) rfl ?_ ?_ rfl HF.out.2.2.range Tryz.underlying34 rfl info34 ?_
    · rfl
    · rfl
    · rw [HO.out]
      exact ⟨rfl, HF.out.1, HF.out.2.1, HOF.out⟩
end Go.Proofs.YtmpgfpmkmgebdaaGreatDoor
