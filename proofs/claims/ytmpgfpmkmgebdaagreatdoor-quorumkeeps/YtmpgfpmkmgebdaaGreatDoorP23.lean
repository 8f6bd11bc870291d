/- QuorumKeeps: whether a fault may strike, so that no more are suspect than may be, and nothing is forged. -/
import Derived.Test.YtmpgfpmkmgebdaaGreatDoorL2
import Derived.Test.YtmpgfpmkmgebdaaGreatDoorP22
namespace Go.Proofs.YtmpgfpmkmgebdaaGreatDoor
open Go.RowKit Go.Maps
open W
set_option linter.unusedVariables false
variable {w0 w w' : World} {b : Nat} {V V' : Wd} {T : Nat → Prop}
def myF (b b2 q : Nat) (t : Int) (O4 O5 : List Ob) (s : Nat) (v : Value) (W : World) : Prop := match s with
  | 23 => v = .pointer (some ⟨b, 0, none⟩) | 24 => v = .pointer (some ⟨q, 1, none⟩) | 25 => v = .int .i64 t | 26 => RdO W v O4
  | 27 => v = .pointer (some ⟨b2, 0, none⟩) | 28 => v = .pointer (some ⟨q, 1, none⟩) | 29 => v = .int .i64 t | 30 => RdO W v O5
  | 31 => ∃ f, v = .bool f ∧ (f = false → ∀ p ∈ newO O4 O5, F.rdOk p.2 = true → p.1 ≠ m0 ∧ p.1 ≠ m1)
  | _ => True
theorem myF_below {b b2 q : Nat} {t : Int} {O4 O5 : List Ob} {s : Nat} {v : Value} {W W' : World} (h : myF b b2 q t O4 O5 s v W) (hb : Below W.heap.size W W') : myF b b2 q t O4 O5 s v W' := by
  unfold myF at h ⊢
  split at h <;> first | exact h | exact h.below hb
theorem ens32 (args : Array Value) (w : World) : (callFunc 32 args).run Tryz.prog w = .ok (.enter 32 args) w := by kernel_rfl
theorem ens31 (args : Array Value) (w : World) : (callFunc 31 args).run Tryz.prog w = .ok (.enter 31 args) w := by kernel_rfl
theorem rn_f43_1 {ev : Operand → Value} {o : Oper} {w : World} {x : Operand} {g : Nat} (ho : o.op = .fieldAddr 43 x 1) (hx : ev x = .pointer (some ⟨g, 0, none⟩)) : (execOp ev o).run Tryz.prog w = .ok (.value (.pointer (some ⟨g, 1, none⟩))) w := by
  simp [execOp, ho, hx, go_sem]
theorem seen_len {x : Kp} (h : Sm x.st) : x.st.seen.length ≤ 1000000 := Nat.le_trans h.rw.two (by decide)
theorem objs_small (hS : All Sm V) (t : Int) : (objsW V t).length ≤ 1000000 ∧ ∀ p ∈ objsW V t, p.2.size ≤ 1000000 := by
  unfold objsW
  split
  · split
    · rename_i x hx
      have := hS x (List.mem_of_getElem? hx)
      exact ⟨seen_len this, fun p hp => Nat.le_trans (this.rw.dat p hp) (by decide)⟩
    · exact ⟨by decide, fun p hp => by cases hp⟩
  · exact ⟨by decide, fun p hp => by cases hp⟩
/-- what a fault that may strike is -/
def Mays (V : Wd) (n : Int) (k t m a c most : Int) : Prop := (∀ x, 0 ≤ t → V.l[t.toNat]? = some x → ∀ b, Stands n (strikeS x.st k m a c).2 b → Stands n x.st b) ∧ (k = 5 ∨ k = 7 ∨ ((V.l.countP fun x => x.sus : Nat) : Int) < most ∨ ∃ x, V.l[t.toNat]? = some x ∧ x.sus = true)
theorem mays_easy {n k t m a c most : Int} (h : k = 5 ∨ k = 7) : Mays V n k t m a c most := by
  refine ⟨fun x _ _ b hb => ?_, ?_⟩
  · have e : (strikeS x.st k m a c).2.seen = x.st.seen := by
      unfold strikeS
      split
      · rfl
      · rcases h with rfl | rfl <;> rfl
    exact (stands_seen e).1 hb
  · rcases h with h | h
    · exact .inl h
    · exact .inr (.inl h)
set_option maxHeartbeats 16000000 in
set_option maxRecDepth 20000 in
theorem may_any (h : WT w0 w b V T) (hl : F.Lay w0) {M n : Nat} (hok : Ok M n V) (hM : M ≤ 700000) (hn : 0 < n ∧ n ≤ 12) (hS : All Sm V) (k t m a c most : Int) (hk : 0 ≤ k ∧ k < 256) (hm : m < 9223372036854775808) (ha : a < 9223372036854775808) (Q : Ending → World → Prop)
    (hq : ∀ r w', (r = true → Mays V n k t m a c most) → Below w.heap.size w w' → Q (.returned (.bool r)) w') : Calls Tryz.prog 11 #[ptr b, fv k t m a c, .int .i64 most] w Q := by
  have HQ := hid hq
  clear hq
  obtain ⟨wa, hwa⟩ : ∃ wa, wa = w.alloc (.cells #[.int .u8 k, .int .i64 t, .int .i64 m, .int .i64 a, .int .i64 c] 43) := ⟨_, rfl⟩
  have hB : Below w.heap.size w wa := by rw [hwa]; exact boxed _ _
  have h1 : Has wa w.heap.size #[.int .u8 k, .int .i64 t, .int .i64 m, .int .i64 a, .int .i64 c] 43 := by rw [hwa]; exact Has.new _ _ _ _ rfl
  have HB := hid hB
  have H1 := hid h1
  have HWA := hid (h.below hB)
  have HOK := hid hok
  have HS := hid hS
  have HL := hid hl
  obtain ⟨c0, c1, c2, c3, c4⟩ := five_cells h1
  clear h hl hok hS hB h1
  unfold ptr fv
  rw [hwa] at c0 c1 c2 c3 c4
  go_enter Tryz.func11, Tryz.ntmps11
  by_cases k5 : k = 5
  · have HE := hid (mays_easy (V := V) (n := n) (t := t) (m := m) (a := a) (c := c) (most := most) (.inl k5))
    have q1 : (k == 5) = true := by rw [k5]; rfl
    clear k5
    go_wp2_with fail
    rw [← hwa]
    exact HQ.out _ _ (fun _ => HE.out) HB.out
  by_cases k7 : k = 7
  · have HE := hid (mays_easy (V := V) (n := n) (t := t) (m := m) (a := a) (c := c) (most := most) (.inr k7))
    have q1 : (k == 5) = false := beq_eq_false_iff_ne.2 k5
    have q2 : (k == 7) = true := by rw [k7]; rfl
    clear k5 k7
    go_wp2_with fail
    rw [← hwa]
    exact HQ.out _ _ (fun _ => HE.out) HB.out
  have q1 : (k == 5) = false := beq_eq_false_iff_ne.2 k5
  have q2 : (k == 7) = false := beq_eq_false_iff_ne.2 k7
  clear k5 k7
  have HCP := HWA.out.copy (by rw [HOK.out.len]; omega) (fun x hx => by have := (HOK.out.fit x hx).writes; omega)
  unfold ptr at HCP
  go_wp2_with fail
  rw [← hwa]
  refine HCP.mono ?_
  clear HCP c0 c1 c2 c3 c4
  rintro _ w1 ⟨b2, rfl, l', h2, hsk, hb1⟩
  have HST := h2.strike (N := M) (sameK_all hsk HOK.out.fit) (by omega) k t m a c hk.1 hk.2 hm ha
  have HSK := hid hsk
  have HX1 := hid (H1.out.below hb1 H1.out.lt)
  obtain ⟨c0, c1, c2, c3, c4⟩ := five_cells HX1.out
  unfold ptr fv W.er at HST
  clear hb1 hsk hwa
  go_wp2_with fail
  refine HST.mono ?_
  clear HST c0 c1 c2 c3 c4
  rintro _ w2 ⟨rfl, h3, k3⟩
  have HW2 := hid (HWA.out.below h3.base)
  have HB2 := hid (HB.out.trans (h3.base.mono HB.out.size))
  have hx2 := H1.out.below h3.base H1.out.lt
  have HX2 := hid hx2
  have lq := hx2.lt
  have c1 : w2.cell? ⟨w.heap.size, 1, none⟩ = some (.int .i64 t) := hx2.cell 1
  obtain ⟨O4, hO4⟩ : ∃ O4, O4 = objsW V t := ⟨_, rfl⟩
  obtain ⟨O5, hO5⟩ : ∃ O5, O5 = objsW (strikeW V k t m a c).2 t := ⟨_, rfl⟩
  have HO4 : Hid (∀ W, Below w2.heap.size w2 W → Calls Tryz.prog 32 #[.pointer (some ⟨b, 0, none⟩), .int .i64 t] W fun e w' => ∃ v, e = .returned v ∧ RdO w' v O4 ∧ Below W.heap.size W w') := hid fun W hW => (((HW2.out.below hW).objs (fun x hx => seen_len (HS.out x hx)) t).mono fun e w' ⟨v, e1, e2, e3⟩ => ⟨v, e1, by rw [hO4]; exact RdO.of e2, e3⟩)
  have hS2 : All Sm { V with l := l' } := sameK_all HSK.out HS.out
  have HO5 : Hid (∀ W, Below w2.heap.size w2 W → Calls Tryz.prog 32 #[.pointer (some ⟨b2, 0, none⟩), .int .i64 t] W fun e w' => ∃ v, e = .returned v ∧ RdO w' v O5 ∧ Below W.heap.size W w') := hid fun W hW => (((h3.below hW).objs (fun x hx => seen_len (Sm.all_strike hS2 hm x hx)) t).mono fun e w' ⟨v, e1, e2, e3⟩ => ⟨v, e1, by rw [hO5, ← objs_copy HSK.out]; exact RdO.of e2, e3⟩)
  have HN4 : Hid (O4.length ≤ 1000000) := hid (by rw [hO4]; exact (objs_small HS.out t).1)
  have HN5 : Hid (O5.length ≤ 1000000 ∧ ∀ p ∈ O5, p.2.size ≤ 1000000) := hid (by rw [hO5]; exact objs_small (Sm.all_strike HS.out hm) t)
  have HNF : Hid ((∀ p ∈ newO O4 O5, F.rdOk p.2 = true → p.1 ≠ m0 ∧ p.1 ≠ m1) → ∀ x, 0 ≤ t → V.l[t.toNat]? = some x → ∀ b, Stands (n : Int) (strikeS x.st k m a c).2 b → Stands (n : Int) x.st b) := hid fun hh => forge_no HS.out (by rw [← hO4, ← hO5]; exact hh)
  clear h3 k3 h2 hS2 hO4 hO5 hx2 HSK HX1
  go_wp2_with fail
  refine Tl.wp_mix_lit (by kernel_rfl) 9 [23, 24, 25, 26, 27, 28, 29, 30, 31] 51 rfl (by kernel_rfl) (BelW w2) (myF b b2 w.heap.size t O4 O5) ((Below.refl _ _).drew)
    ⟨fun a' W' hC hF => ?_, fun a' W' hC hF => ?_, fun a' W' hC hF => ?_, fun a' W' hC hF => ?_, fun a' W' hC hF => ?_, fun a' W' hC hF => ?_, fun a' W' hC hF => ?_, fun a' W' hC hF => ?_, fun a' W' hC hF => ?_, trivial⟩ ?_
  · exact Tl.sm_v 23 _ rfl (Tl.wanted_none rfl) hC rfl (rn_move rfl ((hF 0 (by decide +kernel)).2 (by decide)))
  · exact Tl.sm_v 24 _ rfl (Tl.wanted_none rfl) hC rfl (rn_f43_1 rfl ((hF 4 (by decide +kernel)).2 (by decide)))
  · exact Tl.sm_v 25 _ rfl (Tl.wanted_none rfl) hC rfl (rn_load3k rfl ((hF 24 (by decide +kernel)).1 (by decide)) (BelW.cell hC (p := ⟨w.heap.size, 1, none⟩) lq c1))
  · refine Tl.sm_call 32 #[_, _] (Tl.wanted_none rfl) (rn_call2 rfl rfl ((hF 23 (by decide +kernel)).1 (by decide)) ((hF 25 (by decide +kernel)).1 (by decide)) (ens32 _ _)) ((HO4.out W' hC).mono ?_)
    rintro e w'' ⟨v, rfl, hr, hb⟩
    exact ⟨_, rfl, Below.trans hC (hb.mono (Below.size hC)), fun d v _ h => myF_below h hb, fun d hd => by cases hd; exact hr⟩
  · exact Tl.sm_v 27 _ rfl (Tl.wanted_none rfl) hC rfl (rn_move rfl ((hF 7 (by decide +kernel)).2 (by decide)))
  · exact Tl.sm_v 28 _ rfl (Tl.wanted_none rfl) hC rfl (rn_f43_1 rfl ((hF 4 (by decide +kernel)).2 (by decide)))
  · exact Tl.sm_v 29 _ rfl (Tl.wanted_none rfl) hC rfl (rn_load3k rfl ((hF 28 (by decide +kernel)).1 (by decide)) (BelW.cell hC (p := ⟨w.heap.size, 1, none⟩) lq c1))
  · refine Tl.sm_call 32 #[_, _] (Tl.wanted_none rfl) (rn_call2 rfl rfl ((hF 27 (by decide +kernel)).1 (by decide)) ((hF 29 (by decide +kernel)).1 (by decide)) (ens32 _ _)) ((HO5.out W' hC).mono ?_)
    rintro e w'' ⟨v, rfl, hr, hb⟩
    exact ⟨_, rfl, Below.trans hC (hb.mono (Below.size hC)), fun d v _ h => myF_below h hb, fun d hd => by cases hd; exact hr⟩
  · have f26 : RdO W' (a'.eval (.tmp 26)) O4 := (hF 26 (by decide +kernel)).1 (by decide)
    have f30 : RdO W' (a'.eval (.tmp 30)) O5 := (hF 30 (by decide +kernel)).1 (by decide)
    refine Tl.sm_call 31 #[_, _] (Tl.wanted_none rfl) (rn_call2 rfl rfl rfl rfl (ens31 _ _)) ((forged12_any f26 f30 HN4.out HN5.out.1 HN5.out.2).mono ?_)
    rintro e w'' ⟨f, rfl, hf, hb⟩
    exact ⟨_, rfl, Below.trans hC (hb.mono (Below.size hC)), fun d v _ h => myF_below h hb, fun d hd => by cases hd; exact ⟨f, rfl, hf⟩⟩
  intro v w3 hw3 hv
  obtain ⟨f, v31, hf⟩ := (show ∃ f, v 31 = .bool f ∧ (f = false → ∀ p ∈ newO O4 O5, F.rdOk p.2 = true → p.1 ≠ m0 ∧ p.1 ≠ m1) from hv 31 (by decide))
  have hB3 : Below w2.heap.size w2 w3 := hw3
  clear hv hw3 c1
  simp only [Tl.fill, List.drop_succ_cons, List.drop_zero, wpList]
  simp only [Act.put, List.setIfInBounds_toArray, List.set_cons_succ, List.set_cons_zero, v31]
  clear v31
  have HW3 := hid (HW2.out.below hB3)
  have HB3 := hid (HB2.out.trans (hB3.mono HB2.out.size))
  have HX3 := hid (HX2.out.below hB3 HX2.out.lt)
  clear hB3 HW2 HB2 HX2 HWA lq
  cases f with
  | true =>
    clear hf
    go_wp2_with fail
    exact HQ.out _ _ (fun h => Bool.noConfusion h) HB3.out
  | false =>
    have HNO := hid (HNF.out (hf rfl))
    clear hf HNF
    have HSU := HW3.out.sus (by rw [HOK.out.len]; omega)
    unfold ptr at HSU
    go_wp2_with fail
    refine HSU.mono ?_
    clear HSU
    rintro _ w4 ⟨v, rfl, hr, hb4⟩
    have HB4 := hid (HB3.out.trans (hb4.mono HB3.out.size))
    have HX4 := hid (HX3.out.below hb4 HX3.out.lt)
    obtain ⟨L, hL⟩ : ∃ L, L = susL V.l V.l.length := ⟨_, rfl⟩
    rw [← hL] at hr
    obtain ⟨A, cc, rfl⟩ := row_slice hr
    have HRW : Hid (∀ (j : Nat) (z : Nat), L[j]? = some z → ∃ g, A = some ⟨g, 0, none⟩ ∧ w4.cell? ⟨g, j, none⟩ = some (.int .i64 (z : Int))) := hid fun j z hj => by
      rcases row_form hr with ⟨_, h0, _⟩ | ⟨g, cap, e, _, _, _, _, h5⟩
      · have := (List.getElem?_eq_some_iff.1 hj).1; omega
      · cases e
        refine ⟨g, rfl, ?_⟩
        have := h5 j (.int .i64 (z : Int)) (by unfold intCells; rw [List.getElem?_map, hj]; rfl)
        exact this
    have HCT : Hid (L.length = V.l.countP fun x => x.sus) := hid (by rw [hL, sus_count V.l V.l.length (Nat.le_refl _), List.take_length])
    have HME : Hid (∀ z ∈ L, ∃ x, V.l[z]? = some x ∧ x.sus = true) := hid (by rw [hL]; exact sus_mem V.l V.l.length)
    have hLl : L.length ≤ 12 := by
      have := susL_len V.l V.l.length
      rw [← hL, HOK.out.len] at this
      omega
    clear hr hb4 hL HB3 HX3 HW3
    obtain ⟨N, hN⟩ : ∃ N, N = L.length := ⟨_, rfl⟩
    have HN := hid hN
    rw [← hN] at hLl HCT ⊢
    clear hN
    go_wp2_with fail
    go_loopg [9] N (fun gk s9 wx => ∃ j : Nat, j + gk = N ∧ s9 = .int .i64 (j : Int) ∧ Hid (Below w4.heap.size w4 wx))
    case atStart => exact ⟨0, by omega, rfl, hid (Below.refl _ _)⟩
    case round =>
      obtain ⟨j, hj, rfl, HBJ⟩ := hrel
      have HBF := hid (HB4.out.trans (HBJ.out.mono HB4.out.size))
      cases gk with
      | succ g1 =>
        have r1 : (j : Int) < (N : Int) := by omega
        have wj : IntKind.i64.wrap ((j : Int) + 1) = ((j + 1 : Nat) : Int) := wrapN (b := 1) (by omega)
        obtain ⟨z, hz⟩ : ∃ z, L[j]? = some z := ⟨_, List.getElem?_eq_getElem (by have := HN.out; omega)⟩
        obtain ⟨g, rfl, hcz⟩ := HRW.out j z hz
        have hcz := (show wr.cell? ⟨g, j, none⟩ = some (.int .i64 (z : Int)) by rw [HBJ.out.cell (p := ⟨g, j, none⟩) (World.block_lt_of_cell? (h := hcz))]; exact hcz)
        have c1 : wr.cell? ⟨w.heap.size, 1, none⟩ = some (.int .i64 t) := (HX4.out.below HBJ.out HX4.out.lt).cell 1
        by_cases hzt : (z : Int) = t
        · have q5 : ((z : Int) == t) = true := by rw [hzt]; simp
          have HE : Hid (Mays V n k t m a c most) := hid ⟨HNO.out, .inr (.inr (.inr (by rw [← hzt]; exact HME.out z (List.mem_of_getElem? hz))))⟩
          clear hz hzt
          go_wp2_with fail
          go_quiet (fail)
          go_wp2_with fail
          exact HQ.out _ _ (fun _ => HE.out) (below_drewN HBF.out _)
        · have q5 : ((z : Int) == t) = false := beq_eq_false_iff_ne.2 hzt
          clear hz hzt
          go_wp2_with fail
          go_quiet (fail)
          go_wp2_with fail
          go_roundg g1
          case measure => omega
          case rel => exact ⟨j + 1, by omega, by first | rfl | simp, hid (below_drewN HBJ.out _)⟩
      | zero =>
        have r1 : ¬ (j : Int) < (N : Int) := by omega
        have HE : Hid ((N : Int) < most → Mays V n k t m a c most) := hid fun hlt => ⟨HNO.out, .inr (.inr (.inl (by rw [← HCT.out]; exact hlt)))⟩
        by_cases hlt : (N : Int) < most
        · have HF := hid (HE.out hlt)
          go_wp2_with fail
          exact HQ.out _ _ (fun _ => HF.out) HBF.out
        · go_wp2_with fail
          exact HQ.out _ _ (fun h => Bool.noConfusion h) HBF.out
end Go.Proofs.YtmpgfpmkmgebdaaGreatDoor
/- Quorum: Mend, Bad. -/
namespace Go.Proofs.YtmpgfpmkmgebdaaGreatDoor
open Go.RowKit Go.Maps
open W
set_option linter.unusedVariables false
set_option maxHeartbeats 16000000 in
set_option maxRecDepth 20000 in
theorem mend_any {w0 w : World} {b : Nat} {V : Wd} {T : Nat → Prop} (h : WT w0 w b V T) (hl : F.Lay w0) {M n : Nat} (hok : Ok M n V) (hn : n ≤ 12) (hM : M ≤ 700000) (bb : Bst) (hmay : mayP V bb = 0) : Calls Tryz.prog 13 #[ptr b, .agg (bV bb).toArray] w fun e w' => e = .returned (er (mendW V bb).1) ∧ WT w0 w' b (mendW V bb).2 T ∧ Kpt T w w' ∧ Ok (M + 6 * n) n (mendW V bb).2 := by
  obtain ⟨wa, hwa⟩ : ∃ wa, wa = w.alloc (.cells (bV bb).toArray 34) := ⟨_, rfl⟩
  have hB : Below w.heap.size w wa := by rw [hwa]; exact boxed _ _
  have h1 : Has wa w.heap.size (bV bb).toArray 34 := by rw [hwa]; exact Has.new _ _ _ _ rfl
  have HWA := hid (h.plus hB (q := w.heap.size) ⟨Nat.le_refl _, h1.lt⟩)
  have HKA := hid (Kpt.below h hB)
  have HTL : Hid (∀ j, T j → j < w.heap.size) := hid h.lt
  have HW0 : Hid (w0.heap.size ≤ w.heap.size) := hid h.base.size
  have H1 := hid h1
  have HL := hid hl
  have HOK := hid hok
  have hmm : mErr bb = 0 ∧ bb.n = (n : Int) := by
    unfold mayP at hmay
    by_cases hbn : bb.n = (V.l.length : Int)
    · rw [if_pos hbn] at hmay
      exact ⟨hmay, by rw [hbn, hok.len]⟩
    · rw [if_neg hbn] at hmay
      cases hmay
  have HBB := hid hmm.1
  have HBN := hid hmm.2
  have HMW : Hid (mendW V bb = if (gathW V).1 ≠ 0 then ((gathW V).1, (gathW V).2.1) else (enoE (eachE (mndD bb) (gathW V).2.2 (gathW V).2.1) (gathW V).2.2.length, (eachE (mndD bb) (gathW V).2.2 (gathW V).2.1).V)) := hid (by
    unfold mendW
    simp only
    rw [if_neg (by rw [hmay]; decide)])
  clear h hl hok hB h1 hmay hmm
  unfold bV ptr at *
  go_enter Tryz.func13, Tryz.ntmps13
  go_wp2_with fail
  rw [← hwa]
  clear hwa
  refine gather_any HWA.out HL.out HOK.out hn (by omega) _ ?cut ?okk
  case cut =>
    intro hg1 w1 a1 a2
    have HO : Hid (mendW V bb = (56, (gathW V).2.1)) := hid (by rw [HMW.out, if_pos (by rw [hg1]; decide), hg1])
    have HG := hid (And.intro (a1.sub (T' := T) fun j hj => .inl hj) (And.intro (HKA.out.trans (a2.sub (T' := T) fun j hj => .inl hj)) ((gathW_ok HOK.out).1.more (M' := M + 6 * n) (by omega))))
    clear a1 a2 hg1 HMW
    go_wp2_with fail
    go_ret
    rw [HO.out]
    exact ⟨rfl, HG.out⟩
  case okk =>
    intro hg1 hgl w1 g a1 a2 a3 a4
    have hok1 := (gathW_ok HOK.out).1
    rw [if_neg (by rw [hg1]; decide)] at HMW
    rw [hgl] at HMW
    obtain ⟨l, hl⟩ : ∃ l, l = (gathW V).2.2 := ⟨_, rfl⟩
    obtain ⟨V1, hV1⟩ : ∃ V1, V1 = (gathW V).2.1 := ⟨_, rfl⟩
    rw [← hl] at a3 hgl HMW
    rw [← hV1] at a1 hok1 HMW
    have HW1 := hid a1
    have HK1 := hid (HKA.out.trans (a2.sub (T' := T) fun j hj => .inl hj))
    have HA1 := hid a3
    have HN1 := hid (a2.has (.inr rfl) H1.out)
    have HGL := hid hgl
    have HOK1 := hid hok1
    have HG1 : Hid (w.heap.size < g) := hid (by have := H1.out.lt; omega)
    have HPG : Hid (¬ (T g ∨ g = w.heap.size)) := hid fun hj => by
      have := HG1.out
      rcases hj with hj | hj
      · have := HTL.out g hj; omega
      · omega
    have hqn := HN1.out
    have x0 : w1.cell? ⟨w.heap.size, 0, none⟩ = some (.int .i64 bb.e) := hqn.cell 0
    have x1 : w1.cell? ⟨w.heap.size, 1, none⟩ = some (.int .i64 bb.g) := hqn.cell 1
    have x2 : w1.cell? ⟨w.heap.size, 2, none⟩ = some (.int .i64 bb.k) := hqn.cell 2
    have x3 : w1.cell? ⟨w.heap.size, 3, none⟩ = some (.int .i64 bb.n) := hqn.cell 3
    have x4 : w1.cell? ⟨w.heap.size, 4, none⟩ = some (.string bb.p) := hqn.cell 4
    have HMK := make_is bb w1 ((HW1.out).lay HL.out).ht
    rw [HBB.out] at HMK
    obtain ⟨md, hmd⟩ : ∃ md, md = mdat bb := ⟨_, rfl⟩
    rw [← hmd] at HMK
    clear a1 a2 a3 a4 hl hV1 hgl hok1 hg1 HWA HKA H1 hqn hmd
    obtain ⟨be, bg, bk, bn, bp⟩ := bb
    unfold bV at HMK
    simp only at HMK x0 x1 x2 x3 x4
    go_wp2_with fail
    refine HMK.mono ?_
    rintro e w2 ⟨rfl, hb2⟩
    clear HMK x0 x1 x2 x3 x4
    have HW2 := hid (HW1.out.below hb2)
    have HK2 := hid (HK1.out.trans ((Kpt.below HW1.out hb2).sub (T' := T) fun j hj => .inl (.inl hj)))
    have HA2 := hid (HA1.out.below hb2)
    have HN2 := hid (HN1.out.below hb2 HN1.out.lt)
    clear hb2 HW1 HK1 HA1 HN1
    have hqn := HN2.out
    have x0 : w2.cell? ⟨w.heap.size, 0, none⟩ = some (.int .i64 be) := hqn.cell 0
    have x1 : w2.cell? ⟨w.heap.size, 1, none⟩ = some (.int .i64 bg) := hqn.cell 1
    have x2 : w2.cell? ⟨w.heap.size, 2, none⟩ = some (.int .i64 bk) := hqn.cell 2
    have x3 : w2.cell? ⟨w.heap.size, 3, none⟩ = some (.int .i64 bn) := hqn.cell 3
    have x4 : w2.cell? ⟨w.heap.size, 4, none⟩ = some (.string bp) := hqn.cell 4
    have HPT := putter_any HW2.out HL.out ⟨be, bg, bk, bn, bp⟩ be bg HBB.out (by rw [HOK1.out.len]; exact HBN.out)
    unfold bV ptr at HPT
    simp only at HPT
    clear hqn
    go_wp2_with fail
    refine HPT.mono ?_
    rintro e w3 ⟨qs, qw, qd, qb, rfl, p1, p2, p3, p4, p5, p6, p7, p8, hB3⟩
    clear HPT x0 x1 x2 x3 x4
    obtain ⟨w4, hw4⟩ : ∃ w4, w4 = w3.alloc (.cells #[.func (.func 68) #[] #[.pointer (some ⟨qs, 0, none⟩), .pointer (some ⟨qw, 0, none⟩), .pointer (some ⟨qd, 0, none⟩), .pointer (some ⟨qb, 0, none⟩)]] 86) := ⟨_, rfl⟩
    have hb4 : Below w3.heap.size w3 w4 := by rw [hw4]; exact boxed _ _
    have hB4 : Below w2.heap.size w2 w4 := hB3.trans (hb4.mono hB3.size)
    have hp4 : Has w4 w3.heap.size #[.func (.func 68) #[] #[.pointer (some ⟨qs, 0, none⟩), .pointer (some ⟨qw, 0, none⟩), .pointer (some ⟨qd, 0, none⟩), .pointer (some ⟨qb, 0, none⟩)]] 86 := by rw [hw4]; exact Has.new _ _ _ _ rfl
    have hgw : g < w2.heap.size := HA2.out.lt
    have hwt1 : WT w0 w4 b V1 (fun j => ((T j ∨ j = w.heap.size) ∨ (w2.heap.size ≤ j ∧ j < w4.heap.size)) ∨ j = g) := (HW2.out.new hB4).sub fun j hj => by
      rcases hj with (hj | hj) | hj
      · exact .inl (.inl hj)
      · exact .inr hj
      · exact .inl (.inr hj)
    have hPg1 : ¬ ((T g ∨ g = w.heap.size) ∨ (w2.heap.size ≤ g ∧ g < w4.heap.size)) := fun hj => by
      rcases hj with hj | hj
      · exact HPG.out hj
      · omega
    have hz3 := hB3.size
    have hz4 := hb4.size
    have hqf : Has w4 w.heap.size (bV ⟨be, bg, bk, bn, bp⟩).toArray 34 := HN2.out.below hB4 HN2.out.lt
    have hg0 : w0.heap.size ≤ g := by have := HW0.out; have := HG1.out; omega
    have hput := putter_do (w := w4) (g := g) (N := n) (P := fun j => (T j ∨ j = w.heap.size) ∨ (w2.heap.size ≤ j ∧ j < w4.heap.size)) (bb := ⟨be, bg, bk, bn, bp⟩) (oe := be) (og := bg) HL.out (p1.below hb4 p1.lt) (p2.below hb4 p2.lt) (p3.below hb4 p3.lt) (p4.below hb4 p4.lt) (.inr ⟨by omega, by have := p1.lt; omega⟩) (.inr ⟨by omega, by have := p2.lt; omega⟩) (.inr ⟨by omega, by have := p3.lt; omega⟩) (.inr ⟨by omega, by have := p4.lt; omega⟩) HBB.out hg0
    have HEN := enough_any (w := w4) (P := fun j => (T j ∨ j = w.heap.size) ∨ (w2.heap.size ≤ j ∧ j < w4.heap.size)) (n : Int) hwt1 hPg1 (HA2.out.below hB4) HGL.out hn HOK1.out (by omega) hg0 (mend_do hqf hp4 (.inl (.inr rfl)) (.inr ⟨by omega, by have := hp4.lt; omega⟩) hput) ens39
    have HK4 := hid (HK2.out.trans ((Kpt.below HW2.out hB4).sub (T' := T) fun j hj => .inl (.inl hj)))
    clear hwt1 hPg1 p1 p2 p3 p4 p5 p6 p7 p8 hB3 hB4 hb4 hp4 hqf hput HW2 HA2 HK2 HN2 hz3 hz4 hgw hg0
    go_wp2_with fail
    rw [← hw4]
    refine HEN.mono ?_
    rintro e w5 ⟨rfl, a1, a2, a3, a4⟩
    have HG := hid (And.intro (a1.sub (T' := T) fun j hj => .inl (.inl (.inl hj))) (And.intro (HK4.out.trans (a2.sub (T' := T) fun j hj => .inl (.inl hj))) (a4.more (M' := M + 6 * n) (by omega))))
    clear a1 a2 a3 a4 HEN hw4
    unfold er
    go_wp2_with fail
    go_ret
    rw [HMW.out]
    exact ⟨rfl, HG.out⟩
set_option maxHeartbeats 4000000 in
set_option maxRecDepth 20000 in
theorem bad_do {w0 w : World} {b g N qf : Nat} {P : Nat → Prop} {bb : Bst} (hf : Has w qf (bV bb).toArray 34) (h1 : P qf) :
    DoIs w0 w b g N P 47 #[.pointer (some ⟨qf, 0, none⟩)] (badD bb) := by
  intro T W V l i h m hPT hTg hwt hkp hA hok hm hh hi
  have HHS := has_any g (i * 13) h bb W (hA.hd hh) hA.lt
  have hqf := hkp.has h1 hf
  have c0 := hqf.cell 0
  have c1 := hqf.cell 1
  have c2 := hqf.cell 2
  have c3 := hqf.cell 3
  have c4 := hqf.cell 4
  have HSD : Hid (badD bb i h V = if hasB h bb then (0, h, V) else (5, h, V)) := hid rfl
  have HWT := hid hwt
  have HA := hid hA
  have HOK := hid hok
  have HH := hid hh
  clear hwt hkp hA hok hh hPT hTg hqf hf
  simp only [List.append_toArray, List.cons_append, List.nil_append]
  obtain ⟨e0, g0, k0, n0, p0⟩ := bb
  unfold bV at HHS c0 c1 c2 c3 c4
  simp only [List.getElem?_toArray, List.getElem?_cons_zero, List.getElem?_cons_succ] at HHS c0 c1 c2 c3 c4
  go_enter Tryz.func47, Tryz.ntmps47
  go_wp2_with fail
  refine HHS.mono ?_
  rintro e w1 ⟨rfl, hb1⟩
  clear HHS c0 c1 c2 c3 c4
  have HW1 := hid (HWT.out.below hb1)
  have HA1 := hid (HA.out.below hb1)
  have HKT1 := hid ((Kpt.below HWT.out hb1).sub (T' := T) fun j hj => .inl hj)
  clear hb1
  cases hhb : hasB h ⟨e0, g0, k0, n0, p0⟩ with
  | true =>
    rw [hhb, if_pos rfl] at HSD
    go_wp2_with fail
    go_ret
    rw [HSD.out]
    exact ⟨rfl, HW1.out, HKT1.out, by rw [set_self HH.out]; exact HA1.out, HOK.out.more (by omega), rfl⟩
  | false =>
    rw [hhb, if_neg (by decide)] at HSD
    go_wp2_with fail
    go_ret
    rw [HSD.out]
    exact ⟨rfl, HW1.out, HKT1.out, by rw [set_self HH.out]; exact HA1.out, HOK.out.more (by omega), rfl⟩
theorem ens47 (args : Array Value) (w : World) : (callFunc 47 args).run Tryz.prog w = .ok (.enter 47 args) w := by kernel_rfl
theorem bad_keeps (bb : Bst) (l : List Hd) (V : Wd) : (eachE (badD bb) l V).V = V ∧ (eachE (badD bb) l V).cut = false ∧ (eachE (badD bb) l V).dn ≤ l.length := by
  have hone : ∀ (s : ES) (i : Nat), s.cut = false → (oneE (badD bb) s i).V = s.V ∧ (oneE (badD bb) s i).cut = false ∧ (oneE (badD bb) s i).dn ≤ s.dn + 1 := fun s i hc => by
    unfold oneE
    rw [if_neg (by rw [hc]; decide)]
    cases hx : s.l[i]? with
    | none => exact ⟨rfl, hc, by simp⟩
    | some h =>
      simp only
      unfold badD
      split
      · exact ⟨rfl, rfl, by simp⟩
      · exact ⟨rfl, rfl, by simp⟩
  have hall : ∀ (ids : List Nat) (s : ES), s.cut = false → (ids.foldl (oneE (badD bb)) s).V = s.V ∧ (ids.foldl (oneE (badD bb)) s).cut = false ∧ (ids.foldl (oneE (badD bb)) s).dn ≤ s.dn + ids.length := fun ids => by
    induction ids with
    | nil => intro s hc; exact ⟨rfl, hc, Nat.le_refl _⟩
    | cons i t ih =>
      intro s hc
      rw [List.foldl_cons]
      obtain ⟨a1, a2, a3⟩ := hone s i hc
      obtain ⟨b1, b2, b3⟩ := ih _ a2
      exact ⟨b1.trans a1, b2, by rw [List.length_cons]; omega⟩
  have hix : ∀ (l : List Hd) (i : Nat), (idx i l).length ≤ l.length := fun l => by
    induction l with
    | nil => intro i; exact Nat.le_refl _
    | cons h t ih =>
      intro i
      unfold idx
      have := ih (i + 1)
      split
      · rw [List.length_cons, List.length_cons]; omega
      · rw [List.length_cons]; omega
  obtain ⟨a1, a2, a3⟩ := hall (idx 0 l) ⟨l, 0, V, false⟩ rfl
  have := hix l 0
  exact ⟨a1, a2, by show (eachE (badD bb) l V).dn ≤ _; unfold eachE; have a3' : ((idx 0 l).foldl (oneE (badD bb)) ⟨l, 0, V, false⟩).dn ≤ 0 + (idx 0 l).length := a3; omega⟩
set_option maxHeartbeats 16000000 in
set_option maxRecDepth 20000 in
theorem bad_any {w0 w : World} {b : Nat} {V : Wd} {T : Nat → Prop} (h : WT w0 w b V T) (hl : F.Lay w0) {M n : Nat} (hok : Ok M n V) (hn : n ≤ 12) (hM : M ≤ 700000) (bb : Bst) : Calls Tryz.prog 21 #[ptr b, .agg (bV bb).toArray] w fun e w' => e = .returned (.tuple #[.int .i64 (badW V bb).1, er (badW V bb).2.1]) ∧ WT w0 w' b (badW V bb).2.2 T ∧ Kpt T w w' ∧ Ok (M + 6 * n) n (badW V bb).2.2 := by
  obtain ⟨wa, hwa⟩ : ∃ wa, wa = w.alloc (.cells (bV bb).toArray 34) := ⟨_, rfl⟩
  have hB : Below w.heap.size w wa := by rw [hwa]; exact boxed _ _
  have h1 : Has wa w.heap.size (bV bb).toArray 34 := by rw [hwa]; exact Has.new _ _ _ _ rfl
  have HWA := hid (h.plus hB (q := w.heap.size) ⟨Nat.le_refl _, h1.lt⟩)
  have HKA := hid (Kpt.below h hB)
  have HTL : Hid (∀ j, T j → j < w.heap.size) := hid h.lt
  have HW0 : Hid (w0.heap.size ≤ w.heap.size) := hid h.base.size
  have H1 := hid h1
  have HL := hid hl
  have HOK := hid hok
  have HMW : Hid (badW V bb = if (gathW V).1 ≠ 0 then (0, (gathW V).1, (gathW V).2.1) else (((gathW V).2.2.length : Int) - (eachE (badD bb) (gathW V).2.2 (gathW V).2.1).dn, 0, (gathW V).2.1)) := hid rfl
  clear h hl hok hB h1
  unfold bV ptr at *
  go_enter Tryz.func21, Tryz.ntmps21
  go_wp2_with fail
  rw [← hwa]
  clear hwa
  refine gather_any HWA.out HL.out HOK.out hn (by omega) _ ?cut ?okk
  case cut =>
    intro hg1 w1 a1 a2
    have HO : Hid (badW V bb = (0, 56, (gathW V).2.1)) := hid (by rw [HMW.out, if_pos (by rw [hg1]; decide), hg1])
    have HG := hid (And.intro (a1.sub (T' := T) fun j hj => .inl hj) (And.intro (HKA.out.trans (a2.sub (T' := T) fun j hj => .inl hj)) ((gathW_ok HOK.out).1.more (M' := M + 6 * n) (by omega))))
    clear a1 a2 hg1 HMW
    go_wp2_with fail
    go_ret2
    rw [HO.out]
    exact ⟨rfl, HG.out⟩
  case okk =>
    intro hg1 hgl w1 g a1 a2 a3 a4
    have hok1 := (gathW_ok HOK.out).1
    rw [if_neg (by rw [hg1]; decide)] at HMW
    rw [hgl] at HMW
    obtain ⟨l, hl⟩ : ∃ l, l = (gathW V).2.2 := ⟨_, rfl⟩
    obtain ⟨V1, hV1⟩ : ∃ V1, V1 = (gathW V).2.1 := ⟨_, rfl⟩
    rw [← hl] at a3 hgl HMW
    rw [← hV1] at a1 hok1 HMW
    have HK1 := hid (HKA.out.trans (a2.sub (T' := T) fun j hj => .inl hj))
    have hg0 : w0.heap.size ≤ g := by have := HW0.out; have := H1.out.lt; omega
    have hPG : ¬ (T g ∨ g = w.heap.size) := fun hj => by
      have := H1.out.lt
      rcases hj with hj | hj
      · have := HTL.out g hj; omega
      · omega
    have HEA := each_any (w := w1) (P := fun j => T j ∨ j = w.heap.size) a1 hPG a3 hgl hn hok1 (by omega) hg0 (bad_do (a2.has (.inr rfl) H1.out) (.inr rfl)) ens47
    obtain ⟨e1, e2, e3⟩ := bad_keeps bb l V1
    obtain ⟨s, hs⟩ : ∃ s, s = eachE (badD bb) l V1 := ⟨_, rfl⟩
    rw [← hs] at HEA e1 e2 e3 HMW
    rw [e2, e1] at HEA
    simp only [Bool.false_eq_true, if_false] at HEA
    rw [hgl] at e3
    have wr1 : IntKind.i64.wrap ((n : Int) - (s.dn : Int)) = (n : Int) - (s.dn : Int) := wrap_i64_of (by omega) (by omega)
    clear a1 a2 a3 a4 hl hV1 hgl hok1 hg1 HWA HKA H1 hPG hg0 hs e1 e2
    go_wp2_with fail
    refine HEA.mono ?_
    rintro e w2 ⟨rfl, a1, a2, a3, a4⟩
    have HG := hid (And.intro (a1.sub (T' := T) fun j hj => .inl (.inl hj)) (And.intro (HK1.out.trans (a2.sub (T' := T) fun j hj => .inl hj)) (a4.more (M' := M + 6 * n) (by omega))))
    clear a1 a2 a3 a4 HEA
    go_wp2_with fail
    go_ret2
    rw [HMW.out]
    exact ⟨rfl, HG.out⟩
end Go.Proofs.YtmpgfpmkmgebdaaGreatDoor
