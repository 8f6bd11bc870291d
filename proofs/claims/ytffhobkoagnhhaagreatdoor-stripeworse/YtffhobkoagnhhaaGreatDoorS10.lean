/- Stripe: written's closure; each. Printed by gen_s10.py. -/
import Derived.Test.YtffhobkoagnhhaaGreatDoorS8
import Derived.Test.YtffhobkoagnhhaaGreatDoorWMore
namespace Go.Proofs.YtffhobkoagnhhaaGreatDoor
open Go.RowKit Go.Maps
open W
set_option linter.unusedVariables false
section
variable {ev : Operand → Value} {o : Oper} {w : World} {x y : Operand}
theorem rn_load23p {g k : Nat} {v : Value} (ho : o.op = .load 23 x) (hx : ev x = .pointer (some ⟨g, k, none⟩)) (hc : w.cell? ⟨g, k, none⟩ = some v) : (execOp ev o).run Tryz.prog w = .ok (.value v) w := by
  simp [execOp, ho, hx, go_sem, hc]
end
variable {w0 w w' : World} {b : Nat} {V V' : Wd} {T T0 : Nat → Prop}
/-- a world of n stores, none of which is too great -/
structure Ok (M n : Nat) (V : Wd) : Prop where
  len : V.l.length = n
  fit : ∀ x ∈ V.l, Fit M x.st
  calls : V.calls ≤ M
  left : V.left < 9223372036854775808
theorem Fit.up {M M' : Nat} {s : St} (h : Fit M s) (hM : M ≤ M') : Fit M' s := { h with seen := Nat.le_trans h.seen hM, writes := Nat.le_trans h.writes hM }
theorem Ok.more {M M' n : Nat} (h : Ok M n V) (hM : M ≤ M') : Ok M' n V := ⟨h.len, fun x hx => Fit.up (h.fit x hx) hM, Nat.le_trans h.calls hM, h.left⟩
theorem Ok.count {M n : Nat} (h : Ok M n V) : Ok (M + 1) n (countW V) := by
  have hs := countW_small V
  have hl := h.left
  have hc := h.calls
  exact ⟨by rw [hs.2.2]; exact h.len, fun x hx => Fit.up (h.fit x (by rw [hs.2.2] at hx; exact hx)) (Nat.le_succ _), by omega, by omega⟩
theorem Ok.get {M n : Nat} (h : Ok M n V) (i : Int) : Ok (M + 1) n (askW V i) := by
  unfold askW
  split
  · exact h.count
  · exact h.more (Nat.le_succ _)
theorem Ok.ask {M n : Nat} (h : Ok M n V) (i : Int) {f : St → Int × St} (hf : ∀ s, Fit M s → Fit (M + 1) (f s).2) : Ok (M + 1) n (askS V i f).2 := by
  unfold askS
  split
  · split
    · exact h.count
    · split
      · rename_i x hx
        have hc := h.count
        refine ⟨by show ((countW V).l.set i.toNat _).length = n; rw [List.length_set]; exact hc.len, fun y hy => ?_, hc.calls, hc.left⟩
        rcases List.mem_or_eq_of_mem_set hy with hy | hy
        · exact hc.fit y hy
        · rw [hy]
          have hm : x ∈ V.l := by rw [(countW_small V).2.2] at hx; exact List.mem_of_getElem? hx
          exact hf x.st (h.fit x hm)
      · exact h.count
  · exact h.more (Nat.le_succ _)
theorem Ok.put {M n : Nat} (h : Ok M n V) (i : Int) (a d : ByteArray) : Ok (M + 1) n (askS V i fun s => putS s a d).2 := h.ask i fun s hs => put_fit hs a d
theorem Ok.sync {M n : Nat} (h : Ok M n V) (i : Int) : Ok (M + 1) n (askS V i W.sync).2 := h.ask i fun s hs => by
  unfold W.sync
  split
  · exact Fit.up hs (Nat.le_succ _)
  · exact { hs with seen := Nat.le_succ_of_le hs.seen, writes := Nat.zero_le _, wnames := fun q hq => (by cases hq), was := fun q hq => (by cases hq), now := fun q hq => (by cases hq) }
/-- the memory of written's closure -/
structure WX (c1 c2 c3 b : Nat) (os : List Ob) (gs sn sc B : Nat) (w : World) (T : Nat → Prop) (st : List Nat) : Prop where
  t1 : T c1
  h1 : Has w c1 #[ptr b] 23
  ax : AX c2 c3 os B w T st
  s1 : Has w c3 #[.slice (some ⟨gs, 0, none⟩) sn sc] 140
  s2 : w.ownsRow B 144 1 (.slice (some ⟨gs, 0, none⟩) sn sc) st.length (stCells st)
  s3 : T gs
  sl : st.length = sn
variable {c1 c2 c3 gs sn sc B : Nat} {os : List Ob}
theorem WX.kept (w w' : World) (T : Nat → Prop) (st : List Nat) (h : WX c1 c2 c3 b os gs sn sc B w T st) (hk : Kpt T w w') : WX c1 c2 c3 b os gs sn sc B w' T st :=
  ⟨h.t1, hk.has h.t1 h.h1, AX.kept _ _ _ _ h.ax hk, hk.has h.ax.t2 h.s1, hk.row h.s2 (fun q hq => by cases hq; exact h.s3), h.s3, h.sl⟩
theorem WX.put {i v : Nat} {w : World} {T : Nat → Prop} {st : List Nat} (h : WX c1 c2 c3 b os gs sn sc B w T st) : WX c1 c2 c3 b os gs sn sc B (w.setCell ⟨gs, i, none⟩ (.int .i64 (v : Int))) T (st.set i v) := by
  obtain ⟨_, cur, hh⟩ := row_has h.s2 (q := gs) rfl
  have ho := (Only.refl (fun q => q = gs) w).set (p := ⟨gs, i, none⟩) (.inl rfl) (.int .i64 (v : Int))
  have hs2 := h.s2
  have hsl := h.sl
  have hr : (w.setCell ⟨gs, i, none⟩ (.int .i64 (v : Int))).ownsRow B 144 1 (.slice (some ⟨gs, 0, none⟩) sn sc) sn ((stCells st).set i (.int .i64 (v : Int))) := row_put (i := i) (by rw [← hsl]; rw [← hsl] at hs2; exact hs2) _
  rw [stCells_set] at hr
  refine ⟨h.t1, ho.has h.h1 (fun e => Has.ne h.h1 hh (by decide) e), h.ax.put h.s1 h.s2 h.s3, ho.has h.s1 (fun e => Has.ne h.s1 hh (by decide) e), ?_, h.s3, by rw [List.length_set]; exact h.sl⟩
  rw [List.length_set, h.sl]
  exact hr
def dPut (os : List Ob) (V : Wd) (st : List Nat) (i : Nat) : Int × Wd × List Nat := ((askS V (i : Int) fun s => putS s (os.getD i (⟨#[]⟩, ⟨#[]⟩)).1 (os.getD i (⟨#[]⟩, ⟨#[]⟩)).2).1, (askS V (i : Int) fun s => putS s (os.getD i (⟨#[]⟩, ⟨#[]⟩)).1 (os.getD i (⟨#[]⟩, ⟨#[]⟩)).2).2, if (askS V (i : Int) fun s => putS s (os.getD i (⟨#[]⟩, ⟨#[]⟩)).1 (os.getD i (⟨#[]⟩, ⟨#[]⟩)).2).1 = 0 then st.set i 2 else st)
def wtF (b g i : Nat) (n1 d1 : ByteArray) (vo : Value) (j : Nat) (v : Value) (_ : World) : Prop := match j with
  | 7 => v = .pointer (some ⟨b, 0, none⟩) | 8 => v = .int .i64 (i : Int) | 9 => v = vo | 10 => v = .int .i64 (i : Int)
  | 11 => v = .pointer (some ⟨g, i * 2, none⟩) | 12 => v = .agg #[.string n1, .string d1]
  | _ => True
set_option maxHeartbeats 4000000 in
set_option maxRecDepth 20000 in
theorem written1_any (hT0 : ∀ i, T0 i → i < w.heap.size) (hw : w0.heap.size ≤ w.heap.size) (w1 : World) (V1 : Wd) (T1 : Nat → Prop) (s1 : List Nat) (i M n : Nat) (Q : Ending → World → Prop) (hi : i < os.length) (hok : Ok M n V1) (hM : M ≤ 900000) (h : Bes w0 w w1 b V1 T0 T1 (WX c1 c2 c3 b os gs sn sc w.heap.size) s1)
    (hq : ∀ w2 T2, Bes w0 w w2 b (dPut os V1 s1 i).2.1 T0 T2 (WX c1 c2 c3 b os gs sn sc w.heap.size) (dPut os V1 s1 i).2.2 → Q (.returned (.int .i64 (dPut os V1 s1 i).1)) w2) : Calls Tryz.prog 84 #[.int .i64 (i : Int), ptr c1, ptr c2, ptr c3] w1 Q := by
  have HQ := hid hq
  have HBE := hid (h.below (wy := w1.drew) WX.kept (Below.refl _ _).drew)
  have HDP : Hid (dPut os V1 s1 i = ((askS V1 (i : Int) fun s => putS s (os.getD i (⟨#[]⟩, ⟨#[]⟩)).1 (os.getD i (⟨#[]⟩, ⟨#[]⟩)).2).1, (askS V1 (i : Int) fun s => putS s (os.getD i (⟨#[]⟩, ⟨#[]⟩)).1 (os.getD i (⟨#[]⟩, ⟨#[]⟩)).2).2, if (askS V1 (i : Int) fun s => putS s (os.getD i (⟨#[]⟩, ⟨#[]⟩)).1 (os.getD i (⟨#[]⟩, ⟨#[]⟩)).2).1 = 0 then s1.set i 2 else s1)) := hid rfl
  obtain ⟨vo, r1, r2, r3⟩ := HBE.out.x.ax.ob
  obtain ⟨g, co, rfl, o1, o2⟩ := obj_at r2 hi
  have o0 : w1.drew.cell? ⟨c2, 0, none⟩ = some (.slice (some ⟨g, 0, none⟩) os.length co) := r1.cell 0
  have b0 : w1.drew.cell? ⟨c1, 0, none⟩ = some (.pointer (some ⟨b, 0, none⟩)) := HBE.out.x.h1.cell 0
  have hcc := hok.calls
  have HPU := HBE.out.wt.put (by omega) hok.left hok.fit (by omega) (i : Int) (os.getD i (⟨#[]⟩, ⟨#[]⟩)).1 (os.getD i (⟨#[]⟩, ⟨#[]⟩)).2
  have HIN := hid hi
  have HIS : Hid (i < s1.length) := hid (by rw [HBE.out.x.ax.len]; exact hi)
  clear r1 r2 r3 h hq hok
  unfold ptr obv er at *
  generalize askS V1 (i : Int) (fun s => putS s (os.getD i (⟨#[]⟩, ⟨#[]⟩)).1 (os.getD i (⟨#[]⟩, ⟨#[]⟩)).2) = ra at *
  generalize os.getD i (⟨#[]⟩, ⟨#[]⟩) = p at *
  obtain ⟨n1, d1⟩ := p
  obtain ⟨z, V2⟩ := ra
  simp only at o1 o2 HPU HDP
  generalize os.length = on at *
  go_enter Tryz.func84, Tryz.ntmps84
  go_wp2_with fail
  refine Tl.wp_mix_lit (by kernel_rfl) 6 [7, 8, 9, 10, 11, 12] 20 rfl (by kernel_rfl) (AtW w1.drew) (wtF b g i n1 d1 (.slice (some ⟨g, 0, none⟩) on co)) rfl
    ⟨fun a' W' hC hF => ?_, fun a' W' hC hF => ?_, fun a' W' hC hF => ?_, fun a' W' hC hF => ?_, fun a' W' hC hF => ?_, fun a' W' hC hF => ?_, trivial⟩ ?_
  · exact Tl.sm_v 7 _ rfl (Tl.wanted_none rfl) hC rfl (rn_load23p rfl ((hF 1 (by decide +kernel)).2 (by decide)) (by rw [show W' = _ from hC]; exact b0))
  · exact Tl.sm_v 8 _ rfl (Tl.wanted_none rfl) hC rfl (rn_move rfl ((hF 0 (by decide +kernel)).2 (by decide)))
  · exact Tl.sm_v 9 _ rfl (Tl.wanted_none rfl) hC rfl (rn_load55 rfl ((hF 2 (by decide +kernel)).2 (by decide)) (by rw [show W' = _ from hC]; exact o0))
  · exact Tl.sm_v 10 _ rfl (Tl.wanted_none rfl) hC rfl (rn_move rfl ((hF 0 (by decide +kernel)).2 (by decide)))
  · exact Tl.sm_v 11 _ rfl (Tl.wanted_none rfl) hC rfl (rn_ix55 rfl ((hF 9 (by decide +kernel)).1 (by decide)) ((hF 10 (by decide +kernel)).1 (by decide)) HIN.out)
  · exact Tl.sm_v 12 _ rfl (Tl.wanted_none rfl) hC rfl (rn_load28 rfl ((hF 11 (by decide +kernel)).1 (by decide)) (by rw [show W' = _ from hC]; exact o1) (by rw [show W' = _ from hC]; exact o2))
  intro v wB hw2 hv
  obtain rfl : wB = _ := hw2
  have v7 : v 7 = .pointer (some ⟨b, 0, none⟩) := hv 7 (by decide)
  have v8 : v 8 = .int .i64 (i : Int) := hv 8 (by decide)
  have v12 : v 12 = .agg #[.string n1, .string d1] := hv 12 (by decide)
  clear hv
  simp only [Tl.fill, List.drop_succ_cons, List.drop_zero]
  simp only [Act.put, List.setIfInBounds_toArray, List.set_cons_succ, List.set_cons_zero, v7, v8, v12]
  clear v7 v8 v12 o0 o1 o2 b0
  go_wp2_with fail
  refine HPU.mono ?_
  clear HPU
  rintro y w2 ⟨rfl, hwt2⟩
  have HB2 := hid (HBE.out.call WX.kept hwt2)
  clear hwt2 HBE
  have k2 : w2.cell? ⟨c3, 0, none⟩ = some (.slice (some ⟨gs, 0, none⟩) sn sc) := HB2.out.x.s1.cell 0
  obtain ⟨hgB, cur, hcur⟩ := row_has HB2.out.x.s2 (q := gs) rfl
  have hsn : i < sn := by rw [← HB2.out.x.sl]; exact HIS.out
  have hcs : i < cur.size := by
    rcases HB2.out.x.s2.2 with ⟨e', _⟩ | ⟨g', cap', cur', e', _, h3, h4, _, h6, _⟩
    · cases e'
    · cases e'
      have e3 : Has w2 gs cur' 144 := h3
      unfold Has at hcur e3
      rw [hcur] at e3
      cases e3
      have := HIS.out
      omega
  have k3 : w2.cell? ⟨gs, i, none⟩ = some cur[i] := by
    have := hcur.cell i
    rw [Array.getElem?_eq_getElem hcs] at this
    exact this
  have k4 : w2.frozen? ⟨gs, i, none⟩ = false := hcur.frozen i
  have HGB := hid hgB
  generalize cur[i] = u3 at *
  clear hcur hcs hgB
  by_cases hz : z = 0
  · rw [if_pos hz] at HDP
    subst hz
    have HE : Hid (Q (.returned (.int .i64 0)) (w2.setCell ⟨gs, i, none⟩ (.int .i64 2))) := hid (by
      have := HQ.out (w2.setCell ⟨gs, i, none⟩ (.int .i64 2)) T1
      rw [HDP.out] at this
      exact this (HB2.out.set ⟨HB2.out.x.s3, HGB.out⟩ hT0 hw (HB2.out.x.put (v := 2))))
    clear HQ HDP
    go_wp2_with fail
    exact HE.out
  · rw [if_neg hz] at HDP
    have HE : Hid (Q (.returned (.int .i64 z)) w2) := hid (by
      have := HQ.out w2 T1
      rw [HDP.out] at this
      exact this HB2.out)
    have p1 : (z == 0) = false := by simpa using hz
    clear hz HQ HDP
    go_wp2_with fail
    exact HE.out
def dSync (V : Wd) (st : List Nat) (i : Nat) : Int × Wd × List Nat := ((askS V (i : Int) W.sync).1, (askS V (i : Int) W.sync).2, st)
theorem sync1_any (w1 : World) (V1 : Wd) (T1 : Nat → Prop) (s1 : List Nat) (i M n : Nat) (Q : Ending → World → Prop) (hok : Ok M n V1) (hM : M ≤ 900000) (h : Bes w0 w w1 b V1 T0 T1 (WX c1 c2 c3 b os gs sn sc w.heap.size) s1)
    (hq : ∀ w2 T2, Bes w0 w w2 b (dSync V1 s1 i).2.1 T0 T2 (WX c1 c2 c3 b os gs sn sc w.heap.size) (dSync V1 s1 i).2.2 → Q (.returned (.int .i64 (dSync V1 s1 i).1)) w2) : Calls Tryz.prog 86 #[ptr b, .int .i64 (i : Int)] w1 Q := by
  have hcc := hok.calls
  refine (h.wt.sync (by omega) hok.left (i : Int)).mono ?_
  rintro e w2 ⟨rfl, hw2⟩
  exact hq w2 T1 (h.call WX.kept hw2)
def eachG (so : Nat) (dof : Wd → List Nat → Nat → Int × Wd × List Nat) : Nat → Nat → Nat → Wd → List Nat → (Nat × Int) × Wd × List Nat
  | 0, _, dn, V, st => ((dn, 0), V, st)
  | n + 1, i, dn, V, st =>
    if st.getD i 0 = so then
      if (dof V st i).1 = 0 then eachG so dof n (i + 1) (dn + 1) (dof V st i).2.1 (dof V st i).2.2
      else if (dof V st i).1 = 56 ∨ (dof V st i).1 = 52 then ((0, (dof V st i).1), (dof V st i).2.1, (dof V st i).2.2)
      else eachG so dof n (i + 1) dn (dof V st i).2.1 (dof V st i).2.2
    else eachG so dof n (i + 1) dn V st
theorem eachG_succ (so : Nat) (dof : Wd → List Nat → Nat → Int × Wd × List Nat) (n i dn : Nat) (V : Wd) (st : List Nat) : eachG so dof (n + 1) i dn V st = if st.getD i 0 = so then if (dof V st i).1 = 0 then eachG so dof n (i + 1) (dn + 1) (dof V st i).2.1 (dof V st i).2.2 else if (dof V st i).1 = 56 ∨ (dof V st i).1 = 52 then ((0, (dof V st i).1), (dof V st i).2.1, (dof V st i).2.2) else eachG so dof n (i + 1) dn (dof V st i).2.1 (dof V st i).2.2 else eachG so dof n (i + 1) dn V st := rfl
set_option maxHeartbeats 4000000 in
set_option maxRecDepth 20000 in
theorem each84_any (so M n : Nat) (hT0 : ∀ i, T0 i → i < w.heap.size) (hw : w0.heap.size ≤ w.heap.size) {wz : World} {st : List Nat} (h : Bes w0 w wz b V T0 T (WX c1 c2 c3 b os gs sn sc w.heap.size) st) (hok : Ok M n V) (hM : M + 100 ≤ 900000) (hos : os.length = sn) (hsn : sn ≤ 12) (Q : Ending → World → Prop)
    (hq : ∀ w' T', Bes w0 w w' b (eachG so (dPut os) sn 0 0 V st).2.1 T0 T' (WX c1 c2 c3 b os gs sn sc w.heap.size) (eachG so (dPut os) sn 0 0 V st).2.2 → Ok (M + sn) n (eachG so (dPut os) sn 0 0 V st).2.1 → (eachG so (dPut os) sn 0 0 V st).1.1 ≤ sn → Q (.returned (.tuple #[.int .i64 ((eachG so (dPut os) sn 0 0 V st).1.1 : Int), .int .i64 (eachG so (dPut os) sn 0 0 V st).1.2])) w') : Calls Tryz.prog 83 #[.slice (some ⟨gs, 0, none⟩) sn sc, .int .i64 (so : Int), .func (.func 84) #[] #[ptr c1, ptr c2, ptr c3]] wz Q := by
  have HQ := hid hq
  have HH := hid h
  have HOK := hid hok
  clear hq h hok
  generalize HR : eachG so (dPut os) sn 0 0 V st = R at *
  have HRR := hid HR
  clear HR
  unfold ptr
  go_enter Tryz.func83, Tryz.ntmps83
  go_wp2_with fail
  go_loopg [8, 9, 10, 11, 14] sn (fun gk s8 s9 s10 s11 s14 wx => ∃ (k dn : Nat) (V1 : Wd) (T1 : Nat → Prop) (s1 : List Nat), k + gk = sn ∧ s14 = .int .i64 (k : Int) ∧ s8 = .int .i64 (dn : Int) ∧ dn ≤ k ∧ Hid (Bes w0 w wx b V1 T0 T1 (WX c1 c2 c3 b os gs sn sc w.heap.size) s1 ∧ Ok (M + k) n V1 ∧ eachG so (dPut os) gk k dn V1 s1 = R))
  case atStart => exact ⟨0, 0, V, T, st, by omega, rfl, rfl, Nat.le_refl _, hid ⟨HH.out, HOK.out, HRR.out⟩⟩
  case round =>
    obtain ⟨k, dn, V1, T1, s1, hk, rfl, rfl, hdn, HJ⟩ := hrel
    cases gk with
    | zero =>
      have q1 : ¬ ((k : Int) < (sn : Int)) := by omega
      have hkn : k = sn := by omega
      have HE : Hid (Q (.returned (.tuple #[.int .i64 (dn : Int), .int .i64 0])) wr) := hid (by
        have he := HJ.out.2.2
        have := HQ.out wr T1
        rw [← he] at this
        exact this HJ.out.1 (by rw [← hkn]; exact HJ.out.2.1) (by show dn ≤ sn; omega))
      clear hkn
      go_wp2_with fail
      exact HE.out
    | succ g1 =>
      have q1 : (k : Int) < (sn : Int) := by omega
      have hks : k < sn := by omega
      obtain ⟨gs', e', c0⟩ := st_at HJ.out.1.x.s2 (k := k) (by rw [HJ.out.1.x.sl]; exact hks)
      cases e'
      have he := HJ.out.2.2
      rw [eachG_succ] at he
      have HE := hid he
      clear he
      generalize s1.getD k 0 = sx at *
      by_cases hx : sx = so
      case neg =>
        have q2 : ((sx : Int) != (so : Int)) = true := by simp; omega
        rw [if_neg hx] at HE
        clear hx
        go_wp2_with fail
        go_roundg g1
        case measure => omega
        case rel => exact ⟨k + 1, dn, V1, T1, s1, by omega, by first | rfl | simp, rfl, by omega, hid ⟨HJ.out.1, HJ.out.2.1.more (by omega), HE.out⟩⟩
      have q2 : ((sx : Int) != (so : Int)) = false := by simp [hx]
      rw [if_pos hx] at HE
      clear hx
      have HCL := fun Q hq => written1_any hT0 hw wr V1 T1 s1 k (M + k) n Q (by rw [hos]; exact hks) HJ.out.2.1 (by omega) HJ.out.1 hq
      have HOK1 : Hid (Ok (M + (k + 1)) n ((dPut os) V1 s1 k).2.1) := hid (HJ.out.2.1.put (k : Int) _ _)
      unfold ptr at HCL
      generalize (dPut os) V1 s1 k = rd at *
      obtain ⟨z, V2, s2⟩ := rd
      simp only at HE HCL HOK1
      clear HJ
      go_wp2_with fail
      refine HCL _ fun w2 T2 hb2 => ?_
      clear HCL
      have HB2 := hid hb2
      clear hb2 c0
      by_cases hz : z = 0
      · subst hz
        rw [if_pos rfl] at HE
        go_wp2_with fail
        go_roundg g1
        case measure => omega
        case rel => exact ⟨k + 1, dn + 1, V2, T2, s2, by omega, by first | rfl | simp, by first | rfl | simp, by omega, hid ⟨HB2.out, HOK1.out, HE.out⟩⟩
      rw [if_neg hz] at HE
      have p1 : (z == 0) = false := by simpa using hz
      clear hz
      by_cases hz : z = 56 ∨ z = 52
      · rw [if_pos hz] at HE
        have HF : Hid (Q (.returned (.tuple #[.int .i64 0, .int .i64 z])) w2) := hid (by
          have := HQ.out w2 T2
          rw [← HE.out] at this
          exact this HB2.out (HOK1.out.more (by omega)) (Nat.zero_le _))
        rcases hz with rfl | rfl
        · go_wp2_with fail
          exact HF.out
        · go_wp2_with fail
          exact HF.out
      · rw [if_neg hz] at HE
        have p2 : (z == 56) = false := by simpa using fun h => hz (.inl h)
        have p3 : (z == 52) = false := by simpa using fun h => hz (.inr h)
        clear hz
        go_wp2_with fail
        go_roundg g1
        case measure => omega
        case rel => exact ⟨k + 1, dn, V2, T2, s2, by omega, by first | rfl | simp, rfl, by omega, hid ⟨HB2.out, HOK1.out, HE.out⟩⟩
set_option maxHeartbeats 4000000 in
set_option maxRecDepth 20000 in
theorem each86_any (so M n : Nat) (hT0 : ∀ i, T0 i → i < w.heap.size) (hw : w0.heap.size ≤ w.heap.size) {wz : World} {st : List Nat} (h : Bes w0 w wz b V T0 T (WX c1 c2 c3 b os gs sn sc w.heap.size) st) (hok : Ok M n V) (hM : M + 100 ≤ 900000) (hos : os.length = sn) (hsn : sn ≤ 12) (Q : Ending → World → Prop)
    (hq : ∀ w' T', Bes w0 w w' b (eachG so dSync sn 0 0 V st).2.1 T0 T' (WX c1 c2 c3 b os gs sn sc w.heap.size) (eachG so dSync sn 0 0 V st).2.2 → Ok (M + sn) n (eachG so dSync sn 0 0 V st).2.1 → (eachG so dSync sn 0 0 V st).1.1 ≤ sn → Q (.returned (.tuple #[.int .i64 ((eachG so dSync sn 0 0 V st).1.1 : Int), .int .i64 (eachG so dSync sn 0 0 V st).1.2])) w') : Calls Tryz.prog 83 #[.slice (some ⟨gs, 0, none⟩) sn sc, .int .i64 (so : Int), .func (.func 86) #[ptr b] #[]] wz Q := by
  have HQ := hid hq
  have HH := hid h
  have HOK := hid hok
  clear hq h hok
  generalize HR : eachG so dSync sn 0 0 V st = R at *
  have HRR := hid HR
  clear HR
  unfold ptr
  go_enter Tryz.func83, Tryz.ntmps83
  go_wp2_with fail
  go_loopg [8, 9, 10, 11, 14] sn (fun gk s8 s9 s10 s11 s14 wx => ∃ (k dn : Nat) (V1 : Wd) (T1 : Nat → Prop) (s1 : List Nat), k + gk = sn ∧ s14 = .int .i64 (k : Int) ∧ s8 = .int .i64 (dn : Int) ∧ dn ≤ k ∧ Hid (Bes w0 w wx b V1 T0 T1 (WX c1 c2 c3 b os gs sn sc w.heap.size) s1 ∧ Ok (M + k) n V1 ∧ eachG so dSync gk k dn V1 s1 = R))
  case atStart => exact ⟨0, 0, V, T, st, by omega, rfl, rfl, Nat.le_refl _, hid ⟨HH.out, HOK.out, HRR.out⟩⟩
  case round =>
    obtain ⟨k, dn, V1, T1, s1, hk, rfl, rfl, hdn, HJ⟩ := hrel
    cases gk with
    | zero =>
      have q1 : ¬ ((k : Int) < (sn : Int)) := by omega
      have hkn : k = sn := by omega
      have HE : Hid (Q (.returned (.tuple #[.int .i64 (dn : Int), .int .i64 0])) wr) := hid (by
        have he := HJ.out.2.2
        have := HQ.out wr T1
        rw [← he] at this
        exact this HJ.out.1 (by rw [← hkn]; exact HJ.out.2.1) (by show dn ≤ sn; omega))
      clear hkn
      go_wp2_with fail
      exact HE.out
    | succ g1 =>
      have q1 : (k : Int) < (sn : Int) := by omega
      have hks : k < sn := by omega
      obtain ⟨gs', e', c0⟩ := st_at HJ.out.1.x.s2 (k := k) (by rw [HJ.out.1.x.sl]; exact hks)
      cases e'
      have he := HJ.out.2.2
      rw [eachG_succ] at he
      have HE := hid he
      clear he
      generalize s1.getD k 0 = sx at *
      by_cases hx : sx = so
      case neg =>
        have q2 : ((sx : Int) != (so : Int)) = true := by simp; omega
        rw [if_neg hx] at HE
        clear hx
        go_wp2_with fail
        go_roundg g1
        case measure => omega
        case rel => exact ⟨k + 1, dn, V1, T1, s1, by omega, by first | rfl | simp, rfl, by omega, hid ⟨HJ.out.1, HJ.out.2.1.more (by omega), HE.out⟩⟩
      have q2 : ((sx : Int) != (so : Int)) = false := by simp [hx]
      rw [if_pos hx] at HE
      clear hx
      have HCL := fun Q hq => sync1_any wr V1 T1 s1 k (M + k) n Q HJ.out.2.1 (by omega) HJ.out.1 hq
      have HOK1 : Hid (Ok (M + (k + 1)) n (dSync V1 s1 k).2.1) := hid (HJ.out.2.1.sync (k : Int))
      unfold ptr at HCL
      generalize dSync V1 s1 k = rd at *
      obtain ⟨z, V2, s2⟩ := rd
      simp only at HE HCL HOK1
      clear HJ
      go_wp2_with fail
      refine HCL _ fun w2 T2 hb2 => ?_
      clear HCL
      have HB2 := hid hb2
      clear hb2 c0
      by_cases hz : z = 0
      · subst hz
        rw [if_pos rfl] at HE
        go_wp2_with fail
        go_roundg g1
        case measure => omega
        case rel => exact ⟨k + 1, dn + 1, V2, T2, s2, by omega, by first | rfl | simp, by first | rfl | simp, by omega, hid ⟨HB2.out, HOK1.out, HE.out⟩⟩
      rw [if_neg hz] at HE
      have p1 : (z == 0) = false := by simpa using hz
      clear hz
      by_cases hz : z = 56 ∨ z = 52
      · rw [if_pos hz] at HE
        have HF : Hid (Q (.returned (.tuple #[.int .i64 0, .int .i64 z])) w2) := hid (by
          have := HQ.out w2 T2
          rw [← HE.out] at this
          exact this HB2.out (HOK1.out.more (by omega)) (Nat.zero_le _))
        rcases hz with rfl | rfl
        · go_wp2_with fail
          exact HF.out
        · go_wp2_with fail
          exact HF.out
      · rw [if_neg hz] at HE
        have p2 : (z == 56) = false := by simpa using fun h => hz (.inl h)
        have p3 : (z == 52) = false := by simpa using fun h => hz (.inr h)
        clear hz
        go_wp2_with fail
        go_roundg g1
        case measure => omega
        case rel => exact ⟨k + 1, dn, V2, T2, s2, by omega, by first | rfl | simp, rfl, by omega, hid ⟨HB2.out, HOK1.out, HE.out⟩⟩
end Go.Proofs.YtffhobkoagnhhaaGreatDoor
