/- Stripe: asked's closure. Printed by gen_s6.py. -/
import Derived.Test.YtffhobkoagnhhaaGreatDoorS3
namespace Go.Proofs.YtffhobkoagnhhaaGreatDoor
open Go.RowKit Go.Maps
open W
section
variable {ev : Operand → Value} {o : Oper} {w : World} {x y : Operand}
theorem rn_load55 {g k : Nat} {v : Value} (ho : o.op = .load 55 x) (hx : ev x = .pointer (some ⟨g, k, none⟩)) (hc : w.cell? ⟨g, k, none⟩ = some v) : (execOp ev o).run Tryz.prog w = .ok (.value v) w := by
  simp [execOp, ho, hx, go_sem, hc]
theorem rn_ix55 {g n c i : Nat} (ho : o.op = .indexAddr 55 x y) (hx : ev x = .slice (some ⟨g, 0, none⟩) n c) (hy : ev y = .int .i64 (i : Int)) (hi : i < n) : (execOp ev o).run Tryz.prog w = .ok (.value (.pointer (some ⟨g, i * 2, none⟩))) w := by
  have q : (i : Int) < (n : Int) := by omega
  simp [execOp, ho, hx, hy, go_sem, q]
theorem tl_eq (a c : ByteArray) : (a.toList = c.toList) = (a = c) := by
  rw [Lib.toList_data, Lib.toList_data]
  exact propext ⟨ba_ext, fun h => by rw [h]⟩
theorem rn_eql64 {a c d f : ByteArray} (ho : o.op = .binOp .eql 64 x y 64) (hx : ev x = .agg #[.string a, .string c]) (hy : ev y = .agg #[.string d, .string f]) : (execOp ev o).run Tryz.prog w = .ok (.value (.bool (decide ((a, c) = (d, f))))) w := by
  have : (binOp .eql 64 (.agg #[.string a, .string c]) (.agg #[.string d, .string f])).run Tryz.prog w = .ok (.bool (decide ((a, c) = (d, f)))) w := by
    by_cases h1 : a = d
    · subst h1
      by_cases h2 : c = f
      · subst h2; simp [go_sem]
      · simp [go_sem, tl_eq, h2]
    · simp [go_sem, tl_eq, h1]
  have hg : ∀ a c : Array Value, (eqGuard .eql 64 x y (.agg a) (.agg c)).run Tryz.prog w = .ok () w := fun a c => run_eqGuard_agg _ _ _ _ _ _ _ (by kernel_rfl)
  simp [execOp, ho, hx, hy, this, hg]
end
variable {w0 w w' : World} {b : Nat} {V V' : Wd} {T T0 : Nat → Prop}
theorem row_put {w : World} {base n g cap i : Nat} {e : TypeId} {xs : List Value} (h : w.ownsRow base e 1 (.slice (some ⟨g, 0, none⟩) n cap) n xs) (u : Value) : (w.setCell ⟨g, i, none⟩ u).ownsRow base e 1 (.slice (some ⟨g, 0, none⟩) n cap) n (xs.set i u) := by
  obtain ⟨h1, h2⟩ := h
  refine ⟨by rw [List.length_set]; exact h1, ?_⟩
  rcases h2 with ⟨e1, _⟩ | ⟨g', cap', cur, e1, h2, h3, h4, h5, h6, h7⟩
  · cases e1
  · cases e1
    have h3' : Has w g cur e := h3
    refine .inr ⟨g, cap, cur.setIfInBounds i u, rfl, h2, h3'.set i u, h4, h5, by simpa using h6, ?_⟩
    rw [Array.toList_setIfInBounds, List.take_set, h7]
/-- the memory of asked's closure: the objects, and how the stores stand -/
structure AX (c1 c2 : Nat) (os : List Ob) (B : Nat) (w : World) (T : Nat → Prop) (st : List Nat) : Prop where
  t1 : T c1
  t2 : T c2
  len : st.length = os.length
  ob : ∃ vo, Has w c1 #[vo] 55 ∧ w.ownsRow 0 64 2 vo os.length (objCells os) ∧ ∀ q, vo.ownBlock = some q → T q
  sta : ∃ vs, Has w c2 #[vs] 140 ∧ w.ownsRow B 144 1 vs st.length (stCells st) ∧ ∀ q, vs.ownBlock = some q → T q
theorem AX.kept {c1 c2 : Nat} {os : List Ob} {B : Nat} (w w' : World) (T : Nat → Prop) (st : List Nat) (h : AX c1 c2 os B w T st) (hk : Kpt T w w') : AX c1 c2 os B w' T st := by
  obtain ⟨vo, r1, r2, r3⟩ := h.ob
  obtain ⟨vs, s1, s2, s3⟩ := h.sta
  exact { h with ob := ⟨vo, hk.has h.t1 r1, hk.row r2 r3, r3⟩, sta := ⟨vs, hk.has h.t2 s1, hk.row s2 s3, s3⟩ }
theorem stCells_set (st : List Nat) (i v : Nat) : (stCells st).set i (.int .i64 (v : Int)) = stCells (st.set i v) := by
  unfold stCells
  rw [List.map_set]
/-- a store's standing is written -/
theorem AX.put {c1 c2 : Nat} {os : List Ob} {B g n cap i v : Nat} {w : World} {T : Nat → Prop} {st : List Nat} (h : AX c1 c2 os B w T st) (s1 : Has w c2 #[.slice (some ⟨g, 0, none⟩) n cap] 140) (s2 : w.ownsRow B 144 1 (.slice (some ⟨g, 0, none⟩) n cap) st.length (stCells st)) (s3 : T g) : AX c1 c2 os B (w.setCell ⟨g, i, none⟩ (.int .i64 (v : Int))) T (st.set i v) := by
  obtain ⟨vo, r1, r2, r3⟩ := h.ob
  obtain ⟨_, cur, hh⟩ := row_has s2 (q := g) rfl
  have hn : n = st.length := by
    rcases row_form s2 with ⟨e, _⟩ | ⟨_, _, e, _⟩ <;> cases e
    rfl
  subst hn
  have hr := row_put (i := i) s2 (.int .i64 (v : Int))
  rw [stCells_set] at hr
  refine ⟨h.t1, h.t2, by rw [List.length_set]; exact h.len, ⟨vo, ?_, ?_, r3⟩, ⟨_, ?_, by rw [List.length_set]; exact hr, fun q hq => by cases hq; exact s3⟩⟩
  · exact ((Only.refl (fun q => q = g) w).set (p := ⟨g, i, none⟩) (.inl rfl) _).has r1 fun e => Has.ne r1 hh (by decide) e
  · exact row_setb r2 hh (by decide) i _
  · exact ((Only.refl (fun q => q = g) w).set (p := ⟨g, i, none⟩) (.inl rfl) _).has s1 fun e => Has.ne s1 hh (by decide) e
theorem Bes.set {σ : Type} {X X' : World → (Nat → Prop) → σ → Prop} {s s' : σ} {wx : World} {g i : Nat} {u : Value} (h : Bes w0 w wx b V T0 T X s) (hg : T g ∧ w.heap.size ≤ g) (hT0 : ∀ i, T0 i → i < w.heap.size) (hw : w0.heap.size ≤ w.heap.size) (hx : X' (wx.setCell ⟨g, i, none⟩ u) T s') : Bes w0 w (wx.setCell ⟨g, i, none⟩ u) b V T0 T X' s' := by
  have ho : Only (fun q => q = g) wx (wx.setCell ⟨g, i, none⟩ u) := (Only.refl (fun q => q = g) wx).set (p := ⟨g, i, none⟩) (.inl rfl) u
  obtain ⟨⟨S, g', h1, h2, h3, h4⟩, _, hsub, hkp⟩ := h
  refine ⟨⟨S, g', h1.only ho (fun i hi hS' => (h4 i (by rw [hS']; exact hg.1)).1 hi), h2, h3.trans (ho.below h3.size fun i hi => by rw [hi]; exact Nat.le_trans hw hg.2), fun i hi => ⟨(h4 i hi).1, Nat.lt_of_lt_of_le (h4 i hi).2 ho.size⟩⟩, hx, hsub, hkp.trans ⟨ho.size, fun i hi => ho.block i (h4 i (hsub i hi)).2 fun hS' => ?_⟩⟩
  have := hT0 i hi
  have := hg.2
  omega
def akF (q g c1 i : Nat) (nm x n1 d1 : ByteArray) (vo : Value) (j : Nat) (v : Value) (_ : World) : Prop := match j with
  | 10 => v = .agg #[.string nm, .string x] | 11 => v = vo | 12 => v = .int .i64 (i : Int)
  | 13 => v = .pointer (some ⟨g, i * 2, none⟩) | 14 => v = .agg #[.string n1, .string d1] | 15 => v = .bool (decide ((nm, x) = (n1, d1)))
  | _ => q = q ∧ c1 = c1
/-- a step of asked's -/
def anx (os : List Ob) (d : ByteArray) (st : List Nat) (i : Nat) (x : ByteArray) (e : Int) : Bool × List Nat := (true, if (nmS d i, x) = os.getD i (⟨#[]⟩, ⟨#[]⟩) then st.set i 2 else if e = 51 then st else st.set i 1)
theorem obj_at {w : World} {B : Nat} {v : Value} {os : List Ob} (h : w.ownsRow B 64 2 v os.length (objCells os)) {i : Nat} (hi : i < os.length) : ∃ g c, v = .slice (some ⟨g, 0, none⟩) os.length c ∧ w.cell? ⟨g, i * 2, none⟩ = some (.string (os.getD i (⟨#[]⟩, ⟨#[]⟩)).1) ∧ w.cell? ⟨g, i * 2 + 1, none⟩ = some (.string (os.getD i (⟨#[]⟩, ⟨#[]⟩)).2) := by
  rcases row_form h with ⟨_, h0, _⟩ | ⟨g, cap, rfl, _, _, _, _, h5⟩
  · omega
  · have hg : os.getD i (⟨#[]⟩, ⟨#[]⟩) = os[i] := by rw [List.getD_eq_getElem?_getD, List.getElem?_eq_getElem hi]; rfl
    rw [hg]
    have hc : ∀ (l : List Ob) (k : Nat) (p : Ob), l[k]? = some p → (objCells l)[k * 2]? = some (.string p.1) ∧ (objCells l)[k * 2 + 1]? = some (.string p.2) := by
      intro l
      induction l with
      | nil => intro k p hp; simp at hp
      | cons q r ih =>
        intro k p hp
        cases k with
        | zero => simp at hp; subst hp; exact ⟨rfl, rfl⟩
        | succ k =>
          have e : objCells (q :: r) = .string q.1 :: .string q.2 :: objCells r := rfl
          rw [e, show (k + 1) * 2 = k * 2 + 1 + 1 by omega]
          exact ih k p (by simpa using hp)
    have := hc os i os[i] (List.getElem?_eq_getElem hi)
    exact ⟨g, cap, rfl, h5 _ _ this.1, h5 _ _ this.2⟩
set_option maxHeartbeats 4000000 in
set_option maxRecDepth 20000 in
theorem asked1_any (os : List Ob) (d : ByteArray) (c1 c2 : Nat) (hT0 : ∀ i, T0 i → i < w.heap.size) (hw : w0.heap.size ≤ w.heap.size) (w1 : World) (V1 : Wd) (T1 : Nat → Prop) (s1 : List Nat) (i : Nat) (x : ByteArray) (e : Int) (Q : Ending → World → Prop) (hi : i < os.length) (h : Bes w0 w w1 b V1 T0 T1 (AX c1 c2 os w.heap.size) s1)
    (hq : ∀ w2 T2, Bes w0 w w2 b V1 T0 T2 (AX c1 c2 os w.heap.size) (anx os d s1 i x e).2 → Q (.returned (.bool (anx os d s1 i x e).1)) w2) : Calls Tryz.prog 130 #[.int .i64 (i : Int), obv (nmS d i) x, .int .i64 e, ptr c1, ptr c2] w1 Q := by
  have HB := hid (boxed w1 (.cells #[.string (nmS d i), .string x] 64))
  have HBX := hid (Has.new w1 w1.heap.size #[.string (nmS d i), .string x] 64 rfl)
  have HBE := hid (h.below AX.kept HB.out)
  have HQ := hid hq
  have HAN : Hid (anx os d s1 i x e = (true, if (nmS d i, x) = os.getD i (⟨#[]⟩, ⟨#[]⟩) then s1.set i 2 else if e = 51 then s1 else s1.set i 1)) := hid rfl
  obtain ⟨wa, hwa⟩ : ∃ wa, wa = w1.alloc (.cells #[.string (nmS d i), .string x] 64) := ⟨_, rfl⟩
  rw [← hwa] at HB HBX HBE
  have b0 : wa.drew.cell? ⟨w1.heap.size, 0, none⟩ = some (.string (nmS d i)) := HBX.out.cell 0
  have b1 : wa.drew.cell? ⟨w1.heap.size, 0 + 1, none⟩ = some (.string x) := HBX.out.cell 1
  obtain ⟨vo, r1, r2, r3⟩ := HBE.out.x.ob
  obtain ⟨vs, s1', s2, s3⟩ := HBE.out.x.sta
  obtain ⟨g, co, rfl, o1, o2⟩ := obj_at r2 hi
  have o0 : wa.drew.cell? ⟨c1, 0, none⟩ = some (.slice (some ⟨g, 0, none⟩) os.length co) := r1.cell 0
  replace o1 : wa.drew.cell? ⟨g, i * 2, none⟩ = _ := o1
  replace o2 : wa.drew.cell? ⟨g, i * 2 + 1, none⟩ = _ := o2
  obtain ⟨sa, sc, rfl⟩ := row_slice s2
  obtain ⟨gs, rfl, hgs⟩ := st_at s2 (k := i) (by rw [HBE.out.x.len]; exact hi)
  clear hgs
  have HIN := hid hi
  have HIS : Hid (i < s1.length) := hid (by rw [HBE.out.x.len]; exact hi)
  have HSS := hid (show Has wa c2 #[.slice (some ⟨gs, 0, none⟩) s1.length sc] 140 ∧ wa.ownsRow w.heap.size 144 1 (.slice (some ⟨gs, 0, none⟩) s1.length sc) s1.length (stCells s1) ∧ T1 gs from ⟨s1', s2, s3 gs rfl⟩)
  have k2 : wa.drew.cell? ⟨c2, 0, none⟩ = some (.slice (some ⟨gs, 0, none⟩) s1.length sc) := s1'.cell 0
  obtain ⟨hgB, cur, hcur⟩ := row_has s2 (q := gs) rfl
  have hcs : i < cur.size := by
    rcases s2.2 with ⟨e', _⟩ | ⟨g', cap', cur', e', _, h3, h4, _, h6, _⟩
    · cases e'
    · cases e'
      have e3 : Has wa gs cur' 144 := h3
      unfold Has at hcur e3
      rw [hcur] at e3
      cases e3
      have := HIS.out
      omega
  have k3 : wa.drew.cell? ⟨gs, i, none⟩ = some cur[i] := by
    have := hcur.cell i
    rw [Array.getElem?_eq_getElem hcs] at this
    exact this
  have k4 : wa.drew.frozen? ⟨gs, i, none⟩ = false := hcur.frozen i
  have HGB := hid hgB
  generalize cur[i] = u3 at *
  have HW : Hid (∀ v : Nat, (anx os d s1 i x e).2 = s1.set i v → Q (.returned (.bool true)) (wa.drew.setCell ⟨gs, i, none⟩ (.int .i64 (v : Int)))) := hid fun v hv => by
    have := HQ.out (wa.drew.setCell ⟨gs, i, none⟩ (.int .i64 (v : Int))) T1
    rw [hv] at this
    have hd := HBE.out.below (wy := wa.drew) AX.kept (Below.refl _ _).drew
    exact this (hd.set ⟨HSS.out.2.2, HGB.out⟩ hT0 hw (hd.x.put HSS.out.1 HSS.out.2.1 HSS.out.2.2))
  have HWN : Hid ((anx os d s1 i x e).2 = s1 → Q (.returned (.bool true)) wa.drew) := hid fun hv => by
    have := HQ.out wa.drew T1
    rw [hv] at this
    exact this (HBE.out.below AX.kept (Below.refl _ _).drew)
  rw [HAN.out] at HW HWN
  simp only at HW HWN
  clear r1 r2 r3 s1' s2 s3 hcur hcs hgB HQ HAN h hq
  unfold obv ptr at *
  generalize os.getD i (⟨#[]⟩, ⟨#[]⟩) = p at *
  obtain ⟨n1, d1⟩ := p
  simp only at o1 o2
  generalize nmS d i = nm at *
  generalize os.length = on at *
  generalize s1.length = sn at *
  go_enter Tryz.func130, Tryz.ntmps130
  go_wp2_with fail
  rw [← hwa]
  clear hwa
  refine Tl.wp_mix_lit (by kernel_rfl) 6 [10, 11, 12, 13, 14, 15] 25 rfl (by kernel_rfl) (AtW wa.drew) (akF w1.heap.size g c1 i nm x n1 d1 (.slice (some ⟨g, 0, none⟩) on co)) rfl
    ⟨fun a' W' hC hF => ?_, fun a' W' hC hF => ?_, fun a' W' hC hF => ?_, fun a' W' hC hF => ?_, fun a' W' hC hF => ?_, fun a' W' hC hF => ?_, trivial⟩ ?_
  · exact Tl.sm_v 10 _ rfl (Tl.wanted_none rfl) hC rfl (rn_load28 rfl ((hF 6 (by decide +kernel)).2 (by decide)) (by rw [show W' = _ from hC]; exact b0) (by rw [show W' = _ from hC]; exact b1))
  · exact Tl.sm_v 11 _ rfl (Tl.wanted_none rfl) hC rfl (rn_load55 rfl ((hF 3 (by decide +kernel)).2 (by decide)) (by rw [show W' = _ from hC]; exact o0))
  · exact Tl.sm_v 12 _ rfl (Tl.wanted_none rfl) hC rfl (rn_move rfl ((hF 0 (by decide +kernel)).2 (by decide)))
  · exact Tl.sm_v 13 _ rfl (Tl.wanted_none rfl) hC rfl (rn_ix55 rfl ((hF 11 (by decide +kernel)).1 (by decide)) ((hF 12 (by decide +kernel)).1 (by decide)) HIN.out)
  · exact Tl.sm_v 14 _ rfl (Tl.wanted_none rfl) hC rfl (rn_load28 rfl ((hF 13 (by decide +kernel)).1 (by decide)) (by rw [show W' = _ from hC]; exact o1) (by rw [show W' = _ from hC]; exact o2))
  · exact Tl.sm_v 15 _ rfl (Tl.wanted_none rfl) hC rfl (rn_eql64 rfl ((hF 10 (by decide +kernel)).1 (by decide)) ((hF 14 (by decide +kernel)).1 (by decide)) )
  intro v wB hw2 hv
  obtain rfl : wB = _ := hw2
  have v15 : v 15 = .bool (decide ((nm, x) = (n1, d1))) := hv 15 (by decide)
  clear hv
  simp only [Tl.fill, List.drop_succ_cons, List.drop_zero, wpList]
  rw [if_pos (Tl.wanted_none rfl)]
  simp only [Act.put, List.setIfInBounds_toArray, List.set_cons_succ, List.set_cons_zero, v15]
  clear v15
  refine .inl (wp_assign (x := .tmp 15) (d := 9) (v := .bool (decide ((nm, x) = (n1, d1)))) ?_ ?_ ?_ ?_)
  · rfl
  · rfl
  · rfl
  simp only [Act.put, List.setIfInBounds_toArray, List.set_cons_succ, List.set_cons_zero]
  by_cases hp : (nm, x) = (n1, d1)
  · rw [decide_eq_true hp]
    rw [if_pos hp] at HW
    have HE := hid (HW.out 2 rfl)
    clear hp HW HWN
    go_wp2_with fail
    exact HE.out
  · rw [decide_eq_false hp]
    rw [if_neg hp] at HW HWN
    clear hp
    by_cases he : e = 51
    · rw [if_pos he] at HWN
      have HE := hid (HWN.out rfl)
      have p1 : (e != 51) = false := by rw [he]; rfl
      clear he HW HWN
      go_wp2_with fail
      exact HE.out
    · rw [if_neg he] at HW
      have HE := hid (HW.out 1 rfl)
      have p1 : (e != 51) = true := by simpa using he
      clear he HW HWN
      go_wp2_with fail
      exact HE.out
end Go.Proofs.YtffhobkoagnhhaaGreatDoor
/- Stripe: asked. -/
namespace Go.Proofs.YtffhobkoagnhhaaGreatDoor
open Go.RowKit Go.Maps
open W
variable {w0 w w' : World} {b : Nat} {V V' : Wd} {T T0 : Nat → Prop}
theorem makes_st (n : Nat) (hn : n ≤ 1000000) (w : World) : (Instr.makeSlice 140 (.int .i64 (n : Int)) (.int .i64 (n : Int))).run Tryz.prog w = .ok (.slice (some ⟨w.heap.size, 0, none⟩) n n) (w.alloc (.cells (Array.replicate n (.int .i64 0)) 144)) := by
  obtain ⟨i, hi⟩ : ∃ i, Tryz.prog.info? 144 = some i := by
    cases h : Tryz.prog.info? 144 with
    | none => have : (Tryz.prog.info? 144).isSome = true := by kernel_rfl
              rw [h] at this; cases this
    | some i => exact ⟨i, rfl⟩
  have hz : (Tryz.prog.info? 144).map (fun i => (i.zero, i.size, i.bytes)) = some (some (.int .i64 0), 1, 8) := by kernel_rfl
  rw [hi] at hz
  simp only [Option.map_some, Option.some.injEq, Prod.mk.injEq] at hz
  obtain ⟨h1, h2, h3⟩ := hz
  rw [run_make w 140 144 i (.int .i64 0) Tryz.underlying140 hi h1 .i64 .i64 (n : Int) (n : Int) (by omega) (Int.le_refl _) (by rw [h3]; omega) (by omega)]
  have e : madeCells (Value.int .i64 0).cells (n * 1) = Array.replicate n (.int .i64 0) := by
    apply Array.toList_inj.1
    have hz : (Value.int .i64 0).cells = #[.int .i64 0] := rfl
    rw [hz, Nat.mul_one]
    apply List.ext_getElem
    · simp [madeCells]
    · intro k h1 h2
      simp [madeCells, Nat.mod_one]
  rw [h2, Int.toNat_natCast, e]
/-- how the stores stand, asked one by one -/
def askedG (V : Wd) (os : List Ob) (d : ByteArray) : Int × Wd × List Nat := askG d (anx os d) V.l.length 0 V (List.replicate os.length 0)
set_option maxHeartbeats 4000000 in
set_option maxRecDepth 20000 in
theorem asked_any (h : WT w0 w b V T) (hl : H.Lay w0) {os : List Ob} {vo : Value} (ho : w.ownsRow 0 64 2 vo os.length (objCells os)) (hvo : ∀ q, vo.ownBlock = some q → T q) (d : ByteArray) (hd : d.size ≤ 1000) (hn : V.l.length = os.length) (hn12 : V.l.length ≤ 12) (hc : V.calls ≤ 900000) (hf : V.left < 9223372036854775808) (Q : Ending → World → Prop)
    (hq : ∀ w' T' vs, WT w0 w' b (askedG V os d).2.1 T' → (∀ i, T i → T' i) → Kpt T w w' → w'.ownsRow w.heap.size 144 1 vs (askedG V os d).2.2.length (stCells (askedG V os d).2.2) → (∀ q, vs.ownBlock = some q → T' q) → (askedG V os d).2.2.length = os.length → Q (.returned (.tuple #[vs, .int .i64 (askedG V os d).1])) w') : Calls Tryz.prog 81 #[ptr b, .string d, vo] w Q := by
  have HQ := hid hq
  have HH := hid h
  have HL := hid hl
  have HO := hid ho
  have HVO := hid hvo
  have HN := hid hn
  have HNN := hid hn12
  have HC := hid hc
  have HF := hid hf
  have hm := makes_st os.length (by omega)
  obtain ⟨ao, co, rfl⟩ := row_slice ho
  clear hq h hl ho hvo hn hc hf
  unfold ptr
  have hos : os.length ≤ 12 := by rw [← HN.out]; exact hn12
  generalize hon : os.length = n at *
  have HON := hid hon
  clear hon
  go_enter Tryz.func81, Tryz.ntmps81
  go_wp2_with fail
  have HBZ : Hid (Below w.heap.size w (((w.alloc (.cells #[.slice ao n co] 55)).alloc (.cells (Array.replicate n (.int .i64 0)) 144)).alloc (.cells #[.slice (some ⟨w.heap.size + 1, 0, none⟩) n n] 140))) := hid ((((Below.refl _ _).alloc (Nat.le_refl _) _).alloc (by simp) _).alloc (by simp; try omega) _)
  have HBS : Hid (Bes w0 w (((w.alloc (.cells #[.slice ao n co] 55)).alloc (.cells (Array.replicate n (.int .i64 0)) 144)).alloc (.cells #[.slice (some ⟨w.heap.size + 1, 0, none⟩) n n] 140)) b V T (fun i => T i ∨ (w.heap.size ≤ i ∧ i < (((w.alloc (.cells #[.slice ao n co] 55)).alloc (.cells (Array.replicate n (.int .i64 0)) 144)).alloc (.cells #[.slice (some ⟨w.heap.size + 1, 0, none⟩) n n] 140)).heap.size)) (AX w.heap.size (w.heap.size + 1 + 1) os w.heap.size) (List.replicate n 0)) := hid (by
    refine ⟨HH.out.new HBZ.out, ⟨.inr ⟨Nat.le_refl _, by simp; try omega⟩, .inr ⟨by omega, by simp; try omega⟩, by rw [HON.out]; simp, ⟨_, ?_, by rw [HON.out]; exact row_below HO.out HBZ.out, fun q hq => .inl (HVO.out q hq)⟩, ⟨.slice (some ⟨w.heap.size + 1, 0, none⟩) n n, ?_, ?_, fun q hq => ?_⟩⟩, fun i hi => .inl hi, Kpt.below HH.out HBZ.out⟩
    · exact ((Has.new w w.heap.size #[.slice ao n co] 55 rfl).below (boxed _ _) (by simp)).below (boxed _ _) (by simp; try omega)
    · exact Has.new _ _ _ _ (by simp)
    · have hh : Has (((w.alloc (.cells #[.slice ao n co] 55)).alloc (.cells (Array.replicate n (.int .i64 0)) 144)).alloc (.cells #[.slice (some ⟨w.heap.size + 1, 0, none⟩) n n] 140)) (w.heap.size + 1) (Array.replicate n (.int .i64 0)) 144 := (Has.new _ (w.heap.size + 1) (Array.replicate n (.int .i64 0)) 144 (by simp)).below (boxed _ _) (by simp)
      rw [List.length_replicate]
      exact ⟨by simp [stCells], .inr ⟨w.heap.size + 1, n, Array.replicate n (.int .i64 0), rfl, by omega, hh, Nat.le_refl _, by unfold maxLen; omega, by simp, by simp [stCells]⟩⟩
    · cases hq
      exact .inr ⟨by show w.heap.size ≤ w.heap.size + 1; omega, by simp; try omega⟩)
  have HAK := ask130_any d hd w.heap.size (w.heap.size + 1 + 1) (anx os d) (fun _ => AX w.heap.size (w.heap.size + 1 + 1) os w.heap.size) (fun _ => AX.kept) (w0 := w0) (V := V) (b := b) (w := w) (T0 := T) (fun w1' V1 T1 s1 i x e Q hi hb hq => asked1_any os d _ _ HH.out.lt HH.out.base.size w1' V1 T1 s1 i x e Q (by rw [HON.out, ← HN.out]; exact hi) hb hq) HBS.out HL.out HNN.out HC.out HF.out
  unfold ptr at HAK
  refine HAK _ (fun w3 T3 k hk hb3 => ?_)
  clear HAK HBS HBZ hm
  have HGE : Hid (askG d (anx os d) V.l.length 0 V (List.replicate n 0) = askedG V os d) := hid (by unfold askedG; rw [HON.out])
  rw [HGE.out] at hb3 ⊢
  have HB3 := hid hb3
  obtain ⟨vs, s1, s2, s3⟩ := hb3.x.sta
  have c2 := s1.cell 0
  have HE := hid (HQ.out w3 T3 vs HB3.out.wt HB3.out.sub HB3.out.kp s2 s3 (by rw [HB3.out.x.len, HON.out]))
  obtain ⟨sa, sc, rfl⟩ := row_slice s2
  unfold er
  clear hb3 s1 s2 s3 HGE HQ HB3
  generalize askedG V os d = r at *
  go_wp2_with fail
  exact HE.out
end Go.Proofs.YtffhobkoagnhhaaGreatDoor
