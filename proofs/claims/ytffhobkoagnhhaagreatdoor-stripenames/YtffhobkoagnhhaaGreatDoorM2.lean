/- Stripe's laws: what they call of package world; three and calls. -/
import Derived.Test.YtffhobkoagnhhaaGreatDoorWMore
import Derived.Test.YtffhobkoagnhhaaGreatDoorS12
namespace Go.Proofs.YtffhobkoagnhhaaGreatDoor
open Go.RowKit Go.Maps
open W
variable {w0 w w' : World} {b : Nat} {V V' : Wd} {T : Nat → Prop}
theorem WT.calls (h : WT w0 w b V T) : Calls Tryz.prog 13 #[ptr b] w fun e w' => e = .returned (.int .i64 (V.calls : Int)) ∧ w' = w := by
  obtain ⟨S, g, h1, _⟩ := h
  exact calls_any h1
theorem WT.dark (h : WT w0 w b V T) : Calls Tryz.prog 21 #[ptr b] w fun e w' => e = .returned (.bool V.dark) ∧ w' = w := by
  obtain ⟨S, g, h1, _⟩ := h
  exact dark_any h1
theorem WT.up (h : WT w0 w b V T) (i : Int) : Calls Tryz.prog 28 #[ptr b, .int .i64 i] w fun e w' => e = .returned (.bool (upW V i)) ∧ w' = w := by
  obtain ⟨S, g, h1, _⟩ := h
  exact wup_any h1 i
theorem WT.objs (h : WT w0 w b V T) (hs : ∀ x ∈ V.l, x.st.seen.length ≤ 1000000) (i : Int) : Calls Tryz.prog 23 #[ptr b, .int .i64 i] w fun e w' => ∃ v, e = .returned v ∧ w'.ownsRow w.heap.size 64 2 v (objsW V i).length (objCells (objsW V i)) ∧ Below w.heap.size w w' := by
  obtain ⟨S, g, h1, _⟩ := h
  exact wobjs_any h1 hs i
theorem WT.cut (h : WT w0 w b V T) (a : Int) : Calls Tryz.prog 30 #[ptr b, .int .i64 a] w fun e w' => e = .returned (er (cutW V a).1) ∧ WT w0 w' b (cutW V a).2 T ∧ Kpt T w w' := by
  obtain ⟨S, g, h1, _, k⟩ := h.go
  exact (cut_any h1 a).mono fun _ _ ⟨e1, e2⟩ => ⟨e1, k _ _ e2⟩
theorem WT.strike (h : WT w0 w b V T) {N : Nat} (hF : ∀ x ∈ V.l, Fit N x.st) (hN : N ≤ 1000000) (k t n a c : Int) (hk0 : 0 ≤ k) (hk : k < 256) (hn : n < 9223372036854775808) (ha : a < 9223372036854775808) : Calls Tryz.prog 29 #[ptr b, fv k t n a c] w fun e w' => e = .returned (er (strikeW V k t n a c).1) ∧ WT w0 w' b (strikeW V k t n a c).2 T ∧ Kpt T w w' := by
  obtain ⟨S, g, h1, _, kk⟩ := h.go
  exact (wstrike_any h1 hF hN k t n a c hk0 hk hn ha).mono fun _ _ ⟨e1, e2⟩ => ⟨e1, kk _ _ e2⟩
theorem WT.crash (h : WT w0 w b V T) (hn : V.l.length ≤ 1000) {N : Nat} (hF : ∀ x ∈ V.l, Fit N x.st ∧ (x.st.writes ≠ [] → x.st.live = true)) (hN : N ≤ 400000) (lv : Value) (sv : List Sv) (hlv : RdS w0 lv sv) (hsl : sv.length ≤ 9223372036854775807) : Calls Tryz.prog 26 #[ptr b, lv] w fun e w' => e = .returned (er 0) ∧ WT w0 w' b (crashW V sv) T ∧ Kpt T w w' := by
  obtain ⟨S, g, h1, hS, kk⟩ := h.go
  exact (wcrash_any h1 hn hF hN h.base hS lv sv hlv hsl).mono fun _ _ ⟨e1, e2⟩ => ⟨e1, kk _ _ e2⟩
theorem WT.copy (h : WT w0 w b V T) (hL : 0 < V.l.length ∧ V.l.length ≤ 1000) (hw : ∀ x ∈ V.l, x.st.writes.length ≤ 1000000) : Calls Tryz.prog 67 #[ptr b] w fun e w' => ∃ b', e = .returned (ptr b') ∧ ∃ l', WT w w' b' { V with l := l' } (fun _ => False) ∧ sameK l' V.l ∧ Below w.heap.size w w' := by
  obtain ⟨S, g, h1, _⟩ := h
  refine (wcopy_any h1 hL hw).mono ?_
  rintro _ w' ⟨b', rfl, g', S', l', a1, a2, a3, a4⟩
  exact ⟨b', rfl, l', ⟨S', g', a1, a3, a4, fun _ hi => hi.elim⟩, a2, a4⟩
/-- a world of new stores -/
def New (n : Nat) (V : Wd) : Prop := V.l.length = n ∧ (∀ x ∈ V.l, x.st = st0 ∧ x.sus = false) ∧ V.calls = 0 ∧ V.cut = false ∧ V.dark = false ∧ V.left = 0
theorem results_tmp_cell {fn : Func} {p u : Tmp} {ty : TypeId} (h : fn.results = #[.tmp u, .cell p ty]) (tmps : Array Value) (P : Program) (w : World) :
    (results fn tmps).run P w = ((asAddr (tmps.getD p undef)).run P w).andThen fun a w₁ => ((loadVar ty a).run P w₁).andThen fun v w₂ => .ok (.tuple #[tmps.getD u undef, v]) w₂ := by
  simp only [results, h]
  simp [Sem.run_bind, Result.andThen]
theorem infoC : (Tryz.prog.info? 25).map (·.size) = some 2 := by kernel_rfl
set_option maxRecDepth 20000 in
/-- an answer, and a code that lies in memory -/
theorem ret_code {fn : Func} {a : Act} {W : World} {q : Nat} {x y : Value} {p u : Tmp} {v : Value} {Q : Ending → World → Prop}
    (hf : fn.results = #[.tmp u, .cell p 25]) (hp : a.tmps.getD p undef = .pointer (some ⟨q, 0, none⟩)) (hv : a.tmps.getD u undef = v) (hd : a.defers = []) (hc : Has W q #[x, y] 25)
    (hQ : Q (.returned (.tuple #[v, .agg #[x, y]])) W) : bodyPost Tryz.prog fn Q Exit.ret a W := by
  refine bodyPost_ret (v := .tuple #[v, .agg #[x, y]]) ?_ hd hQ
  rw [results_tmp_cell hf, hp, hv]
  have hld := run_loadVar_mid (P := Tryz.prog) W q 0 25 [x, y] _ hc.range Tryz.underlying25 rfl infoC
  show ((Sem.run Tryz.prog (loadVar 25 ⟨q, 0, none⟩) W).andThen _) = _
  rw [hld]
  rfl
set_option maxHeartbeats 4000000 in
set_option maxRecDepth 20000 in
theorem three_any (w : World) (Q : Ending → World → Prop) (hq : ∀ (b : Nat) (V : Wd) (w' : World), WT w w' b V (fun _ => False) → New 3 V → Below w.heap.size w w' → Q (.returned (.tuple #[.pointer (some ⟨b, 0, none⟩), .agg #[.int .i64 2, .int .i64 3]])) w') : Calls Tryz.prog 8 #[] w Q := by
  have HQ := hid hq
  have HB := hid (boxed w (.cells #[.int .i64 0, .int .i64 0] 25))
  have HX := hid (Has.new w w.heap.size #[.int .i64 0, .int .i64 0] 25 rfl)
  clear hq
  go_enter Tryz.func8, Tryz.ntmps8
  go_wp2_with fail
  refine wnew_any _ 3 _ (fun h => absurd ⟨by decide, by decide⟩ h) ?_
  intro _ b g S l w1 h1 h2 h3 h4 h5
  have HW := hid (show WT w w1 b (newW l) (fun i => i = w.heap.size) from ⟨S, g, h1, fun i hi => Nat.le_trans HB.out.size (h4 i hi), HB.out.trans (h5.mono HB.out.size), fun i hi => by
    subst hi
    refine ⟨fun hs => ?_, Nat.lt_of_lt_of_le HX.out.lt h5.size⟩
    have := h4 _ hs
    have := HX.out.lt
    omega⟩)
  have HN := hid (show New 3 (newW l) from ⟨h2, h3, rfl, rfl, rfl, rfl⟩)
  have hx1 := HX.out.below h5 HX.out.lt
  obtain ⟨c0, c1, f0, f1⟩ := two_cells hx1
  have f2 : ∀ u, (w1.setCell ⟨w.heap.size, 0, none⟩ u).frozen? ⟨w.heap.size, 1, none⟩ = false := fun u => (hx1.set 0 u).frozen _
  have HP := hid (two_put hx1 (.int .i64 2) (.int .i64 3))
  clear h1 h2 h3 h4 h5 hx1 HB HX
  go_wp2_with fail
  have HO := hid (show Only (fun i => i = w.heap.size) w1 ((w1.setCell ⟨w.heap.size, 0, none⟩ (.int .i64 2)).setCell ⟨w.heap.size, 1, none⟩ (.int .i64 3)) from Only.set (p := ⟨w.heap.size, 1, none⟩) (Only.set (p := ⟨w.heap.size, 0, none⟩) (Only.refl (fun i => i = w.heap.size) w1) (.inl rfl) _) (.inl rfl) _)
  have HW2 := hid (HW.out.only HO.out (fun i hi => by rw [hi]; exact Nat.le_refl _))
  exact ret_code rfl rfl rfl rfl HP.out (HQ.out _ _ _ (HW2.out.sub fun _ h => h.elim) HN.out HW2.out.base)
/-- how many calls it takes to write -/
def callsZ (V : Wd) (K N : Int) (bl : List Nat) : Int := if (wrG V K N bl).1.2 = 0 then ((wrG V K N bl).2.calls : Int) - (V.calls : Int) else -1
set_option maxHeartbeats 4000000 in
set_option maxRecDepth 20000 in
theorem callsL_any (h : WT w0 w b V T) (hl : H.Lay w0) {M : Nat} (hok : Ok M V.l.length V) (hM : M + 300 ≤ 900000) (K N : Int) (bl : List Nat) (hbl : ∀ x ∈ bl, x < 256) (Q : Ending → World → Prop)
    (hq : ∀ w', WT w0 w' b (wrG V K N bl).2 T → Kpt T w w' → Ok (M + 40) V.l.length (wrG V K N bl).2 → Q (.returned (.int .i64 (callsZ V K N bl))) w') : Calls Tryz.prog 25 #[ptr b, C.cv K N, .string (C.ofBs bl)] w Q := by
  have HQ := hid hq
  have HB := hid (boxed w (.cells #[.int .i64 K, .int .i64 N] 25))
  have HX := hid (Has.new w w.heap.size #[.int .i64 K, .int .i64 N] 25 rfl)
  have c0 := HX.out.cell 0
  have c1 := HX.out.cell 1
  have HW := hid (h.below HB.out)
  have HKB := hid (Kpt.below h HB.out)
  have HC := HW.out.calls
  have HR := fun Q => write_any HW.out hl hok hM K N bl hbl Q
  have HZ : Hid (callsZ V K N bl = if (wrG V K N bl).1.2 = 0 then ((wrG V K N bl).2.calls : Int) - (V.calls : Int) else -1) := hid rfl
  have HCB : Hid (V.calls ≤ 900000) := hid (by have := hok.calls; omega)
  clear hq h hl hok hbl HX HW
  unfold C.cv ptr at *
  generalize wrG V K N bl = r at *
  generalize callsZ V K N bl = cz at *
  generalize C.ofBs bl = bs0 at *
  go_enter Tryz.func25, Tryz.ntmps25
  go_wp2_with fail
  refine HC.mono ?_
  clear HC
  rintro _ _ ⟨rfl, rfl⟩
  go_wp2_with fail
  refine HR _ ?_
  clear HR c0 c1
  intro w1 h1 h2 h3
  have HRB : Hid (r.2.calls ≤ 900000) := hid (by have := h3.calls; omega)
  have HC1 := h1.calls
  have HF := hid (HQ.out _ h1 (HKB.out.trans h2) h3)
  clear h1 h2 h3 HQ HKB HB hM
  unfold ptr at HC1
  obtain ⟨⟨o, z⟩, V'⟩ := r
  dsimp only at *
  generalize V'.calls = n1 at *
  generalize V.calls = n0 at *
  by_cases hz : z = 0
  · subst hz
    rw [if_pos rfl] at HZ
    rw [HZ.out] at HF
    have hn0 := HCB.out
    have hn1 := HRB.out
    have hs1 : (-9223372036854775808 : Int) ≤ (n1 : Int) - (n0 : Int) := by omega
    have hs2 : (n1 : Int) - (n0 : Int) ≤ 9223372036854775807 := by omega
    clear HZ HCB HRB hn0 hn1
    go_wp2_with fail
    refine HC1.mono ?_
    clear HC1
    rintro _ _ ⟨rfl, rfl⟩
    go_wp2_with fail
    exact HF.out
  · have p1 : (z != 0) = true := by simpa using hz
    rw [if_neg hz] at HZ
    rw [HZ.out] at HF
    clear HZ hz HC1
    go_wp2_with fail
    exact HF.out
end Go.Proofs.YtffhobkoagnhhaaGreatDoor
/- Stripe, no program: a world whose power stays: what asking, putting and syncing store by store come to. -/
namespace Go.Proofs.YtffhobkoagnhhaaGreatDoor
open Go.RowKit Go.Maps
open W
/-- no cut was said, the power is there -/
def Lit (V : Wd) : Prop := V.cut = false ∧ V.dark = false
variable {V : Wd}
theorem Lit.count (h : Lit V) : countW V = { V with calls := V.calls + 1 } := by
  unfold countW
  rw [if_neg (by rw [h.1]; decide)]
theorem Lit.get (h : Lit V) {i : Nat} {x : Kp} (hx : V.l[i]? = some x) (n : ByteArray) : getW V (i : Int) n = W.get x.st n ∧ askW V (i : Int) = { V with calls := V.calls + 1 } := by
  have hi : i < V.l.length := (List.getElem?_eq_some_iff.1 hx).1
  have hin : 0 ≤ (i : Int) ∧ (i : Int) < (V.l.length : Int) := by omega
  unfold getW askW
  rw [if_pos hin, if_pos hin, h.count]
  refine ⟨?_, rfl⟩
  rw [if_neg (by show ¬ V.dark = true; rw [h.2]; decide)]
  show (match V.l[(i : Int).toNat]? with | some x => W.get x.st n | none => _) = _
  rw [Int.toNat_natCast, hx]
theorem Lit.ask (h : Lit V) {i : Nat} {x : Kp} (hx : V.l[i]? = some x) (f : St → Int × St) : askS V (i : Int) f = ((f x.st).1, { V with calls := V.calls + 1, l := V.l.set i { x with st := (f x.st).2 } }) := by
  have hi : i < V.l.length := (List.getElem?_eq_some_iff.1 hx).1
  have hin : 0 ≤ (i : Int) ∧ (i : Int) < (V.l.length : Int) := by omega
  unfold askS
  rw [if_pos hin, h.count, if_neg (by show ¬ V.dark = true; rw [h.2]; decide)]
  show (match V.l[(i : Int).toNat]? with | some x => _ | none => _) = _
  rw [Int.toNat_natCast, hx]
theorem get_cut (s : St) (n : ByteArray) : (W.get s n).2 ≠ 56 := by
  unfold W.get
  split
  · simp
  · split <;> simp
/-- how a store stands to its shard -/
def standOf (os : List Ob) (d : ByteArray) (m : Nat) (s : St) (was : Nat) : Nat := if (nmS d m, (W.get s (nmS d m)).1) = os.getD m (⟨#[]⟩, ⟨#[]⟩) then 2 else if (W.get s (nmS d m)).2 = 51 then was else 1
theorem getD_set (l : List Nat) (i m v : Nat) : (l.set i v).getD m 0 = if m = i ∧ i < l.length then v else l.getD m 0 := by
  rw [List.getD_eq_getElem?_getD, List.getD_eq_getElem?_getD, List.getElem?_set]
  by_cases h : i = m
  · subst h
    by_cases hl : i < l.length
    · rw [if_pos rfl, if_pos hl, if_pos ⟨rfl, hl⟩]; rfl
    · rw [if_pos rfl, if_neg hl, if_neg (fun h => hl h.2), List.getElem?_eq_none (by omega)]
  · rw [if_neg h, if_neg (fun e => h e.1.symm)]
theorem asked_lit (os : List Ob) (d : ByteArray) : ∀ (j i : Nat) (V : Wd) (st : List Nat), Lit V → i + j = V.l.length → st.length = V.l.length → ∃ st', askG d (anx os d) j i V st = (0, { V with calls := V.calls + j }, st') ∧ st'.length = st.length ∧ ∀ m x, V.l[m]? = some x → st'.getD m 0 = if i ≤ m then standOf os d m x.st (st.getD m 0) else st.getD m 0
  | 0, i, V, st, _, hi, _ => ⟨st, rfl, rfl, fun m x hx => by
      have := (List.getElem?_eq_some_iff.1 hx).1
      rw [if_neg (by omega)]⟩
  | j + 1, i, V, st, h, hi, hs => by
    obtain ⟨x, hx⟩ : ∃ x, V.l[i]? = some x := ⟨_, List.getElem?_eq_getElem (by omega)⟩
    obtain ⟨e1, e2⟩ := h.get hx (nmS d i)
    rw [askG_succ, e1, e2, if_neg (get_cut _ _)]
    have ha : (anx os d st i (W.get x.st (nmS d i)).1 (W.get x.st (nmS d i)).2).1 = true := rfl
    rw [ha, if_pos rfl]
    obtain ⟨st', k1, k2, k3⟩ := asked_lit os d j (i + 1) { V with calls := V.calls + 1 } (anx os d st i (W.get x.st (nmS d i)).1 (W.get x.st (nmS d i)).2).2 h (by show i + 1 + j = V.l.length; omega) (by
      show (anx os d st i _ _).2.length = V.l.length
      unfold anx
      simp only
      split
      · rw [List.length_set]; exact hs
      · split
        · exact hs
        · rw [List.length_set]; exact hs)
    refine ⟨st', by rw [k1]; show (_, ({ V with calls := V.calls + 1 + j } : Wd), _) = _; rw [show V.calls + 1 + j = V.calls + (j + 1) by omega], ?_, fun m y hy => ?_⟩
    · rw [k2]
      unfold anx
      simp only
      split
      · rw [List.length_set]
      · split
        · rfl
        · rw [List.length_set]
    · have hm := (List.getElem?_eq_some_iff.1 hy).1
      rw [k3 m y hy]
      have hst : (anx os d st i (W.get x.st (nmS d i)).1 (W.get x.st (nmS d i)).2).2.getD m 0 = if m = i then standOf os d i x.st (st.getD i 0) else st.getD m 0 := by
        unfold anx standOf
        simp only
        split
        · rw [getD_set]
          by_cases e : m = i
          · rw [if_pos ⟨e, by omega⟩, if_pos e]
          · rw [if_neg (fun h => e h.1), if_neg e]
        · split
          · by_cases e : m = i
            · rw [if_pos e, e]
            · rw [if_neg e]
          · rw [getD_set]
            by_cases e : m = i
            · rw [if_pos ⟨e, by omega⟩, if_pos e]
            · rw [if_neg (fun h => e h.1), if_neg e]
      rw [hst]
      by_cases e : m = i
      · subst e
        rw [hx] at hy
        cases hy
        rw [if_neg (by omega), if_pos rfl, if_pos (Nat.le_refl _)]
      · rw [if_neg e]
        by_cases e2 : i + 1 ≤ m
        · rw [if_pos e2, if_pos (by omega)]
        · rw [if_neg e2, if_neg (by omega)]
/-- the stores from i on are turned -/
def turned (f : Nat → St → St) (i : Nat) (l l' : List Kp) : Prop := l'.length = l.length ∧ ∀ m x, l[m]? = some x → l'[m]? = some (if i ≤ m then { x with st := f m x.st } else x)
theorem turned_set {f : Nat → St → St} {i : Nat} {l l' : List Kp} {x : Kp} (hx : l[i]? = some x) (h : turned f (i + 1) (l.set i { x with st := f i x.st }) l') : turned f i l l' := by
  have hi := (List.getElem?_eq_some_iff.1 hx).1
  refine ⟨by rw [h.1, List.length_set], fun m y hy => ?_⟩
  by_cases e : m = i
  · subst e
    rw [hx] at hy
    cases hy
    rw [h.2 m { x with st := f m x.st } (by rw [List.getElem?_set_self hi]), if_neg (by omega), if_pos (Nat.le_refl _)]
  · rw [h.2 m y (by rw [List.getElem?_set_ne (fun h => e h.symm)]; exact hy)]
    by_cases e2 : i + 1 ≤ m
    · rw [if_pos e2, if_pos (by omega)]
    · rw [if_neg e2, if_neg (by omega)]
theorem turned_nil {f : Nat → St → St} {i : Nat} {l : List Kp} (hi : l.length ≤ i) : turned f i l l := ⟨rfl, fun m x hx => by
  have := (List.getElem?_eq_some_iff.1 hx).1
  rw [if_neg (by omega)]
  exact hx⟩
theorem put_all (os : List Ob) : ∀ (j i dn : Nat) (V : Wd) (st : List Nat), Lit V → i + j = V.l.length → st.length = V.l.length → (∀ m, i ≤ m → m < V.l.length → st.getD m 0 = 1) → (∀ m x, V.l[m]? = some x → i ≤ m → (putS x.st (os.getD m (⟨#[]⟩, ⟨#[]⟩)).1 (os.getD m (⟨#[]⟩, ⟨#[]⟩)).2).1 = 0) → ∃ l' st', eachG 1 (dPut os) j i dn V st = ((dn + j, 0), { V with calls := V.calls + j, l := l' }, st') ∧ turned (fun m s => (putS s (os.getD m (⟨#[]⟩, ⟨#[]⟩)).1 (os.getD m (⟨#[]⟩, ⟨#[]⟩)).2).2) i V.l l' ∧ st'.length = st.length ∧ ∀ m, m < V.l.length → st'.getD m 0 = if i ≤ m then 2 else st.getD m 0
  | 0, i, dn, V, st, _, hi, _, _, _ => ⟨V.l, st, rfl, turned_nil (by omega), rfl, fun m hm => by rw [if_neg (by omega)]⟩
  | j + 1, i, dn, V, st, h, hi, hs, h1, h2 => by
    obtain ⟨x, hx⟩ : ∃ x, V.l[i]? = some x := ⟨_, List.getElem?_eq_getElem (by omega)⟩
    have hp := h2 i x hx (Nat.le_refl _)
    have ha := h.ask hx (fun s => putS s (os.getD i (⟨#[]⟩, ⟨#[]⟩)).1 (os.getD i (⟨#[]⟩, ⟨#[]⟩)).2)
    have hd : dPut os V st i = (0, { V with calls := V.calls + 1, l := V.l.set i { x with st := (putS x.st (os.getD i (⟨#[]⟩, ⟨#[]⟩)).1 (os.getD i (⟨#[]⟩, ⟨#[]⟩)).2).2 } }, st.set i 2) := by
      unfold dPut
      rw [ha]
      simp only [hp, if_true]
    rw [eachG_succ, if_pos (h1 i (Nat.le_refl _) (by omega)), hd, if_pos rfl]
    obtain ⟨l', st', k1, k2, k3, k4⟩ := put_all os j (i + 1) (dn + 1) { V with calls := V.calls + 1, l := V.l.set i { x with st := (putS x.st (os.getD i (⟨#[]⟩, ⟨#[]⟩)).1 (os.getD i (⟨#[]⟩, ⟨#[]⟩)).2).2 } } (st.set i 2) h (by show i + 1 + j = (V.l.set i _).length; rw [List.length_set]; omega) (by show (st.set i 2).length = (V.l.set i _).length; rw [List.length_set, List.length_set]; exact hs) (fun m hm hl => by
        rw [getD_set, if_neg (fun e => by omega)]
        exact h1 m (by omega) (by simpa using hl)) (fun m y hy hm => h2 m y (by
        have hy' : (V.l.set i { x with st := (putS x.st (os.getD i (⟨#[]⟩, ⟨#[]⟩)).1 (os.getD i (⟨#[]⟩, ⟨#[]⟩)).2).2 })[m]? = some y := hy
        rw [List.getElem?_set_ne (by omega)] at hy'
        exact hy') (by omega))
    refine ⟨l', st', ?_, turned_set hx k2, by rw [k3, List.length_set], fun m hm => ?_⟩
    · show eachG 1 (dPut os) j (i + 1) (dn + 1) _ _ = _
      rw [k1]
      show ((dn + 1 + j, (0 : Int)), ({ V with calls := V.calls + 1 + j, l := l' } : Wd), st') = _
      rw [show dn + 1 + j = dn + (j + 1) by omega, show V.calls + 1 + j = V.calls + (j + 1) by omega]
    · rw [k4 m (by show m < (V.l.set i _).length; rw [List.length_set]; exact hm), getD_set]
      by_cases e : m = i
      · subst e
        rw [if_neg (by omega), if_pos ⟨rfl, by omega⟩, if_pos (Nat.le_refl _)]
      · by_cases e2 : i + 1 ≤ m
        · rw [if_pos e2, if_pos (by omega)]
        · rw [if_neg e2, if_neg (fun h => e h.1), if_neg (by omega)]
theorem put_none (os : List Ob) : ∀ (j i dn : Nat) (V : Wd) (st : List Nat), (∀ m, i ≤ m → m < i + j → st.getD m 0 ≠ 1) → eachG 1 (dPut os) j i dn V st = ((dn, 0), V, st)
  | 0, _, _, _, _, _ => rfl
  | j + 1, i, dn, V, st, h => by
    rw [eachG_succ, if_neg (h i (Nat.le_refl _) (by omega))]
    exact put_none os j (i + 1) dn V st fun m h1 h2 => h m (by omega) (by omega)
theorem sync_all : ∀ (j i dn : Nat) (V : Wd) (st : List Nat), Lit V → i + j = V.l.length → (∀ m, i ≤ m → m < V.l.length → st.getD m 0 = 2) → (∀ m x, V.l[m]? = some x → i ≤ m → x.st.down = false) → ∃ l', eachG 2 dSync j i dn V st = ((dn + j, 0), { V with calls := V.calls + j, l := l' }, st) ∧ turned (fun _ s => { s with writes := [] }) i V.l l'
  | 0, i, dn, V, st, _, hi, _, _ => ⟨V.l, rfl, turned_nil (by omega)⟩
  | j + 1, i, dn, V, st, h, hi, h1, h2 => by
    obtain ⟨x, hx⟩ : ∃ x, V.l[i]? = some x := ⟨_, List.getElem?_eq_getElem (by omega)⟩
    have hsy : W.sync x.st = (0, { x.st with writes := [] }) := by
      unfold W.sync
      rw [if_neg (by rw [h2 i x hx (Nat.le_refl _)]; decide)]
    have hd : dSync V st i = (0, { V with calls := V.calls + 1, l := V.l.set i { x with st := { x.st with writes := [] } } }, st) := by
      unfold dSync
      rw [h.ask hx W.sync, hsy]
    rw [eachG_succ, if_pos (h1 i (Nat.le_refl _) (by omega)), hd, if_pos rfl]
    obtain ⟨l', k1, k2⟩ := sync_all j (i + 1) (dn + 1) { V with calls := V.calls + 1, l := V.l.set i { x with st := { x.st with writes := [] } } } st h (by show i + 1 + j = (V.l.set i _).length; rw [List.length_set]; omega) (fun m hm hl => h1 m (by omega) (by simpa using hl)) (fun m y hy hm => h2 m y (by
      have hy' : (V.l.set i { x with st := { x.st with writes := [] } })[m]? = some y := hy
      rw [List.getElem?_set_ne (by omega)] at hy'
      exact hy') (by omega))
    refine ⟨l', ?_, turned_set (f := fun _ s => { s with writes := [] }) hx k2⟩
    show eachG 2 dSync j (i + 1) (dn + 1) _ _ = _
    rw [k1]
    show ((dn + 1 + j, (0 : Int)), ({ V with calls := V.calls + 1 + j, l := l' } : Wd), st) = _
    rw [show dn + 1 + j = dn + (j + 1) by omega, show V.calls + 1 + j = V.calls + (j + 1) by omega]
end Go.Proofs.YtffhobkoagnhhaaGreatDoor
/- Stripe, no program: a blob written into new stores, and written again. -/
namespace Go.Proofs.YtffhobkoagnhhaaGreatDoor
open Go.RowKit Go.Maps
open W
/-- the bytes of a blob's shard -/
def shD (K N : Int) (bl : List Nat) (m : Nat) : ByteArray := H.ofBs (H.dat K.toNat N.toNat m (H.bs (dig bl)) (C.payL K.toNat bl m))
theorem dat_length (k n j : Nat) (d p : List Nat) : (H.dat k n j d p).length = 43 + d.length + p.length := by
  unfold H.dat H.pre H.be4
  simp only [List.length_append, List.length_cons, List.length_nil, H.digest_length]
  omega
theorem dig_len (bl : List Nat) : (dig bl).size = 32 := by
  unfold dig
  rw [H.ofBs_size, H.digest_length]
theorem sz_small {k n : Nat} (hk : 1 ≤ k) (hn : n ≤ 32768) : C.sz k n ≤ 32776 := by
  have h := (C.sz_facts k n hk).2.1
  have : C.sz k n ≤ k * C.sz k n := Nat.le_mul_of_pos_left _ (by omega)
  by_cases h2 : C.sz k n ≤ 32776
  · exact h2
  · exfalso
    have h3 : k * 32777 ≤ k * C.sz k n := Nat.mul_le_mul_left k (by omega)
    have h4 : 8 + n + k ≤ k * 32777 := by
      have : k * 32777 = k * 32776 + k := by omega
      have h5 : 1 * 32776 ≤ k * 32776 := Nat.mul_le_mul_right _ hk
      omega
    omega
theorem shD_size (K N : Int) (bl : List Nat) (m : Nat) : (shD K N bl m).size = 75 + C.sz K.toNat bl.length := by
  unfold shD
  rw [H.ofBs_size, dat_length, H.bs_length, dig_len, C.payL_length]
variable {K N : Int} {bl : List Nat}
theorem obs_is (hm : C.Mx.mayC K N = true) (hb : bl.length ≤ 32768) {m : Nat} (hmn : (m : Int) < N) : (obsOf K N bl).getD m (⟨#[]⟩, ⟨#[]⟩) = (nmS (dig bl) m, shD K N bl m) := by
  have hKN : 1 ≤ K ∧ K ≤ N ∧ N ≤ 12 := by simpa [C.Mx.mayC] using hm
  have hok : C.okE K N bl = true := by unfold C.okE; rw [hm, decide_eq_true hb]; rfl
  have hps : C.ansE K N bl = C.encL K.toNat N.toNat bl := by unfold C.ansE; rw [if_pos hok]
  have hlen : (C.ansE K N bl).length = N.toNat := by rw [hps, C.encL_length]
  have hp : (C.ansE K N bl).getD m [] = C.payL K.toNat bl m := by rw [hps]; exact C.encL_get _ _ _ _ (by omega)
  have hg : (obsOf K N bl).getD m (⟨#[]⟩, ⟨#[]⟩) = shOb K N (dig bl) (C.ansE K N bl) m := by
    unfold obsOf objsOf
    rw [List.getD_eq_getElem?_getD, List.getElem?_map, List.getElem?_range (by omega)]
    rfl
  have hpz : (C.ofBs (C.payL K.toNat bl m)).size = C.sz K.toNat bl.length := by rw [show (C.ofBs (C.payL K.toNat bl m)).size = _ from H.ofBs_size _, C.payL_length]
  have hE : H.mkE K N (dig bl) (m : Int) (C.ofBs (C.payL K.toNat bl m)) = 0 := by
    unfold H.mkE H.okS H.okC
    rw [decide_eq_true hKN.1, decide_eq_true hKN.2.1, decide_eq_true hKN.2.2, decide_eq_true (dig_len bl), decide_eq_true (show 0 ≤ (m : Int) by omega), decide_eq_true hmn]
    have := sz_small (k := K.toNat) (n := bl.length) (by omega) hb
    rw [if_pos (show (true && true && true && true && (true && true)) = true from rfl), if_pos (by rw [hpz]; omega)]
  rw [hg]
  unfold shOb
  rw [hp]
  unfold H.mkN H.mkD
  rw [if_pos hE, if_pos hE, show H.bs (C.ofBs (C.payL K.toNat bl m)) = C.payL K.toNat bl m from H.bs_ofBs _ (C.payL_lt _ _ _), Int.toNat_natCast]
  rfl
theorem nmS_len (d : ByteArray) (hd : d.size = 32) (m : Nat) (hm : m < 1000) : 0 < (nmS d m).size ∧ (nmS d m).size ≤ 86 := by
  unfold nmS H.nm
  have h1 := H.dec_length (m : Int) (by omega) (by omega)
  rw [H.ofBs_size]
  simp only [List.length_append, H.hex_length, H.bs_length, List.length_singleton, hd]
  omega
/-- a store that answers, refuses nothing and has room -/
def Free (s : St) : Prop := s.down = false ∧ s.refuse = none ∧ s.room = none
theorem put_free {s : St} (h : Free s) {n d : ByteArray} (hb : badName n d = false) : putS s n d = (0, { s with live := true, seen := W.put (n, d) s.seen, writes := s.writes ++ [⟨n, W.look n s.seen, some d⟩] }) := by
  obtain ⟨h1, h2, h3⟩ := h
  unfold putS tried counted over
  rw [if_neg (by rw [hb]; decide), if_neg (by rw [h1]; decide), h3]
  simp [h2, h3, setC]
theorem badName_not (hd : (dig bl).size = 32) (hb : bl.length ≤ 32768) (hK : 1 ≤ K) {m : Nat} (hm : m < 12) : badName (nmS (dig bl) m) (shD K N bl m) = false := by
  have h1 : 0 < (nmS (dig bl) m).size ∧ (nmS (dig bl) m).size ≤ 80 := by
    refine ⟨(nmS_len (dig bl) hd m (by omega)).1, ?_⟩
    have hdl : (H.dec (m : Int)).length ≤ 2 := by
      have : m = 0 ∨ m = 1 ∨ m = 2 ∨ m = 3 ∨ m = 4 ∨ m = 5 ∨ m = 6 ∨ m = 7 ∨ m = 8 ∨ m = 9 ∨ m = 10 ∨ m = 11 := by omega
      rcases this with rfl | rfl | rfl | rfl | rfl | rfl | rfl | rfl | rfl | rfl | rfl | rfl <;> decide +kernel
    unfold nmS H.nm
    rw [H.ofBs_size]
    simp only [List.length_append, H.hex_length, H.bs_length, List.length_singleton, hd]
    omega
  have h2 := shD_size K N bl m
  have h3 := sz_small (k := K.toNat) (n := bl.length) (by omega) hb
  unfold badName
  rw [decide_eq_false (by omega), decide_eq_false (by omega), decide_eq_false (by omega)]
  rfl
theorem cnt_all (st : List Nat) (so : Nat) : ∀ k, (∀ m, m < k → st.getD m 0 = so) → cnt st so k = k
  | 0, _ => rfl
  | k + 1, h => by
    unfold cnt
    rw [cnt_all st so k (fun m hm => h m (by omega)), if_pos (h k (by omega))]
/-- the store that holds its shard, synced -/
def held (K N : Int) (bl : List Nat) (m : Nat) : St := ⟨[(nmS (dig bl) m, shD K N bl m)], [], false, none, none, true⟩
variable {V : Wd}
/-- a blob written into new stores -/
theorem write_fresh (hl : Lit V) (hm : C.Mx.mayC K N = true) (hN : N = (V.l.length : Int)) (hb : bl.length ≤ 32768) (hs : ∀ (m : Nat) (x : Kp), V.l[m]? = some x → x.st = st0) : ∃ l' : List Kp, wrG V K N bl = ((dig bl, 0), { V with calls := V.calls + 3 * V.l.length, l := l' }) ∧ l'.length = V.l.length ∧ ∀ (m : Nat) (x : Kp), V.l[m]? = some x → l'[m]? = some { x with st := held K N bl m } := by
  have hKN : 1 ≤ K ∧ K ≤ N ∧ N ≤ 12 := by simpa [C.Mx.mayC] using hm
  have hF : fitE V K N = 0 := by unfold fitE; rw [if_pos ⟨hm, hN⟩]
  have hE : C.errE K N bl = 0 := by unfold C.errE; rw [if_pos hm, if_pos hb]
  have hol : (obsOf K N bl).length = V.l.length := by
    have hok : C.okE K N bl = true := by unfold C.okE; rw [hm, decide_eq_true hb]; rfl
    unfold obsOf C.ansE
    rw [objsOf_len, if_pos hok, C.encL_length]
    omega
  have hob : ∀ m, m < V.l.length → (obsOf K N bl).getD m (⟨#[]⟩, ⟨#[]⟩) = (nmS (dig bl) m, shD K N bl m) := fun m h => obs_is hm hb (by omega)
  have hbad : ∀ m, m < V.l.length → badName (nmS (dig bl) m) (shD K N bl m) = false := fun m h => badName_not (dig_len bl) hb hKN.1 (by omega)
  -- asked
  obtain ⟨st, a1, a2, a3⟩ := asked_lit (obsOf K N bl) (dig bl) V.l.length 0 V (List.replicate (obsOf K N bl).length 0) hl (by omega) (by rw [List.length_replicate]; exact hol)
  have hA : askedG V (obsOf K N bl) (dig bl) = (0, { V with calls := V.calls + V.l.length }, st) := a1
  have hsl : st.length = V.l.length := by rw [a2, List.length_replicate, hol]
  have hst : ∀ m, m < V.l.length → st.getD m 0 = 1 := fun m h => by
    obtain ⟨x, hx⟩ : ∃ x, V.l[m]? = some x := ⟨_, List.getElem?_eq_getElem h⟩
    rw [a3 m x hx, if_pos (Nat.zero_le _), hs m x hx]
    unfold standOf
    have hg : W.get st0 (nmS (dig bl) m) = (⟨#[]⟩, 5) := rfl
    rw [hg, hob m h, if_neg (fun e => by
      have e2 := congrArg (fun p : Ob => p.2.size) e
      simp only at e2
      rw [shD_size] at e2
      have : (⟨#[]⟩ : ByteArray).size = 0 := rfl
      omega), if_neg (by decide)]
  -- put
  obtain ⟨l2, st2, p1, p2, p3, p4⟩ := put_all (obsOf K N bl) V.l.length 0 0 { V with calls := V.calls + V.l.length } st hl (by show 0 + V.l.length = V.l.length; omega) hsl (fun m _ h => hst m h) (fun m x hx _ => by
    have hx' : V.l[m]? = some x := hx
    have h := (List.getElem?_eq_some_iff.1 hx').1
    rw [hob m h, hs m x hx', put_free ⟨rfl, rfl, rfl⟩ (hbad m h)])
  have hst2 : ∀ m, m < V.l.length → st2.getD m 0 = 2 := fun m h => by rw [p4 m h, if_pos (Nat.zero_le _)]
  have hl2 : l2.length = V.l.length := p2.1
  have hput : ∀ (m : Nat) (x : Kp), V.l[m]? = some x → l2[m]? = some { x with st := ⟨[(nmS (dig bl) m, shD K N bl m)], [⟨nmS (dig bl) m, none, some (shD K N bl m)⟩], false, none, none, true⟩ } := fun m x hx => by
    have h := (List.getElem?_eq_some_iff.1 hx).1
    rw [p2.2 m x hx, if_pos (Nat.zero_le _)]
    simp only
    rw [hob m h, hs m x hx, put_free ⟨rfl, rfl, rfl⟩ (hbad m h)]
    rfl
  -- sync
  obtain ⟨l3, s1, s2⟩ := sync_all V.l.length 0 0 { V with calls := V.calls + V.l.length + V.l.length, l := l2 } st2 hl (by show 0 + V.l.length = l2.length; omega) (fun m _ h => hst2 m (by rw [← hl2]; exact h)) (fun m y hy _ => by
    have hy' : l2[m]? = some y := hy
    have h := (List.getElem?_eq_some_iff.1 hy').1
    obtain ⟨x, hx⟩ : ∃ x, V.l[m]? = some x := ⟨_, List.getElem?_eq_getElem (by omega)⟩
    rw [hput m x hx] at hy'
    cases hy'
    rfl)
  refine ⟨l3, ?_, by rw [s2.1]; exact hl2, fun m x hx => ?_⟩
  · have hW : writG V K (obsOf K N bl) (dig bl) = (0, { V with calls := V.calls + V.l.length + V.l.length + V.l.length, l := l3 }) := by
      unfold writG
      rw [hA, if_neg (by simp)]
      unfold writP
      simp only
      rw [hol, if_neg (by
        rw [cnt_all st 1 _ hst]
        have := cnt_le st 2 V.l.length
        omega), p1, if_neg (by simp), if_neg (by
        simp only
        rw [cnt_all st2 2 _ hst2]
        omega)]
      simp only
      rw [s1]
      unfold synE
      rw [if_neg (by simp only; omega)]
    unfold wrG
    rw [hF, hE, if_neg (by simp), if_neg (by simp), hW, if_neg (by simp)]
    simp only
    rw [show V.calls + V.l.length + V.l.length + V.l.length = V.calls + 3 * V.l.length by omega]
  · have := s2.2 m _ (hput m x hx)
    rw [this, if_pos (Nat.zero_le _)]
    rfl
/-- written again, where all stores hold it: asked and synced alone -/
theorem write_again (hl : Lit V) (hm : C.Mx.mayC K N = true) (hN : N = (V.l.length : Int)) (hb : bl.length ≤ 32768) (hs : ∀ (m : Nat) (x : Kp), V.l[m]? = some x → x.st = held K N bl m) : ∃ l' : List Kp, wrG V K N bl = ((dig bl, 0), { V with calls := V.calls + 2 * V.l.length, l := l' }) ∧ l'.length = V.l.length ∧ ∀ (m : Nat) (x : Kp), V.l[m]? = some x → l'[m]? = some x := by
  have hKN : 1 ≤ K ∧ K ≤ N ∧ N ≤ 12 := by simpa [C.Mx.mayC] using hm
  have hF : fitE V K N = 0 := by unfold fitE; rw [if_pos ⟨hm, hN⟩]
  have hE : C.errE K N bl = 0 := by unfold C.errE; rw [if_pos hm, if_pos hb]
  have hol : (obsOf K N bl).length = V.l.length := by
    have hok : C.okE K N bl = true := by unfold C.okE; rw [hm, decide_eq_true hb]; rfl
    unfold obsOf C.ansE
    rw [objsOf_len, if_pos hok, C.encL_length]
    omega
  have hob : ∀ m, m < V.l.length → (obsOf K N bl).getD m (⟨#[]⟩, ⟨#[]⟩) = (nmS (dig bl) m, shD K N bl m) := fun m h => obs_is hm hb (by omega)
  obtain ⟨st, a1, a2, a3⟩ := asked_lit (obsOf K N bl) (dig bl) V.l.length 0 V (List.replicate (obsOf K N bl).length 0) hl (by omega) (by rw [List.length_replicate]; exact hol)
  have hA : askedG V (obsOf K N bl) (dig bl) = (0, { V with calls := V.calls + V.l.length }, st) := a1
  have hst : ∀ m, m < V.l.length → st.getD m 0 = 2 := fun m h => by
    obtain ⟨x, hx⟩ : ∃ x, V.l[m]? = some x := ⟨_, List.getElem?_eq_getElem h⟩
    rw [a3 m x hx, if_pos (Nat.zero_le _), hs m x hx]
    unfold standOf
    have hg : W.get (held K N bl m) (nmS (dig bl) m) = (shD K N bl m, 0) := by
      unfold W.get held
      simp [W.look]
    rw [hg, hob m h, if_pos rfl]
  have p1 := put_none (obsOf K N bl) V.l.length 0 0 { V with calls := V.calls + V.l.length } st (fun m _ h => by rw [hst m (by omega)]; decide)
  obtain ⟨l3, s1, s2⟩ := sync_all V.l.length 0 0 { V with calls := V.calls + V.l.length } st hl (by show 0 + V.l.length = V.l.length; omega) (fun m _ h => hst m h) (fun m y hy _ => by
    have hy' : V.l[m]? = some y := hy
    rw [hs m y hy']
    rfl)
  refine ⟨l3, ?_, s2.1, fun m x hx => ?_⟩
  · have hW : writG V K (obsOf K N bl) (dig bl) = (0, { V with calls := V.calls + V.l.length + V.l.length, l := l3 }) := by
      unfold writG
      rw [hA, if_neg (by simp)]
      unfold writP
      simp only
      rw [hol, if_neg (by
        rw [cnt_all st 2 _ hst]
        have := cnt_le st 1 V.l.length
        omega), p1, if_neg (by simp), if_neg (by
        simp only
        rw [cnt_all st 2 _ hst]
        omega)]
      simp only
      rw [s1]
      unfold synE
      rw [if_neg (by simp only; omega)]
    unfold wrG
    rw [hF, hE, if_neg (by simp), if_neg (by simp), hW, if_neg (by simp)]
    simp only
    rw [show V.calls + V.l.length + V.l.length = V.calls + 2 * V.l.length by omega]
  · have := s2.2 m x hx
    rw [this, if_pos (Nat.zero_le _)]
    have hh := hs m x hx
    obtain ⟨blk, s, u⟩ := x
    simp only at hh
    rw [hh]
    rfl
end Go.Proofs.YtffhobkoagnhhaaGreatDoor
