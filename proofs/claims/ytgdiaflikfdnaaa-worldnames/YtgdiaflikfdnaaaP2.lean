/- The contracts of the store's functions: what is told of it, what is set. -/
import Derived.Test.YtgdiaflikfdnaaaP1
namespace Go.Proofs.Ytgdiaflikfdnaaa
open Go.RowKit Go.Maps
theorem str_eq (a b : ByteArray) : (a.toList == b.toList) = decide (a = b) := by
  rw [Lib.toList_data, Lib.toList_data, Bool.eq_iff_iff]
  simp only [beq_iff_eq, decide_eq_true_eq]
  exact ⟨ba_ext, fun h => by rw [h]⟩
def m0 : ByteArray := ⟨#[109, 48]⟩
def m1 : ByteArray := ⟨#[109, 49]⟩
def isMan (n : ByteArray) : Bool := decide (n = m0) || decide (n = m1)
set_option maxRecDepth 20000 in
theorem isMan_any (n : ByteArray) (w : World) : Calls Try.prog 57 #[.string n] w fun e w' => e = .returned (.bool (isMan n)) ∧ w' = w := by
  have q0 : (n.toList == [109, 48]) = decide (n = m0) := by have := str_eq n m0; rw [Lib.toList_data m0] at this; exact this
  have q1 : (n.toList == [109, 49]) = decide (n = m1) := by have := str_eq n m1; rw [Lib.toList_data m1] at this; exact this
  unfold isMan
  generalize decide (n = m1) = x at *
  generalize decide (n = m0) = y at *
  cases y <;> cases x
  all_goals
    go_enter Try.func57, Try.ntmps57
    go_wp2_with fail
    go_ret
    exact ⟨rfl, rfl⟩
set_option maxRecDepth 20000 in
theorem clone_any (s : ByteArray) (w : World) (hs : s.size ≤ 281474976710656) : Calls Try.prog 60 #[.string s] w fun e w' => e = .returned (.string s) ∧ Below w.heap.size w w' := by
  go_enter Try.func60, Try.ntmps60
  go_wp2_with fail
  refine (Try.stringslite_Clone s w hs).mono ?_
  rintro e w1 ⟨rfl, hb⟩
  go_wp2_with fail
  go_ret
  exact ⟨rfl, hb⟩
set_option maxRecDepth 20000 in
theorem up_any {w : World} {S : Nat → Prop} {b : Nat} {s : St} (h : IsSt w S b s) : Calls Try.prog 39 #[ptr b] w fun e w' => e = .returned (.bool (!s.down)) ∧ w' = w := by
  obtain ⟨mo, wv, ⟨c0, c1, c2, c3, c4, c5, c6⟩, _, _, hf⟩ := h.cells
  clear h hf
  unfold ptr
  go_enter Try.func39, Try.ntmps39
  go_wp2_with fail
  go_ret
  exact ⟨rfl, rfl⟩
set_option maxRecDepth 20000 in
theorem up_nil (w : World) : Calls Try.prog 39 #[.pointer none] w fun e w' => e = .returned (.bool false) ∧ w' = w := by
  go_enter Try.func39, Try.ntmps39
  go_wp2_with fail
  go_ret
  exact ⟨rfl, rfl⟩
set_option maxRecDepth 20000 in
theorem sound_any {w : World} {S : Nat → Prop} {b : Nat} {s : St} (h : IsSt w S b s) : Calls Try.prog 22 #[ptr b] w fun e w' => e = .returned (.bool (!s.down && s.refuse.isNone)) ∧ w' = w := by
  have hu := up_any h
  obtain ⟨mo, wv, ⟨c0, c1, c2, c3, c4, c5, c6⟩, _, _, hf⟩ := h.cells
  clear h hf
  unfold ptr at hu ⊢
  generalize s.down = x at *
  have e : s.refuse.isNone = !s.refuse.isSome := by cases s.refuse <;> rfl
  rw [e]
  generalize s.refuse.isSome = y at *
  clear e
  cases x
  · go_enter Try.func22, Try.ntmps22
    go_wp2_with fail
    refine hu.mono ?_
    rintro e w1 ⟨rfl, rfl⟩
    go_wp2_with fail
    go_ret
    exact ⟨rfl, rfl⟩
  · go_enter Try.func22, Try.ntmps22
    go_wp2_with fail
    refine hu.mono ?_
    rintro e w1 ⟨rfl, rfl⟩
    go_wp2_with fail
    go_ret
    exact ⟨rfl, rfl⟩
set_option maxRecDepth 20000 in
theorem sound_nil (w : World) : Calls Try.prog 22 #[.pointer none] w fun e w' => e = .returned (.bool false) ∧ w' = w := by
  go_enter Try.func22, Try.ntmps22
  go_wp2_with fail
  refine (up_nil w).mono ?_
  rintro e w1 ⟨rfl, rfl⟩
  go_wp2_with fail
  go_ret
  exact ⟨rfl, rfl⟩
/-- an error -/
def er (n : Int) : Value := .int .i64 n
/-- Sync -/
def sync (s : St) : Int × St := if s.down then (51, s) else (0, { s with writes := [] })
set_option maxRecDepth 20000 in
theorem sync_any {w : World} {S : Nat → Prop} {b : Nat} {s : St} (h : IsSt w S b s) : Calls Try.prog 37 #[ptr b] w fun e w' => e = .returned (er (sync s).1) ∧ After w w' S b (sync s).2 := by
  have hS := settle_any h
  have hR := hid (After.refl h)
  obtain ⟨mo, wv, ⟨c0, c1, c2, c3, c4, c5, c6⟩, _, _, hf⟩ := h.cells
  clear h hf
  unfold ptr at hS ⊢
  unfold sync er
  cases hd : s.down with
  | true =>
    rw [hd] at c2
    clear hd hS
    go_enter Try.func37, Try.ntmps37
    go_wp2_with fail
    go_ret
    exact ⟨rfl, hR.out⟩
  | false =>
    rw [hd] at c2
    clear hR
    go_enter Try.func37, Try.ntmps37
    go_wp2_with fail
    refine hS.mono ?_
    rintro e w1 ⟨rfl, hA⟩
    rw [hd] at hA
    have HA := hid hA
    clear hA hd
    go_wp2_with fail
    go_ret
    exact ⟨rfl, HA.out⟩
set_option maxRecDepth 20000 in
theorem sync_nil (w : World) : Calls Try.prog 37 #[.pointer none] w fun e w' => e = .returned (er 2) ∧ w' = w := by
  go_enter Try.func37, Try.ntmps37
  go_wp2_with fail
  go_ret
  exact ⟨rfl, rfl⟩
theorem info67 : (Try.prog.info? 85).map (·.size) = some 2 := by kernel_rfl
theorem info28 : (Try.prog.info? 33).map (·.size) = some 2 := by kernel_rfl
/-- a result that lies in memory -/
theorem ret_one {fn : Func} {a : Act} {W : World} {b : Nat} {cs : List Value} {ty : TypeId} {p : Tmp} {d : TypeDesc} {Q : Ending → World → Prop}
    (hf : fn.results = #[.cell p ty]) (hp : a.tmps.getD p undef = .pointer (some ⟨b, 0, none⟩)) (hd : a.defers = []) (hc : W.rangeAt b 0 cs)
    (hu : Try.prog.underlying ty = some d) (hr : d.isRow = true) (hi : (Try.prog.info? ty).map (·.size) = some cs.length) (hQ : Q (.returned (.agg cs.toArray)) W) : bodyPost Try.prog fn Q Exit.ret a W := by
  refine bodyPost_ret (v := .agg cs.toArray) ?_ hd hQ
  rw [results_one_cell hf]
  exact ret_row hp hc hu hr hi
theorem Has.ranged {w : World} {b : Nat} {cs : List Value} {t : TypeId} (h : Has w b cs.toArray t) : w.rangeAt b 0 cs := by simpa using h.range
/-- what survives of it -/
def begun (c : Option ByteArray) (k : Nat) : Option ByteArray := c.map fun d => if k < d.size then d.extract 0 k else d
theorem begun_cv (c : Option ByteArray) (k : Nat) : ((begun c k).getD ⟨#[]⟩) = (if k < (c.getD ⟨#[]⟩).size then (c.getD ⟨#[]⟩).extract 0 k else c.getD ⟨#[]⟩) ∧ (begun c k).isSome = c.isSome := by
  cases c with
  | none => exact ⟨(if_neg (Nat.not_lt_zero k)).symm, rfl⟩
  | some d => exact ⟨rfl, rfl⟩
theorem two_cells {W : World} {b : Nat} {u v : Value} {t : TypeId} (h : Has W b #[u, v] t) : W.cell? ⟨b, 0, none⟩ = some u ∧ W.cell? ⟨b, 1, none⟩ = some v ∧ W.frozen? ⟨b, 0, none⟩ = false ∧ W.frozen? ⟨b, 1, none⟩ = false :=
  ⟨h.cell 0, h.cell 1, h.frozen 0, h.frozen 1⟩
theorem two_put {W : World} {b : Nat} {x y : Value} {t : TypeId} (h : Has W b #[x, y] t) (x' y' : Value) : Has ((W.setCell ⟨b, 0, none⟩ x').setCell ⟨b, 1, none⟩ y') b #[x', y'] t := by
  have := (h.set 0 x').set 1 y'
  simpa using this
set_option maxRecDepth 20000 in
theorem begin_any (c : Option ByteArray) (k : Nat) (w : World) (hc : (c.getD ⟨#[]⟩).size ≤ 1000000) : Calls Try.prog 52 #[cv c, .int .i64 (k : Int)] w fun e w' => e = .returned (cv (begun c k)) ∧ Below w.heap.size w w' := by
  obtain ⟨e1, e2⟩ := begun_cv c k
  unfold cv
  rw [e1, e2]
  generalize c.isSome = x at *
  generalize c.getD ⟨#[]⟩ = d at *
  clear e1 e2
  have A1 : Has ((w.alloc (.cells #[.bool x, .string d] 85)).alloc (.cells #[.bool false, .string ⟨#[]⟩] 85)) w.heap.size #[.bool x, .string d] 85 := (Has.new _ _ _ _ rfl).alloc _
  have A2 : Has ((w.alloc (.cells #[.bool x, .string d] 85)).alloc (.cells #[.bool false, .string ⟨#[]⟩] 85)) (w.heap.size + 1) #[.bool false, .string ⟨#[]⟩] 85 := Has.new _ _ _ _ (by simp)
  have A3 : Below w.heap.size w ((w.alloc (.cells #[.bool x, .string d] 85)).alloc (.cells #[.bool false, .string ⟨#[]⟩] 85)) := ((Below.refl _ _).alloc (Nat.le_refl _) _).alloc (by simp) _
  by_cases hk : k < d.size
  · have q1 : (k : Int) < (d.size : Int) := by omega
    have q2 : (k : Int) ≤ (d.size : Int) := by omega
    rw [if_pos hk]
    go_enter Try.func52, Try.ntmps52
    go_wp2_with fail
    refine (clone_any _ _ ?_).mono ?_
    · simp; omega
    rintro e w1 ⟨rfl, hb⟩
    have B1 := A1.below hb A1.lt
    have B2 := A2.below hb A2.lt
    have B3 := hid (A3.trans (hb.mono (by simp; omega)))
    obtain ⟨p0, p1, p2, p3⟩ := two_cells B1
    obtain ⟨r0, r1, r2, r3⟩ := two_cells B2
    have C1 := B1.set 1 (.string (d.extract 0 k))
    have C2 := B2.other ⟨w.heap.size, 1, none⟩ (.string (d.extract 0 k)) (by simp)
    have D1 := hid (two_put C2 (.bool x) (.string (d.extract 0 k)))
    clear A1 A2 A3 hb B1 B2 C1 C2
    go_wp2_with fail
    refine ret_one (b := w.heap.size + 1) (cs := [.bool x, .string (d.extract 0 k)]) rfl rfl rfl D1.out.ranged Try.underlying85 rfl info67 ⟨rfl, ?_⟩
    exact ((B3.out.setCell (Nat.le_refl _) _).setCell (p := ⟨w.heap.size + 1, 0, none⟩) (by simp) _).setCell (p := ⟨w.heap.size + 1, 1, none⟩) (by simp) _
  · have q1 : ¬ (k : Int) < (d.size : Int) := by omega
    rw [if_neg hk]
    obtain ⟨p0, p1, p2, p3⟩ := two_cells A1
    obtain ⟨r0, r1, r2, r3⟩ := two_cells A2
    clear A1 A2 A3
    go_enter Try.func52, Try.ntmps52
    go_wp2_with fail
    refine ret_one (b := w.heap.size + 1) (cs := [.bool x, .string d]) rfl rfl rfl (Has.new (w.alloc (.cells #[.bool x, .string d] 85)) (w.heap.size + 1) #[.bool x, .string d] 85 (by simp)).ranged Try.underlying85 rfl info67 ⟨rfl, ?_⟩
    exact ((Below.refl _ _).alloc (Nat.le_refl _) _).alloc (by simp) _
end Go.Proofs.Ytgdiaflikfdnaaa
