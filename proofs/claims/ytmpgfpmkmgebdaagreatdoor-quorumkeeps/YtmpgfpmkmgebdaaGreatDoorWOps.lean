/- The contracts of the store's small functions. -/
import Derived.Test.YtmpgfpmkmgebdaaGreatDoorWSt
namespace Go.Proofs.YtmpgfpmkmgebdaaGreatDoor.W
open Go.RowKit Go.Maps
def st0 : St := ⟨[], [], false, none, none, false⟩
def ptr (b : Nat) : Value := .pointer (some ⟨b, 0, none⟩)
theorem hid {p : Prop} (h : p) : Hid p := h
set_option maxRecDepth 20000 in
theorem new_any (w : World) : Calls Tryz.prog 22 #[] w fun e w' => ∃ b S, e = .returned (ptr b) ∧ IsSt w' S b st0 ∧ (∀ i, S i → w.heap.size ≤ i) ∧ Below w.heap.size w w' := by
  go_enter Tryz.func22, Tryz.ntmps22
  go_wp2_with fail
  go_ret
  refine ⟨w.heap.size, fun i => i = w.heap.size, rfl, ⟨none, .slice none 0 0, Has.new _ _ _ _ rfl, rfl, World.ownsRow_nil _ _ _ _, rfl, fun m hm => by simp at hm, fun g hg => by simp [Value.ownBlock] at hg, fun i hi => by simp [hi], rfl⟩, fun i hi => by omega, (Below.refl _ _).alloc (Nat.le_refl _) _⟩
set_option maxRecDepth 20000 in
theorem settle_any {w : World} {S : Nat → Prop} {b : Nat} {s : St} (h : IsSt w S b s) : Calls Tryz.prog 54 #[ptr b] w fun e w' => e = .returned (.tuple #[]) ∧ After w w' S b { s with writes := [] } := by
  have hA := hid (After.settle h)
  obtain ⟨mo, wv, h1, _⟩ := h
  obtain ⟨c0, c1, c2, c3, c4, c5, c6⟩ := scells_cell h1
  have f1 := h1.frozen 1
  clear h1
  unfold ptr
  go_enter Tryz.func54, Tryz.ntmps54
  go_wp2_with fail
  go_end0
  exact ⟨rfl, hA.out⟩
/-- a fault, as a value -/
def fv (k s n a c : Int) : Value := .agg #[.int .u8 k, .int .i64 s, .int .i64 n, .int .i64 a, .int .i64 c]
theorem st_down {w : World} {S : Nat → Prop} {b : Nat} {s : St} (h : IsSt w S b s) (x : Bool) : After w (w.setCell ⟨b, 2, none⟩ (.bool x)) S b { s with down := x } := After.turn h 2 _ _ ⟨rfl, rfl, rfl⟩ fun _ _ => rfl
theorem st_refuse {w : World} {S : Nat → Prop} {b : Nat} {s : St} (h : IsSt w S b s) (n : Nat) : After w ((w.setCell ⟨b, 3, none⟩ (.bool true)).setCell ⟨b, 4, none⟩ (.int .i64 (n : Int))) S b { s with refuse := some n } :=
  (After.turn h 3 (.bool true) { s with refuse := some (s.refuse.getD 0) } ⟨rfl, rfl, rfl⟩ fun _ _ => rfl).then fun _ h' => After.turn h' 4 _ _ ⟨rfl, rfl, rfl⟩ fun _ _ => rfl
theorem st_room {w : World} {S : Nat → Prop} {b : Nat} {s : St} (h : IsSt w S b s) (n : Nat) : After w ((w.setCell ⟨b, 5, none⟩ (.bool true)).setCell ⟨b, 6, none⟩ (.int .i64 (n : Int))) S b { s with room := some n } :=
  (After.turn h 5 (.bool true) { s with room := some (s.room.getD 0) } ⟨rfl, rfl, rfl⟩ fun _ _ => rfl).then fun _ h' => After.turn h' 6 _ _ ⟨rfl, rfl, rfl⟩ fun _ _ => rfl
theorem st_refused {w : World} {S : Nat → Prop} {b : Nat} {s : St} (h : IsSt w S b s) (hs : s.refuse = some 0) : After w ((w.setCell ⟨b, 3, none⟩ (.bool false)).setCell ⟨b, 4, none⟩ (.int .i64 0)) S b { s with refuse := none } :=
  (After.turn h 3 (.bool false) { s with refuse := none } ⟨rfl, rfl, rfl⟩ fun _ _ => by simp [scells, hs]).then fun _ h' => After.turn h' 4 _ _ ⟨rfl, rfl, rfl⟩ fun _ _ => rfl
theorem st_counted {w : World} {S : Nat → Prop} {b : Nat} {s : St} (h : IsSt w S b s) (n : Nat) (hs : s.refuse = some (n + 1)) : After w (w.setCell ⟨b, 4, none⟩ (.int .i64 (n : Int))) S b { s with refuse := some n } :=
  After.turn h 4 _ _ ⟨rfl, rfl, rfl⟩ fun _ _ => by simp [scells, hs]
theorem boxed (w : World) (o : Obj) : Below w.heap.size w (w.alloc o) := (Below.refl _ _).alloc (Nat.le_refl _) _
/-- what the walk wants of a store -/
theorem IsSt.cells {w : World} {S : Nat → Prop} {b : Nat} {s : St} (h : IsSt w S b s) : ∃ mo wv, (w.cell? ⟨b, 0, none⟩ = some (.map mo) ∧ w.cell? ⟨b, 1, none⟩ = some wv ∧ w.cell? ⟨b, 2, none⟩ = some (.bool s.down) ∧ w.cell? ⟨b, 3, none⟩ = some (.bool s.refuse.isSome) ∧ w.cell? ⟨b, 4, none⟩ = some (.int .i64 ((s.refuse.getD 0 : Nat) : Int)) ∧ w.cell? ⟨b, 5, none⟩ = some (.bool s.room.isSome) ∧ w.cell? ⟨b, 6, none⟩ = some (.int .i64 ((s.room.getD 0 : Nat) : Int))) ∧ MapV w mo s.seen ∧ w.ownsRow 0 122 5 wv s.writes.length (s.writes.flatMap wcells) ∧ (∀ i, w.frozen? ⟨b, i, none⟩ = false) := by
  obtain ⟨mo, wv, h1, h2, h3, _⟩ := h
  exact ⟨mo, wv, scells_cell h1, h2, h3, h1.frozen⟩
set_option maxRecDepth 20000 in
theorem goDown_any {w : World} {S : Nat → Prop} {b : Nat} {s : St} (h : IsSt w S b s) (k t n a c : Int) : Calls Tryz.prog 90 #[ptr b, fv k t n a c] w fun e w' => e = .returned (.tuple #[]) ∧ After w w' S b { s with down := true } := by
  have h' := h.below (boxed w (.cells #[.int .u8 k, .int .i64 t, .int .i64 n, .int .i64 a, .int .i64 c] 43))
  have hA := hid ((st_down h' true).front (boxed _ _))
  obtain ⟨mo, wv, ⟨c0, c1, c2, c3, c4, c5, c6⟩, _, _, hf⟩ := h'.cells
  have f2 := hf 2
  clear h h' hf
  unfold ptr fv
  go_enter Tryz.func90, Tryz.ntmps90
  go_wp2_with fail
  go_end0
  exact ⟨rfl, hA.out⟩
set_option maxRecDepth 20000 in
theorem comeUp_any {w : World} {S : Nat → Prop} {b : Nat} {s : St} (h : IsSt w S b s) (k t n a c : Int) : Calls Tryz.prog 91 #[ptr b, fv k t n a c] w fun e w' => e = .returned (.tuple #[]) ∧ After w w' S b { s with down := false } := by
  have h' := h.below (boxed w (.cells #[.int .u8 k, .int .i64 t, .int .i64 n, .int .i64 a, .int .i64 c] 43))
  have hA := hid ((st_down h' false).front (boxed _ _))
  obtain ⟨mo, wv, ⟨c0, c1, c2, c3, c4, c5, c6⟩, _, _, hf⟩ := h'.cells
  have f2 := hf 2
  clear h h' hf
  unfold ptr fv
  go_enter Tryz.func91, Tryz.ntmps91
  go_wp2_with fail
  go_end0
  exact ⟨rfl, hA.out⟩
set_option maxRecDepth 20000 in
theorem refuseOne_any {w : World} {S : Nat → Prop} {b : Nat} {s : St} (h : IsSt w S b s) (k t : Int) (n : Nat) (a c : Int) : Calls Tryz.prog 92 #[ptr b, fv k t n a c] w fun e w' => e = .returned (.tuple #[]) ∧ After w w' S b { s with refuse := some n } := by
  have h' := h.below (boxed w (.cells #[.int .u8 k, .int .i64 t, .int .i64 (n : Int), .int .i64 a, .int .i64 c] 43))
  have hA := hid ((st_refuse h' n).front (boxed _ _))
  obtain ⟨mo, wv, ⟨c0, c1, c2, c3, c4, c5, c6⟩, _, _, hf⟩ := h'.cells
  have f3 := hf 3
  have f4 := hf 4
  clear h h' hf
  unfold ptr fv
  go_enter Tryz.func92, Tryz.ntmps92
  go_wp2_with fail
  go_end0
  exact ⟨rfl, hA.out⟩
set_option maxRecDepth 20000 in
theorem takeRoom_any {w : World} {S : Nat → Prop} {b : Nat} {s : St} (h : IsSt w S b s) (k t : Int) (n : Nat) (a c : Int) : Calls Tryz.prog 93 #[ptr b, fv k t n a c] w fun e w' => e = .returned (.tuple #[]) ∧ After w w' S b { s with room := some n } := by
  have h' := h.below (boxed w (.cells #[.int .u8 k, .int .i64 t, .int .i64 (n : Int), .int .i64 a, .int .i64 c] 43))
  have hA := hid ((st_room h' n).front (boxed _ _))
  obtain ⟨mo, wv, ⟨c0, c1, c2, c3, c4, c5, c6⟩, _, _, hf⟩ := h'.cells
  have f5 := hf 5
  have f6 := hf 6
  clear h h' hf
  unfold ptr fv
  go_enter Tryz.func93, Tryz.ntmps93
  go_wp2_with fail
  go_end0
  exact ⟨rfl, hA.out⟩
set_option maxRecDepth 20000 in
theorem wipe_any {w : World} {S : Nat → Prop} {b : Nat} {s : St} (h : IsSt w S b s) (k t n a c : Int) : Calls Tryz.prog 87 #[ptr b, fv k t n a c] w fun e w' => e = .returned (.tuple #[]) ∧ After w w' S b { s with seen := [], writes := [], live := false } := by
  have h' := h.below (boxed w (.cells #[.int .u8 k, .int .i64 t, .int .i64 n, .int .i64 a, .int .i64 c] 43))
  have hS := settle_any h'
  clear h h'
  unfold ptr at hS ⊢
  unfold fv
  go_enter Tryz.func87, Tryz.ntmps87
  go_wp2_with fail
  refine hS.mono ?_
  rintro e w1 ⟨rfl, S1, g1, g2, g3⟩
  have hA := hid ((After.trans g2 g3 (After.setMap g1 none [] rfl (fun m hm => by simp at hm))).front (boxed _ _))
  obtain ⟨mo, wv, ⟨c0, c1, c2, c3, c4, c5, c6⟩, _, _, hf⟩ := g1.cells
  have f0 := hf 0
  clear g1 g2 g3 hf
  go_wp2_with fail
  go_end0
  exact ⟨rfl, hA.out⟩
/-- what becomes of a store that counts a write that is tried -/
def counted (s : St) : Bool × St := match s.refuse with
  | none => (false, s)
  | some 0 => (true, { s with refuse := none })
  | some (n + 1) => (false, { s with refuse := some n })
set_option maxRecDepth 20000 in
theorem refuses_any {w : World} {S : Nat → Prop} {b : Nat} {s : St} (h : IsSt w S b s) (hn : ∀ n, s.refuse = some n → n < 9223372036854775808) : Calls Tryz.prog 133 #[ptr b] w fun e w' => e = .returned (.bool (counted s).1) ∧ After w w' S b (counted s).2 := by
  obtain ⟨mo, wv, ⟨c0, c1, c2, c3, c4, c5, c6⟩, _, _, hf⟩ := h.cells
  have f3 := hf 3
  have f4 := hf 4
  clear hf
  unfold ptr counted
  cases hr : s.refuse with
  | none =>
    have hA := hid (After.refl h)
    rw [hr] at c3 c4
    simp only [Option.isSome_none, Option.getD_none] at c3 c4
    clear h hn hr
    go_enter Tryz.func133, Tryz.ntmps133
    go_wp2_with fail
    go_ret
    exact ⟨rfl, hA.out⟩
  | some n =>
    have hn' := hn n hr
    rw [hr] at c3 c4
    simp only [Option.isSome_some, Option.getD_some] at c3 c4
    cases n with
    | zero =>
      have hA := hid (st_refused h hr)
      clear h hn hr hn'
      go_enter Tryz.func133, Tryz.ntmps133
      go_wp2_with fail
      go_ret
      exact ⟨rfl, hA.out⟩
    | succ n =>
      have hA := hid (st_counted h n hr)
      clear h hn hr
      have q1 : (0 : Int) < ((n + 1 : Nat) : Int) := by omega
      have q2 : ((n + 1 : Nat) : Int) - 1 = (n : Int) := by omega
      have q3 : IntKind.i64.wrap (n : Int) = (n : Int) := by simp [IntKind.wrap, IntKind.bits, IntKind.signed]; omega
      generalize ((n + 1 : Nat) : Int) = z at *
      go_enter Tryz.func133, Tryz.ntmps133
      go_wp2_with fail
      go_ret
      exact ⟨rfl, hA.out⟩
end Go.Proofs.YtmpgfpmkmgebdaaGreatDoor.W
/- The contracts of the store's functions: what is told of it, what is set. -/
namespace Go.Proofs.YtmpgfpmkmgebdaaGreatDoor.W
open Go.RowKit Go.Maps
theorem str_eq (a b : ByteArray) : (a.toList == b.toList) = decide (a = b) := by
  rw [Lib.toList_data, Lib.toList_data, Bool.eq_iff_iff]
  simp only [beq_iff_eq, decide_eq_true_eq]
  exact ⟨ba_ext, fun h => by rw [h]⟩
def m0 : ByteArray := ⟨#[109, 48]⟩
def m1 : ByteArray := ⟨#[109, 49]⟩
def isMan (n : ByteArray) : Bool := decide (n = m0) || decide (n = m1)
set_option maxRecDepth 20000 in
theorem isMan_any (n : ByteArray) (w : World) : Calls Tryz.prog 131 #[.string n] w fun e w' => e = .returned (.bool (isMan n)) ∧ w' = w := by
  have q0 : (n.toList == [109, 48]) = decide (n = m0) := by have := str_eq n m0; rw [Lib.toList_data m0] at this; exact this
  have q1 : (n.toList == [109, 49]) = decide (n = m1) := by have := str_eq n m1; rw [Lib.toList_data m1] at this; exact this
  unfold isMan
  generalize decide (n = m1) = x at *
  generalize decide (n = m0) = y at *
  cases y <;> cases x
  all_goals
    go_enter Tryz.func131, Tryz.ntmps131
    go_wp2_with fail
    go_ret
    exact ⟨rfl, rfl⟩
set_option maxRecDepth 20000 in
theorem clone_any (s : ByteArray) (w : World) (hs : s.size ≤ 281474976710656) : Calls Tryz.prog 23 #[.string s] w fun e w' => e = .returned (.string s) ∧ Below w.heap.size w w' := by
  go_enter Tryz.func23, Tryz.ntmps23
  go_wp2_with fail
  refine (Tryz.stringslite_Clone s w hs).mono ?_
  rintro e w1 ⟨rfl, hb⟩
  go_wp2_with fail
  go_ret
  exact ⟨rfl, hb⟩
set_option maxRecDepth 20000 in
theorem up_any {w : World} {S : Nat → Prop} {b : Nat} {s : St} (h : IsSt w S b s) : Calls Tryz.prog 72 #[ptr b] w fun e w' => e = .returned (.bool (!s.down)) ∧ w' = w := by
  obtain ⟨mo, wv, ⟨c0, c1, c2, c3, c4, c5, c6⟩, _, _, hf⟩ := h.cells
  clear h hf
  unfold ptr
  go_enter Tryz.func72, Tryz.ntmps72
  go_wp2_with fail
  go_ret
  exact ⟨rfl, rfl⟩
set_option maxRecDepth 20000 in
theorem sound_any {w : World} {S : Nat → Prop} {b : Nat} {s : St} (h : IsSt w S b s) : Calls Tryz.prog 43 #[ptr b] w fun e w' => e = .returned (.bool (!s.down && s.refuse.isNone)) ∧ w' = w := by
  have hu := up_any h
  obtain ⟨mo, wv, ⟨c0, c1, c2, c3, c4, c5, c6⟩, _, _, hf⟩ := h.cells
  clear h hf
  unfold ptr at hu ⊢
  generalize s.down = x at *
  have e : s.refuse.isNone = !s.refuse.isSome := by cases s.refuse <;> rfl
  rw [e]
  generalize s.refuse.isSome = y at *
  clear e
  cases x
  · go_enter Tryz.func43, Tryz.ntmps43
    go_wp2_with fail
    refine hu.mono ?_
    rintro e w1 ⟨rfl, rfl⟩
    go_wp2_with fail
    go_ret
    exact ⟨rfl, rfl⟩
  · go_enter Tryz.func43, Tryz.ntmps43
    go_wp2_with fail
    refine hu.mono ?_
    rintro e w1 ⟨rfl, rfl⟩
    go_wp2_with fail
    go_ret
    exact ⟨rfl, rfl⟩
/-- an error -/
def er (n : Int) : Value := .int .i64 n
/-- Sync -/
def sync (s : St) : Int × St := if s.down then (51, s) else (0, { s with writes := [] })
set_option maxRecDepth 20000 in
theorem sync_any {w : World} {S : Nat → Prop} {b : Nat} {s : St} (h : IsSt w S b s) : Calls Tryz.prog 100 #[ptr b] w fun e w' => e = .returned (er (sync s).1) ∧ After w w' S b (sync s).2 := by
  have hS := settle_any h
  have hR := hid (After.refl h)
  obtain ⟨mo, wv, ⟨c0, c1, c2, c3, c4, c5, c6⟩, _, _, hf⟩ := h.cells
  clear h hf
  unfold ptr at hS ⊢
  unfold sync er
  cases hd : s.down with
  | true =>
    rw [hd] at c2
    clear hd hS
    go_enter Tryz.func100, Tryz.ntmps100
    go_wp2_with fail
    go_ret
    exact ⟨rfl, hR.out⟩
  | false =>
    rw [hd] at c2
    clear hR
    go_enter Tryz.func100, Tryz.ntmps100
    go_wp2_with fail
    refine hS.mono ?_
    rintro e w1 ⟨rfl, hA⟩
    rw [hd] at hA
    have HA := hid hA
    clear hA hd
    go_wp2_with fail
    go_ret
    exact ⟨rfl, HA.out⟩
theorem info67 : (Tryz.prog.info? 120).map (·.size) = some 2 := by kernel_rfl
/-- a result that lies in memory -/
theorem ret_one {fn : Func} {a : Act} {W : World} {b : Nat} {cs : List Value} {ty : TypeId} {p : Tmp} {d : TypeDesc} {Q : Ending → World → Prop}
    (hf : fn.results = #[.cell p ty]) (hp : a.tmps.getD p undef = .pointer (some ⟨b, 0, none⟩)) (hd : a.defers = []) (hc : W.rangeAt b 0 cs)
    (hu : Tryz.prog.underlying ty = some d) (hr : d.isRow = true) (hi : (Tryz.prog.info? ty).map (·.size) = some cs.length) (hQ : Q (.returned (.agg cs.toArray)) W) : bodyPost Tryz.prog fn Q Exit.ret a W := by
  refine bodyPost_ret (v := .agg cs.toArray) ?_ hd hQ
  rw [results_one_cell hf]
  exact ret_row hp hc hu hr hi
theorem Has.ranged {w : World} {b : Nat} {cs : List Value} {t : TypeId} (h : Has w b cs.toArray t) : w.rangeAt b 0 cs := by simpa using h.range
/-- what survives of it -/
def begun (c : Option ByteArray) (k : Nat) : Option ByteArray := c.map fun d => if k < d.size then d.extract 0 k else d
theorem begun_cv (c : Option ByteArray) (k : Nat) : ((begun c k).getD ⟨#[]⟩) = (if k < (c.getD ⟨#[]⟩).size then (c.getD ⟨#[]⟩).extract 0 k else c.getD ⟨#[]⟩) ∧ (begun c k).isSome = c.isSome := by
  cases c with
  | none => exact ⟨(if_neg (Nat.not_lt_zero k)).symm, rfl⟩
  | some d => exact ⟨rfl, rfl⟩
theorem two_cells {W : World} {b : Nat} {u v : Value} {t : TypeId} (h : Has W b #[u, v] t) : W.cell? ⟨b, 0, none⟩ = some u ∧ W.cell? ⟨b, 1, none⟩ = some v ∧ W.frozen? ⟨b, 0, none⟩ = false ∧ W.frozen? ⟨b, 1, none⟩ = false :=
  ⟨h.cell 0, h.cell 1, h.frozen 0, h.frozen 1⟩
theorem two_put {W : World} {b : Nat} {x y : Value} {t : TypeId} (h : Has W b #[x, y] t) (x' y' : Value) : Has ((W.setCell ⟨b, 0, none⟩ x').setCell ⟨b, 1, none⟩ y') b #[x', y'] t := by
  have := (h.set 0 x').set 1 y'
  simpa using this
set_option maxRecDepth 20000 in
theorem begin_any (c : Option ByteArray) (k : Nat) (w : World) (hc : (c.getD ⟨#[]⟩).size ≤ 1000000) : Calls Tryz.prog 57 #[cv c, .int .i64 (k : Int)] w fun e w' => e = .returned (cv (begun c k)) ∧ Below w.heap.size w w' := by
  obtain ⟨e1, e2⟩ := begun_cv c k
  unfold cv
  rw [e1, e2]
  generalize c.isSome = x at *
  generalize c.getD ⟨#[]⟩ = d at *
  clear e1 e2
  have A1 : Has ((w.alloc (.cells #[.bool x, .string d] 120)).alloc (.cells #[.bool false, .string ⟨#[]⟩] 120)) w.heap.size #[.bool x, .string d] 120 := (Has.new _ _ _ _ rfl).alloc _
  have A2 : Has ((w.alloc (.cells #[.bool x, .string d] 120)).alloc (.cells #[.bool false, .string ⟨#[]⟩] 120)) (w.heap.size + 1) #[.bool false, .string ⟨#[]⟩] 120 := Has.new _ _ _ _ (by simp)
  have A3 : Below w.heap.size w ((w.alloc (.cells #[.bool x, .string d] 120)).alloc (.cells #[.bool false, .string ⟨#[]⟩] 120)) := ((Below.refl _ _).alloc (Nat.le_refl _) _).alloc (by simp) _
  by_cases hk : k < d.size
  · have q1 : (k : Int) < (d.size : Int) := by omega
    have q2 : (k : Int) ≤ (d.size : Int) := by omega
    rw [if_pos hk]
    go_enter Tryz.func57, Tryz.ntmps57
    go_wp2_with fail
    refine (clone_any _ _ ?_).mono ?_
    · simp; omega
    rintro e w1 ⟨rfl, hb⟩
    have B1 := A1.below hb A1.lt
    have B2 := A2.below hb A2.lt
    have B3 := hid (A3.trans (hb.mono (by simp; omega)))
    obtain ⟨p0, p1, p2, p3⟩ := two_cells B1
    obtain ⟨r0, r1, r2, r3⟩ := two_cells B2
    have C1 := B1.set 1 (.string (d.extract 0 k))
    have C2 := B2.other ⟨w.heap.size, 1, none⟩ (.string (d.extract 0 k)) (by simp)
    have D1 := hid (two_put C2 (.bool x) (.string (d.extract 0 k)))
    clear A1 A2 A3 hb B1 B2 C1 C2
    go_wp2_with fail
    refine ret_one (b := w.heap.size + 1) (cs := [.bool x, .string (d.extract 0 k)]) rfl rfl rfl D1.out.ranged Tryz.underlying120 rfl info67 ⟨rfl, ?_⟩
    exact ((B3.out.setCell (Nat.le_refl _) _).setCell (p := ⟨w.heap.size + 1, 0, none⟩) (by simp) _).setCell (p := ⟨w.heap.size + 1, 1, none⟩) (by simp) _
  · have q1 : ¬ (k : Int) < (d.size : Int) := by omega
    rw [if_neg hk]
    obtain ⟨p0, p1, p2, p3⟩ := two_cells A1
    obtain ⟨r0, r1, r2, r3⟩ := two_cells A2
    clear A1 A2 A3
    go_enter Tryz.func57, Tryz.ntmps57
    go_wp2_with fail
    refine ret_one (b := w.heap.size + 1) (cs := [.bool x, .string d]) rfl rfl rfl (Has.new (w.alloc (.cells #[.bool x, .string d] 120)) (w.heap.size + 1) #[.bool x, .string d] 120 (by simp)).ranged Tryz.underlying120 rfl info67 ⟨rfl, ?_⟩
    exact ((Below.refl _ _).alloc (Nat.le_refl _) _).alloc (by simp) _
end Go.Proofs.YtmpgfpmkmgebdaaGreatDoor.W
/- What single operations do, over any frame. -/
namespace Go.Proofs.YtmpgfpmkmgebdaaGreatDoor.W
open Go.RowKit Go.Maps
variable {ev : Operand → Value} {o : Oper} {w : World} {x y : Operand}
theorem rn_move {v : Value} (ho : o.op = .move x) (hx : ev x = v) : (execOp ev o).run Tryz.prog w = .ok (.value v) w := by
  subst hx; simp [execOp, ho, go_sem]
theorem rn_assign {v : Value} (ho : o.op = .assign x) (hx : ev x = v) : (execOp ev o).run Tryz.prog w = .ok (.value v) w := by
  subst hx; simp [execOp, ho, go_sem]
theorem rn_nilCheck {g k : Nat} (ho : o.op = .nilCheck x) (hx : ev x = .pointer (some ⟨g, k, none⟩)) : (execOp ev o).run Tryz.prog w = .ok (.value (.pointer (some ⟨g, k, none⟩))) w := by
  simp [execOp, ho, hx, go_sem]
theorem rn_load3 {g k : Nat} {v : Value} (ho : o.op = .load 3 x) (hx : ev x = .pointer (some ⟨g, k, none⟩)) (hc : w.cell? ⟨g, k, none⟩ = some v) : (execOp ev o).run Tryz.prog w = .ok (.value v) w := by
  simp [execOp, ho, hx, go_sem, hc]
theorem rn_load5 {g k : Nat} {v : Value} (ho : o.op = .load 5 x) (hx : ev x = .pointer (some ⟨g, k, none⟩)) (hc : w.cell? ⟨g, k, none⟩ = some v) : (execOp ev o).run Tryz.prog w = .ok (.value v) w := by
  simp [execOp, ho, hx, go_sem, hc]
theorem rn_load9 {g k : Nat} {v : Value} (ho : o.op = .load 9 x) (hx : ev x = .pointer (some ⟨g, k, none⟩)) (hc : w.cell? ⟨g, k, none⟩ = some v) : (execOp ev o).run Tryz.prog w = .ok (.value v) w := by
  simp [execOp, ho, hx, go_sem, hc]
theorem rn_load23 {g k : Nat} {v : Value} (ho : o.op = .load 63 x) (hx : ev x = .pointer (some ⟨g, k, none⟩)) (hc : w.cell? ⟨g, k, none⟩ = some v) : (execOp ev o).run Tryz.prog w = .ok (.value v) w := by
  simp [execOp, ho, hx, go_sem, hc]
theorem rn_load58 {g k : Nat} {v : Value} (ho : o.op = .load 98 x) (hx : ev x = .pointer (some ⟨g, k, none⟩)) (hc : w.cell? ⟨g, k, none⟩ = some v) : (execOp ev o).run Tryz.prog w = .ok (.value v) w := by
  simp [execOp, ho, hx, go_sem, hc]
theorem rn_load59 {g k : Nat} {v : Value} (ho : o.op = .load 99 x) (hx : ev x = .pointer (some ⟨g, k, none⟩)) (hc : w.cell? ⟨g, k, none⟩ = some v) : (execOp ev o).run Tryz.prog w = .ok (.value v) w := by
  simp [execOp, ho, hx, go_sem, hc]
theorem rn_load69 {g k : Nat} {v : Value} (ho : o.op = .load 133 x) (hx : ev x = .pointer (some ⟨g, k, none⟩)) (hc : w.cell? ⟨g, k, none⟩ = some v) : (execOp ev o).run Tryz.prog w = .ok (.value v) w := by
  simp [execOp, ho, hx, go_sem, hc]
theorem rn_f63_0 {g k : Nat} (ho : o.op = .fieldAddr 103 x 0) (hx : ev x = .pointer (some ⟨g, k, none⟩)) : (execOp ev o).run Tryz.prog w = .ok (.value (.pointer (some ⟨g, k, none⟩))) w := by
  simp [execOp, ho, hx, go_sem]
theorem rn_f63_1 {g k : Nat} (ho : o.op = .fieldAddr 103 x 1) (hx : ev x = .pointer (some ⟨g, k, none⟩)) : (execOp ev o).run Tryz.prog w = .ok (.value (.pointer (some ⟨g, k + 1, none⟩))) w := by
  simp [execOp, ho, hx, go_sem]
theorem rn_f63_4 {g k : Nat} (ho : o.op = .fieldAddr 103 x 4) (hx : ev x = .pointer (some ⟨g, k, none⟩)) : (execOp ev o).run Tryz.prog w = .ok (.value (.pointer (some ⟨g, k + 5, none⟩))) w := by
  simp [execOp, ho, hx, go_sem]
theorem rn_f67_1 {g k : Nat} (ho : o.op = .fieldAddr 120 x 1) (hx : ev x = .pointer (some ⟨g, k, none⟩)) : (execOp ev o).run Tryz.prog w = .ok (.value (.pointer (some ⟨g, k + 1, none⟩))) w := by
  simp [execOp, ho, hx, go_sem]
theorem rn_f28_0 {g k : Nat} (ho : o.op = .fieldAddr 131 x 0) (hx : ev x = .pointer (some ⟨g, k, none⟩)) : (execOp ev o).run Tryz.prog w = .ok (.value (.pointer (some ⟨g, k, none⟩))) w := by
  simp [execOp, ho, hx, go_sem]
theorem rn_f28_1 {g k : Nat} (ho : o.op = .fieldAddr 131 x 1) (hx : ev x = .pointer (some ⟨g, k, none⟩)) : (execOp ev o).run Tryz.prog w = .ok (.value (.pointer (some ⟨g, k + 1, none⟩))) w := by
  simp [execOp, ho, hx, go_sem]
theorem rn_f83_0 {g k : Nat} (ho : o.op = .fieldAddr 122 x 0) (hx : ev x = .pointer (some ⟨g, k, none⟩)) : (execOp ev o).run Tryz.prog w = .ok (.value (.pointer (some ⟨g, k, none⟩))) w := by
  simp [execOp, ho, hx, go_sem]
theorem rn_f83_2 {g k : Nat} (ho : o.op = .fieldAddr 122 x 2) (hx : ev x = .pointer (some ⟨g, k, none⟩)) : (execOp ev o).run Tryz.prog w = .ok (.value (.pointer (some ⟨g, k + 3, none⟩))) w := by
  simp [execOp, ho, hx, go_sem]
theorem rn_f61_1 {g k : Nat} (ho : o.op = .fieldAddr 101 x 1) (hx : ev x = .pointer (some ⟨g, k, none⟩)) : (execOp ev o).run Tryz.prog w = .ok (.value (.pointer (some ⟨g, k + 1, none⟩))) w := by
  simp [execOp, ho, hx, go_sem]
theorem rn_f32_0 {g k : Nat} (ho : o.op = .fieldAddr 43 x 0) (hx : ev x = .pointer (some ⟨g, k, none⟩)) : (execOp ev o).run Tryz.prog w = .ok (.value (.pointer (some ⟨g, k, none⟩))) w := by
  simp [execOp, ho, hx, go_sem]
theorem rn_f32_3 {g k : Nat} (ho : o.op = .fieldAddr 43 x 3) (hx : ev x = .pointer (some ⟨g, k, none⟩)) : (execOp ev o).run Tryz.prog w = .ok (.value (.pointer (some ⟨g, k + 3, none⟩))) w := by
  simp [execOp, ho, hx, go_sem]
theorem rn_f32_4 {g k : Nat} (ho : o.op = .fieldAddr 43 x 4) (hx : ev x = .pointer (some ⟨g, k, none⟩)) : (execOp ev o).run Tryz.prog w = .ok (.value (.pointer (some ⟨g, k + 4, none⟩))) w := by
  simp [execOp, ho, hx, go_sem]
theorem rn_load67 {g k : Nat} {v0 v1 : Value} (ho : o.op = .load 120 x) (hx : ev x = .pointer (some ⟨g, k, none⟩)) (h0 : w.cell? ⟨g, k, none⟩ = some v0) (h1 : w.cell? ⟨g, k + 1, none⟩ = some v1) : (execOp ev o).run Tryz.prog w = .ok (.value (.agg #[v0, v1])) w := by
  simp [execOp, ho, hx, go_sem, h0, h1]
theorem rn_load28 {g k : Nat} {v0 v1 : Value} (ho : o.op = .load 131 x) (hx : ev x = .pointer (some ⟨g, k, none⟩)) (h0 : w.cell? ⟨g, k, none⟩ = some v0) (h1 : w.cell? ⟨g, k + 1, none⟩ = some v1) : (execOp ev o).run Tryz.prog w = .ok (.value (.agg #[v0, v1])) w := by
  simp [execOp, ho, hx, go_sem, h0, h1]
theorem rn_load32 {g k : Nat} {v0 v1 v2 v3 v4 : Value} (ho : o.op = .load 43 x) (hx : ev x = .pointer (some ⟨g, k, none⟩)) (h0 : w.cell? ⟨g, k, none⟩ = some v0) (h1 : w.cell? ⟨g, k + 1, none⟩ = some v1) (h2 : w.cell? ⟨g, k + 2, none⟩ = some v2) (h3 : w.cell? ⟨g, k + 3, none⟩ = some v3) (h4 : w.cell? ⟨g, k + 4, none⟩ = some v4) : (execOp ev o).run Tryz.prog w = .ok (.value (.agg #[v0, v1, v2, v3, v4])) w := by
  simp [execOp, ho, hx, go_sem, h0, h1, h2, h3, h4]
end Go.Proofs.YtmpgfpmkmgebdaaGreatDoor.W
