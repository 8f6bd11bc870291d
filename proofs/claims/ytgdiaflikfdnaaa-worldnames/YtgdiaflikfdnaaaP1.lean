/- The contracts of the store's small functions. -/
import Derived.Test.YtgdiaflikfdnaaaSt
namespace Go.Proofs.Ytgdiaflikfdnaaa
open Go.RowKit Go.Maps
def st0 : St := ⟨[], [], false, none, none, false⟩
def ptr (b : Nat) : Value := .pointer (some ⟨b, 0, none⟩)
theorem hid {p : Prop} (h : p) : Hid p := h
set_option maxRecDepth 20000 in
theorem new_any (w : World) : Calls Try.prog 23 #[] w fun e w' => ∃ b S, e = .returned (ptr b) ∧ IsSt w' S b st0 ∧ (∀ i, S i → w.heap.size ≤ i) ∧ Below w.heap.size w w' := by
  go_enter Try.func23, Try.ntmps23
  go_wp2_with fail
  go_ret
  refine ⟨w.heap.size, fun i => i = w.heap.size, rfl, ⟨none, .slice none 0 0, Has.new _ _ _ _ rfl, rfl, World.ownsRow_nil _ _ _ _, rfl, fun m hm => by simp at hm, fun g hg => by simp [Value.ownBlock] at hg, fun i hi => by simp [hi], rfl⟩, fun i hi => by omega, (Below.refl _ _).alloc (Nat.le_refl _) _⟩
set_option maxRecDepth 20000 in
theorem settle_any {w : World} {S : Nat → Prop} {b : Nat} {s : St} (h : IsSt w S b s) : Calls Try.prog 49 #[ptr b] w fun e w' => e = .returned (.tuple #[]) ∧ After w w' S b { s with writes := [] } := by
  have hA := hid (After.settle h)
  obtain ⟨mo, wv, h1, _⟩ := h
  obtain ⟨c0, c1, c2, c3, c4, c5, c6⟩ := scells_cell h1
  have f1 := h1.frozen 1
  clear h1
  unfold ptr
  go_enter Try.func49, Try.ntmps49
  go_wp2_with fail
  go_end0
  exact ⟨rfl, hA.out⟩
/-- a fault, as a value -/
def fv (k s n a c : Int) : Value := .agg #[.int .u8 k, .int .i64 s, .int .i64 n, .int .i64 a, .int .i64 c]
theorem st_down {w : World} {S : Nat → Prop} {b : Nat} {s : St} (h : IsSt w S b s) (x : Bool) : After w (w.setCell ⟨b, 2, none⟩ (.bool x)) S b { s with down := x } := After.turn h 2 _ _ ⟨rfl, rfl, rfl⟩ fun _ _ => rfl
theorem st_refuse {w : World} {S : Nat → Prop} {b : Nat} {s : St} (h : IsSt w S b s) (n : Nat) : After w ((w.setCell ⟨b, 3, none⟩ (.bool true)).setCell ⟨b, 4, none⟩ (.int .i64 (n : Int))) S b { s with refuse := some n } :=
  (After.turn h 3 (.bool true) { s with refuse := some (s.refuse.getD 0) } ⟨rfl, rfl, rfl⟩ fun _ _ => rfl).then fun _ h' => After.turn h' 4 _ _ ⟨rfl, rfl, rfl⟩ fun _ _ => rfl
theorem st_room {w : World} {S : Nat → Prop} {b : Nat} {s : St} (h : IsSt w S b s) (n : Nat) : After w ((w.setCell ⟨b, 5, none⟩ (.bool true)).setCell ⟨b, 6, none⟩ (.int .i64 (n : Int))) S b { s with room := some n } :=
  (After.turn h 5 (.bool true) { s with room := some (s.room.getD 0) } ⟨rfl, rfl, rfl⟩ fun _ _ => rfl).then fun _ h' => After.turn h' 6 _ _ ⟨rfl, rfl, rfl⟩ fun _ _ => rfl
theorem st_refused {w : World} {S : Nat → Prop} {b : Nat} {s : St} (h : IsSt w S b s) (hs : s.refuse = some 0) : After w ((w.setCell ⟨b, 3, none⟩ (.bool false)).setCell ⟨b, 4, none⟩ (.int .i64 0)) S b { s with refuse := none } :=
  (After.turn h 3 (.bool false) { s with refuse := none } ⟨rfl, rfl, rfl⟩ fun _ _ => by simp [scells, hs]).then fun _ h' => After.turn h' 4 _ _ ⟨rfl, rfl, rfl⟩ fun _ _ => rfl
theorem st_counted {w : World} {S : Nat → Prop} {b : Nat} {s : St} (h : IsSt w S b s) (n : Nat) (hs : s.refuse = some (n + 1)) : After w (w.setCell ⟨b, 4, none⟩ (.int .i64 (n : Int))) S b { s with refuse := some n } :=
  After.turn h 4 _ _ ⟨rfl, rfl, rfl⟩ fun _ _ => by simp [scells, hs]
theorem boxed (w : World) (o : Obj) : Below w.heap.size w (w.alloc o) := (Below.refl _ _).alloc (Nat.le_refl _) _
/-- what the walk wants of a store -/
theorem IsSt.cells {w : World} {S : Nat → Prop} {b : Nat} {s : St} (h : IsSt w S b s) : ∃ mo wv, (w.cell? ⟨b, 0, none⟩ = some (.map mo) ∧ w.cell? ⟨b, 1, none⟩ = some wv ∧ w.cell? ⟨b, 2, none⟩ = some (.bool s.down) ∧ w.cell? ⟨b, 3, none⟩ = some (.bool s.refuse.isSome) ∧ w.cell? ⟨b, 4, none⟩ = some (.int .i64 ((s.refuse.getD 0 : Nat) : Int)) ∧ w.cell? ⟨b, 5, none⟩ = some (.bool s.room.isSome) ∧ w.cell? ⟨b, 6, none⟩ = some (.int .i64 ((s.room.getD 0 : Nat) : Int))) ∧ MapV w mo s.seen ∧ w.ownsRow 0 96 5 wv s.writes.length (s.writes.flatMap wcells) ∧ (∀ i, w.frozen? ⟨b, i, none⟩ = false) := by
  obtain ⟨mo, wv, h1, h2, h3, _⟩ := h
  exact ⟨mo, wv, scells_cell h1, h2, h3, h1.frozen⟩
set_option maxRecDepth 20000 in
theorem goDown_any {w : World} {S : Nat → Prop} {b : Nat} {s : St} (h : IsSt w S b s) (k t n a c : Int) : Calls Try.prog 64 #[ptr b, fv k t n a c] w fun e w' => e = .returned (.tuple #[]) ∧ After w w' S b { s with down := true } := by
  have h' := h.below (boxed w (.cells #[.int .u8 k, .int .i64 t, .int .i64 n, .int .i64 a, .int .i64 c] 37))
  have hA := hid ((st_down h' true).front (boxed _ _))
  obtain ⟨mo, wv, ⟨c0, c1, c2, c3, c4, c5, c6⟩, _, _, hf⟩ := h'.cells
  have f2 := hf 2
  clear h h' hf
  unfold ptr fv
  go_enter Try.func64, Try.ntmps64
  go_wp2_with fail
  go_end0
  exact ⟨rfl, hA.out⟩
set_option maxRecDepth 20000 in
theorem comeUp_any {w : World} {S : Nat → Prop} {b : Nat} {s : St} (h : IsSt w S b s) (k t n a c : Int) : Calls Try.prog 65 #[ptr b, fv k t n a c] w fun e w' => e = .returned (.tuple #[]) ∧ After w w' S b { s with down := false } := by
  have h' := h.below (boxed w (.cells #[.int .u8 k, .int .i64 t, .int .i64 n, .int .i64 a, .int .i64 c] 37))
  have hA := hid ((st_down h' false).front (boxed _ _))
  obtain ⟨mo, wv, ⟨c0, c1, c2, c3, c4, c5, c6⟩, _, _, hf⟩ := h'.cells
  have f2 := hf 2
  clear h h' hf
  unfold ptr fv
  go_enter Try.func65, Try.ntmps65
  go_wp2_with fail
  go_end0
  exact ⟨rfl, hA.out⟩
set_option maxRecDepth 20000 in
theorem refuseOne_any {w : World} {S : Nat → Prop} {b : Nat} {s : St} (h : IsSt w S b s) (k t : Int) (n : Nat) (a c : Int) : Calls Try.prog 66 #[ptr b, fv k t n a c] w fun e w' => e = .returned (.tuple #[]) ∧ After w w' S b { s with refuse := some n } := by
  have h' := h.below (boxed w (.cells #[.int .u8 k, .int .i64 t, .int .i64 (n : Int), .int .i64 a, .int .i64 c] 37))
  have hA := hid ((st_refuse h' n).front (boxed _ _))
  obtain ⟨mo, wv, ⟨c0, c1, c2, c3, c4, c5, c6⟩, _, _, hf⟩ := h'.cells
  have f3 := hf 3
  have f4 := hf 4
  clear h h' hf
  unfold ptr fv
  go_enter Try.func66, Try.ntmps66
  go_wp2_with fail
  go_end0
  exact ⟨rfl, hA.out⟩
set_option maxRecDepth 20000 in
theorem takeRoom_any {w : World} {S : Nat → Prop} {b : Nat} {s : St} (h : IsSt w S b s) (k t : Int) (n : Nat) (a c : Int) : Calls Try.prog 67 #[ptr b, fv k t n a c] w fun e w' => e = .returned (.tuple #[]) ∧ After w w' S b { s with room := some n } := by
  have h' := h.below (boxed w (.cells #[.int .u8 k, .int .i64 t, .int .i64 (n : Int), .int .i64 a, .int .i64 c] 37))
  have hA := hid ((st_room h' n).front (boxed _ _))
  obtain ⟨mo, wv, ⟨c0, c1, c2, c3, c4, c5, c6⟩, _, _, hf⟩ := h'.cells
  have f5 := hf 5
  have f6 := hf 6
  clear h h' hf
  unfold ptr fv
  go_enter Try.func67, Try.ntmps67
  go_wp2_with fail
  go_end0
  exact ⟨rfl, hA.out⟩
set_option maxRecDepth 20000 in
theorem wipe_any {w : World} {S : Nat → Prop} {b : Nat} {s : St} (h : IsSt w S b s) (k t n a c : Int) : Calls Try.prog 61 #[ptr b, fv k t n a c] w fun e w' => e = .returned (.tuple #[]) ∧ After w w' S b { s with seen := [], writes := [], live := false } := by
  have h' := h.below (boxed w (.cells #[.int .u8 k, .int .i64 t, .int .i64 n, .int .i64 a, .int .i64 c] 37))
  have hS := settle_any h'
  clear h h'
  unfold ptr at hS ⊢
  unfold fv
  go_enter Try.func61, Try.ntmps61
  go_wp2_with fail
  refine hS.mono ?_
  rintro e w1 ⟨rfl, S1, g1, g2, g3⟩
  have hA := hid ((After.trans g2 g3 (After.setMap g1 none [] rfl (fun m hm => by simp at hm))).front (boxed _ _))
  obtain ⟨mo, wv, ⟨c0, c1, c2, c3, c4, c5, c6⟩, _, _, hf⟩ := g1.cells
  have f0 := hf 0
  clear g1 g2 g3 hf
  go_wp2_with fail
  go_end0
  exact ⟨rfl, hA.out⟩
/-- what becomes of a store that counts a write that is tried -/
def counted (s : St) : Bool × St := match s.refuse with
  | none => (false, s)
  | some 0 => (true, { s with refuse := none })
  | some (n + 1) => (false, { s with refuse := some n })
set_option maxRecDepth 20000 in
theorem refuses_any {w : World} {S : Nat → Prop} {b : Nat} {s : St} (h : IsSt w S b s) (hn : ∀ n, s.refuse = some n → n < 9223372036854775808) : Calls Try.prog 59 #[ptr b] w fun e w' => e = .returned (.bool (counted s).1) ∧ After w w' S b (counted s).2 := by
  obtain ⟨mo, wv, ⟨c0, c1, c2, c3, c4, c5, c6⟩, _, _, hf⟩ := h.cells
  have f3 := hf 3
  have f4 := hf 4
  clear hf
  unfold ptr counted
  cases hr : s.refuse with
  | none =>
    have hA := hid (After.refl h)
    rw [hr] at c3 c4
    simp only [Option.isSome_none, Option.getD_none] at c3 c4
    clear h hn hr
    go_enter Try.func59, Try.ntmps59
    go_wp2_with fail
    go_ret
    exact ⟨rfl, hA.out⟩
  | some n =>
    have hn' := hn n hr
    rw [hr] at c3 c4
    simp only [Option.isSome_some, Option.getD_some] at c3 c4
    cases n with
    | zero =>
      have hA := hid (st_refused h hr)
      clear h hn hr hn'
      go_enter Try.func59, Try.ntmps59
      go_wp2_with fail
      go_ret
      exact ⟨rfl, hA.out⟩
    | succ n =>
      have hA := hid (st_counted h n hr)
      clear h hn hr
      have q1 : (0 : Int) < ((n + 1 : Nat) : Int) := by omega
      have q2 : ((n + 1 : Nat) : Int) - 1 = (n : Int) := by omega
      have q3 : IntKind.i64.wrap (n : Int) = (n : Int) := by simp [IntKind.wrap, IntKind.bits, IntKind.signed]; omega
      generalize ((n + 1 : Nat) : Int) = z at *
      go_enter Try.func59, Try.ntmps59
      go_wp2_with fail
      go_ret
      exact ⟨rfl, hA.out⟩
end Go.Proofs.Ytgdiaflikfdnaaa
