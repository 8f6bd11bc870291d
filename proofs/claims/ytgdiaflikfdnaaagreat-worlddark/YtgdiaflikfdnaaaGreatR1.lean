/- The document's store: what it is, how it lies in memory; its small calls. -/
import Derived.Test.YtgdiaflikfdnaaaGreatRDrop
namespace Go.Proofs.YtgdiaflikfdnaaaGreat
open Go.RowKit Go.Maps
/-- a write of the document: the object, and whether it is a del -/
structure Rw where
  name : ByteArray
  data : ByteArray
  del : Bool
def rcells (x : Rw) : List Value := [.string x.name, .string x.data, .bool x.del]
/-- the document's store -/
structure Rf where
  good : List Ob
  writes : List Rw
  down : Bool
  ahead : Option Nat
  room : Option Nat
def less1 (n : Option Nat) : Int := match n with
  | none => -1
  | some k => (k : Int)
def rfcells (gv wv : Value) (r : Rf) : Array Value := #[gv, wv, .bool r.down, .int .i64 (less1 r.ahead), .int .i64 (less1 r.room)]
def IsRf (w : World) (S : Nat → Prop) (b : Nat) (r : Rf) : Prop :=
  ∃ gv wv, Has w b (rfcells gv wv r) 104 ∧ w.ownsRow 0 35 2 gv r.good.length (objCells r.good) ∧ w.ownsRow 0 117 3 wv r.writes.length (r.writes.flatMap rcells) ∧ S b ∧ (∀ g, gv.ownBlock = some g → S g) ∧ (∀ g, wv.ownBlock = some g → S g) ∧ (∀ i, S i → i < w.heap.size)
def AfterR (w w' : World) (S : Nat → Prop) (b : Nat) (r : Rf) : Prop := ∃ S', IsRf w' S' b r ∧ (∀ i, S' i → S i ∨ w.heap.size ≤ i) ∧ Only S w w'
theorem IsRf.only {w w' : World} {S S' : Nat → Prop} {b : Nat} {r : Rf} (h : IsRf w S b r) (ho : Only S' w w') (hn : ∀ i, S i → ¬ S' i) : IsRf w' S b r := by
  obtain ⟨gv, wv, h1, h2, h3, h4, h5, h6, h7⟩ := h
  exact ⟨gv, wv, ho.has h1 (hn _ h4), row_block h2 fun g hg hl => ho.block g hl (hn _ (h5 g hg)), row_block h3 fun g hg hl => ho.block g hl (hn _ (h6 g hg)), h4, h5, h6, fun i hi => Nat.lt_of_lt_of_le (h7 i hi) ho.size⟩
theorem IsRf.below {w w' : World} {S : Nat → Prop} {b : Nat} {r : Rf} (h : IsRf w S b r) (hb : Below w.heap.size w w') : IsRf w' S b r := h.only (S' := fun _ => False) (Only.of_below hb) fun _ _ h => h
theorem IsRf.cells {w : World} {S : Nat → Prop} {b : Nat} {r : Rf} (h : IsRf w S b r) : ∃ gv wv, (w.cell? ⟨b, 0, none⟩ = some gv ∧ w.cell? ⟨b, 1, none⟩ = some wv ∧ w.cell? ⟨b, 2, none⟩ = some (.bool r.down) ∧ w.cell? ⟨b, 3, none⟩ = some (.int .i64 (less1 r.ahead)) ∧ w.cell? ⟨b, 4, none⟩ = some (.int .i64 (less1 r.room))) ∧ w.ownsRow 0 35 2 gv r.good.length (objCells r.good) ∧ w.ownsRow 0 117 3 wv r.writes.length (r.writes.flatMap rcells) ∧ ∀ i, w.frozen? ⟨b, i, none⟩ = false := by
  obtain ⟨gv, wv, h1, h2, h3, _⟩ := h
  exact ⟨gv, wv, ⟨h1.cell 0, h1.cell 1, h1.cell 2, h1.cell 3, h1.cell 4⟩, h2, h3, fun i => h1.frozen i⟩
theorem AfterR.refl {w : World} {S : Nat → Prop} {b : Nat} {r : Rf} (h : IsRf w S b r) : AfterR w w S b r := ⟨S, h, fun _ h => .inl h, Only.refl _ _⟩
theorem AfterR.of_below {w w' : World} {S : Nat → Prop} {b : Nat} {r : Rf} (h : IsRf w S b r) (hb : Below w.heap.size w w') : AfterR w w' S b r := ⟨S, h.below hb, fun _ h => .inl h, Only.of_below hb⟩
/-- one cell that is no list is written -/
theorem AfterR.turn {w : World} {S : Nat → Prop} {b : Nat} {r : Rf} (h : IsRf w S b r) (i : Nat) (v : Value) (r' : Rf) (he : r'.good = r.good ∧ r'.writes = r.writes) (hc : ∀ gv wv, (rfcells gv wv r).setIfInBounds i v = rfcells gv wv r') : AfterR w (w.setCell ⟨b, i, none⟩ v) S b r' := by
  obtain ⟨gv, wv, h1, h2, h3, h4, h5, h6, h7⟩ := h
  refine ⟨S, ⟨gv, wv, ?_, by rw [he.1]; exact row_setb h2 h1 (by decide) i v, by rw [he.2]; exact row_setb h3 h1 (by decide) i v, h4, h5, h6, fun j hj => by have := h7 j hj; simpa [World.setCell] using this⟩, fun _ h => .inl h, (Only.refl _ _).set (.inl h4) v⟩
  have := h1.set i v
  rw [hc gv wv] at this; exact this
def rf0 : Rf := ⟨[], [], false, none, none⟩
set_option maxRecDepth 20000 in
theorem refNew_any (w : World) : Calls Tryz.prog 27 #[] w fun e w' => ∃ b S, e = .returned (ptr b) ∧ IsRf w' S b rf0 ∧ (∀ i, S i → w.heap.size ≤ i) ∧ Below w.heap.size w w' := by
  go_enter Tryz.func27, Tryz.ntmps27
  go_wp2_with fail
  go_ret
  exact ⟨w.heap.size, fun i => i = w.heap.size, rfl, ⟨.slice none 0 0, .slice none 0 0, Has.new _ _ _ _ rfl, World.ownsRow_nil _ _ _ _, World.ownsRow_nil _ _ _ _, rfl, fun g hg => by simp [Value.ownBlock] at hg, fun g hg => by simp [Value.ownBlock] at hg, fun i hi => by subst hi; simp⟩, fun i hi => by subst hi; exact Nat.le_refl _, boxed w _⟩
set_option maxRecDepth 20000 in
theorem refUp_any {w : World} {S : Nat → Prop} {b : Nat} {r : Rf} (h : IsRf w S b r) : Calls Tryz.prog 46 #[ptr b] w fun e w' => e = .returned (.bool (!r.down)) ∧ w' = w := by
  obtain ⟨gv, wv, ⟨c0, c1, c2, c3, c4⟩, _⟩ := h.cells
  clear h
  unfold ptr
  go_enter Tryz.func46, Tryz.ntmps46
  go_wp2_with fail
  go_ret
  exact ⟨rfl, rfl⟩
theorem less1_lt (n : Option Nat) : (less1 n < 0) ↔ n = none := by
  cases n with
  | none => simp [less1]
  | some k => simp [less1]
set_option maxRecDepth 20000 in
theorem refSound_any {w : World} {S : Nat → Prop} {b : Nat} {r : Rf} (h : IsRf w S b r) : Calls Tryz.prog 76 #[ptr b] w fun e w' => e = .returned (.bool (!r.down && r.ahead.isNone)) ∧ w' = w := by
  obtain ⟨gv, wv, ⟨c0, c1, c2, c3, c4⟩, _⟩ := h.cells
  clear h
  unfold ptr
  cases hd : r.down with
  | true =>
    rw [hd] at c2
    clear hd
    go_enter Tryz.func76, Tryz.ntmps76
    go_wp2_with fail
    go_ret
    exact ⟨rfl, rfl⟩
  | false =>
    rw [hd] at c2
    clear hd
    cases ha : r.ahead with
    | none =>
      have q : less1 r.ahead < 0 := (less1_lt _).2 ha
      clear ha
      generalize less1 r.ahead = z at *
      go_enter Tryz.func76, Tryz.ntmps76
      go_wp2_with fail
      go_ret
      exact ⟨rfl, rfl⟩
    | some k =>
      have q : ¬ less1 r.ahead < 0 := fun h => by rw [(less1_lt _).1 h] at ha; cases ha
      clear ha
      generalize less1 r.ahead = z at *
      go_enter Tryz.func76, Tryz.ntmps76
      go_wp2_with fail
      go_ret
      exact ⟨rfl, rfl⟩
/-- a write that is tried is counted -/
def rcount (r : Rf) : Bool × Rf := match r.ahead with
  | none => (false, r)
  | some 0 => (true, { r with ahead := none })
  | some (n + 1) => (false, { r with ahead := some n })
set_option maxRecDepth 20000 in
theorem refRefused_any {w : World} {S : Nat → Prop} {b : Nat} {r : Rf} (h : IsRf w S b r) (hn : ∀ n, r.ahead = some n → n < 9223372036854775808) : Calls Tryz.prog 89 #[ptr b] w fun e w' => e = .returned (.bool (rcount r).1) ∧ AfterR w w' S b (rcount r).2 := by
  have HR := hid (AfterR.refl h)
  have HT := hid (show ∀ (z : Int) (a : Option Nat), less1 a = z → AfterR w (w.setCell ⟨b, 3, none⟩ (.int .i64 z)) S b { r with ahead := a } from fun z a hz => AfterR.turn h 3 _ _ ⟨rfl, rfl⟩ fun gv wv => by rw [← hz]; rfl)
  obtain ⟨gv, wv, ⟨c0, c1, c2, c3, c4⟩, _, _, hf⟩ := h.cells
  have f3 := hf 3
  have HH : Hid (∀ v, (w.setCell ⟨b, 3, none⟩ v).cell? ⟨b, 3, none⟩ = some v) := hid fun v => by
    obtain ⟨gv, wv, h1, _⟩ := h
    exact (h1.set 3 v).cell 3
  clear h hf
  unfold ptr rcount
  cases ha : r.ahead with
  | none =>
    rw [ha] at c3
    have c3' : w.cell? ⟨b, 3, none⟩ = some (.int .i64 (-1)) := c3
    clear c3 ha HT HH
    go_enter Tryz.func89, Tryz.ntmps89
    go_wp2_with fail
    go_ret
    exact ⟨rfl, HR.out⟩
  | some n =>
    rw [ha] at c3
    have c3' : w.cell? ⟨b, 3, none⟩ = some (.int .i64 (n : Int)) := c3
    have hn' := hn n ha
    have q0 : ¬ ((n : Int) < 0) := by omega
    clear c3 hn ha
    cases n with
    | zero =>
      have q1 := HH.out (.int .i64 (-1))
      have HX := hid (HT.out (-1) none rfl)
      clear HT HH
      go_enter Tryz.func89, Tryz.ntmps89
      go_wp2_with fail
      go_ret
      exact ⟨rfl, HX.out⟩
    | succ m =>
      have hw : IntKind.i64.wrap (((m + 1 : Nat) : Int) - 1) = (m : Int) := by rw [wrap_i64_of (by omega) (by omega)]; omega
      have q1 := HH.out (.int .i64 (m : Int))
      have q2 : ((m : Int) == -1) = false := beq_eq_false_iff_ne.2 (by omega)
      have HX := hid (HT.out (m : Int) (some m) rfl)
      clear HT HH
      go_enter Tryz.func89, Tryz.ntmps89
      go_wp2_with fail
      go_ret
      exact ⟨rfl, HX.out⟩
end Go.Proofs.YtgdiaflikfdnaaaGreat
