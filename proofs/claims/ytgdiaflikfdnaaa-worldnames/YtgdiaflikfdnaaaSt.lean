/- What a store is, and how it lies in memory: a map of what is seen, a row of writes. -/
import Derived.Test.YtgdiaflikfdnaaaNum
import Derived.Test.YtgdiaflikfdnaaaTl
import Derived.Test.YtgdiaflikfdnaaaShelf
import Derived.Maps.Ext
import Derived.Maps.RangeWalk
import Derived.Maps.StringElems
import Derived.Sort.Walk0
namespace Go.Proofs.Ytgdiaflikfdnaaa
open Go.RowKit Go.Maps
/-- nothing has turned but blocks of S, and new ones -/
structure Only (S : Nat → Prop) (w w' : World) : Prop where
  os : w'.os = w.os
  tape : w'.tape = w.tape
  output : w'.output = w.output
  size : w.heap.size ≤ w'.heap.size
  block : ∀ k, k < w.heap.size → ¬ S k → w'.heap[k]? = w.heap[k]?
theorem Only.refl (S : Nat → Prop) (w : World) : Only S w w := ⟨rfl, rfl, rfl, Nat.le_refl _, fun _ _ _ => rfl⟩
theorem Only.trans {S S' : Nat → Prop} {a b c : World} (h : Only S a b) (k : Only S' b c) (hs : ∀ i, S' i → S i ∨ a.heap.size ≤ i) : Only S a c :=
  ⟨k.os.trans h.os, k.tape.trans h.tape, k.output.trans h.output, Nat.le_trans h.size k.size, fun i hi hn => (k.block i (Nat.lt_of_lt_of_le hi h.size) fun hk => by
    rcases hs i hk with h1 | h1
    · exact hn h1
    · omega).trans (h.block i hi hn)⟩
theorem Only.of_below {S : Nat → Prop} {w w' : World} (h : Below w.heap.size w w') : Only S w w' := ⟨h.os, h.tape, h.output, h.size, fun i hi _ => h.block i hi⟩
theorem Only.next {S : Nat → Prop} {a b c : World} (h : Only S a b) (k : Below b.heap.size b c) : Only S a c := h.trans (Only.of_below (S := S) k) fun _ h => .inl h
theorem Only.of_grown {S : Nat → Prop} {w w' : World} {row : Option Nat} (h : w.grownBy w' row) (hr : ∀ k, row = some k → S k) : Only S w w' :=
  ⟨h.os, h.tape, h.output, h.size, fun i hi hn => h.block i hi fun e => hn (hr i e.symm)⟩
theorem Only.set {S : Nat → Prop} {a w : World} (h : Only S a w) {p : Addr} (hp : S p.block ∨ a.heap.size ≤ p.block) (u : Value) : Only S a (w.setCell p u) :=
  h.trans (S' := fun i => i = p.block) ⟨rfl, rfl, rfl, by simp [World.setCell], fun i _ hn => Below.heap_setCell _ _ _ _ hn⟩ fun i hi => by rw [hi]; exact hp
theorem Only.alloc {S : Nat → Prop} {a w : World} (h : Only S a w) (o : Obj) : Only S a (w.alloc o) := h.next ((Below.refl _ _).alloc (Nat.le_refl _) _)
theorem Only.drew {S : Nat → Prop} {a w : World} (h : Only S a w) : Only S a w.drew := ⟨h.os, h.tape, h.output, h.size, h.block⟩
theorem Only.below {S : Nat → Prop} {w w' : World} (h : Only S w w') {B : Nat} (hB : B ≤ w.heap.size) (hs : ∀ i, S i → B ≤ i) : Below B w w' :=
  ⟨h.os, h.tape, h.output, h.size, fun i hi => h.block i (by omega) fun hi' => by have := hs i hi'; omega⟩
theorem Only.mono {S S' : Nat → Prop} {w w' : World} (h : Only S w w') (hs : ∀ i, S i → S' i) : Only S' w w' := ⟨h.os, h.tape, h.output, h.size, fun i hi hn => h.block i hi fun hk => hn (hs i hk)⟩
theorem Only.has {S : Nat → Prop} {w w' : World} (h : Only S w w') {b : Nat} {cs : Array Value} {t : TypeId} (hh : Has w b cs t) (hn : ¬ S b) : Has w' b cs t := by
  have hl := hh.lt; unfold Has at hh ⊢; rw [h.block b hl hn]; exact hh
/-- what stands under a name, as a value -/
def cv (c : Option ByteArray) : Value := .agg #[.bool c.isSome, .string (c.getD ⟨#[]⟩)]
theorem cv_none : cv none = .agg #[.bool false, .string ⟨#[]⟩] := rfl
theorem cv_some (d : ByteArray) : cv (some d) = .agg #[.bool true, .string d] := rfl
/-- how an element of the map reads -/
def contR (v : Value) : Option (DataW Unit × List MemPlace) := match v with
  | .agg ⟨[.bool true, .string s]⟩ => some (.lit (.string s.data.toList), [])
  | _ => none
theorem contR_some (d : ByteArray) : contR (cv (some d)) = some (.lit (.string d.data.toList), []) := rfl
theorem contR_inv {v : Value} {y : DataW Unit × List MemPlace} (h : contR v = some y) : ∃ d : ByteArray, v = cv (some d) ∧ y = (.lit (.string d.data.toList), []) := by
  unfold contR at h
  split at h
  · cases h; exact ⟨_, rfl, rfl⟩
  · cases h
def ent (p : Ob) : Lit × DataW Unit := (.string p.1.data.toList, .lit (.string p.2.data.toList))
def DM (M : List Ob) : DataW Unit := .map (M.map ent)
theorem DM_size (M : List Ob) : Maps.size (DM M) = M.length := by simp [DM, Maps.size]
theorem same_str (a b : ByteArray) : (Lit.string a.data.toList).sameKey (.string b.data.toList) = decide (a = b) := by
  show (a.data.toList == b.data.toList) = _
  rw [Bool.eq_iff_iff]
  simp only [beq_iff_eq, decide_eq_true_eq]
  exact ⟨ba_ext, fun h => by rw [h]⟩
theorem DM_del (M : List Ob) (n : ByteArray) : (DM M).del (.string n.data.toList) = DM (drop n M) := by
  show DataW.map (List.filter _ (M.map ent)) = DataW.map ((drop n M).map ent)
  congr 1
  unfold drop
  rw [List.filter_map]
  congr 1
  refine List.filter_congr fun p _ => ?_
  show (!(Lit.string p.1.data.toList).sameKey (.string n.data.toList)) = _
  rw [same_str]; simp
theorem bytesBefore_eq : ∀ (x y : List UInt8), Go.bytesBefore x y = decide (x < y)
  | [], [] => by simp [Go.bytesBefore]
  | _ :: _, [] => by simp [Go.bytesBefore]
  | [], _ :: _ => by simp [Go.bytesBefore]
  | a :: r, b :: s => by
    rw [Go.bytesBefore, bytesBefore_eq r s, Bool.eq_iff_iff]
    simp [List.cons_lt_cons_iff]
theorem before_str (a b : ByteArray) : (Lit.string a.data.toList).before (.string b.data.toList) = lt a b := bytesBefore_eq _ _
theorem insert_ins (o : Ob) : ∀ (M : List Ob), (∀ p ∈ M, p.1 ≠ o.1) → DataW.insert (ent o) (M.map ent) = (ins o M).map ent
  | [], _ => rfl
  | q :: r, h => by
    rw [List.map_cons, DataW.insert]
    have hq : q.1 ≠ o.1 := h q List.mem_cons_self
    have e : (ent o).1.before (ent q).1 = !lt q.1 o.1 := by
      show (Lit.string o.1.data.toList).before (.string q.1.data.toList) = _
      rw [before_str]
      cases h1 : lt q.1 o.1 with
      | true => rw [lt_asymm h1]; rfl
      | false =>
        cases h2 : lt o.1 q.1 with
        | true => rfl
        | false => exact absurd (lt_conn h1 h2) hq
    rw [e]
    unfold ins
    cases h1 : lt q.1 o.1 with
    | true => simp [insert_ins o r (fun p hp => h p (List.mem_cons_of_mem _ hp))]
    | false => simp
theorem DM_put (M : List Ob) (n d : ByteArray) : (DM M).put (.string n.data.toList) (.lit (.string d.data.toList)) = DM (put (n, d) M) := by
  have h := DM_del M n
  have e : (DM M).put (.string n.data.toList) (.lit (.string d.data.toList)) = .map (DataW.insert (ent (n, d)) (List.filter (fun p => !p.1.sameKey (.string n.data.toList)) (M.map ent))) := rfl
  have e2 : List.filter (fun p : Lit × DataW Unit => !p.1.sameKey (.string n.data.toList)) (M.map ent) = (drop n M).map ent := by
    have : DataW.map (List.filter (fun p : Lit × DataW Unit => !p.1.sameKey (.string n.data.toList)) (M.map ent)) = DataW.map ((drop n M).map ent) := h
    simpa using this
  rw [e, e2, insert_ins (n, d) (drop n M) fun p hp => (mem_drop.1 hp).2]
  rfl
/-- block m is a map of what is seen -/
def MapIs (w : World) (m : Nat) (M : List Ob) : Prop := w.ownsMap Try.prog 9 contR m M.length (DM M) ∧ Rising M ∧ ∀ p ∈ M, p.1.size ≤ maxLen
def MapV (w : World) (mo : Option Nat) (M : List Ob) : Prop := match mo with
  | none => M = []
  | some m => MapIs w m M
theorem key9 : Keyed Try.prog 9 := string_keyed Try.underlying9
theorem zero67 (w : World) : (zeroValue 85).run Try.prog w = .ok (cv none) w := by kernel_rfl
theorem keyOf9 {n : ByteArray} (hn : n.size ≤ maxLen) : keyOf Try.prog 9 (.string n) = some (.string n.data.toList) := by
  have h9 := Try.underlying9
  simp [keyOf, h9, mapKey, hn]
theorem MapIs.lt {w : World} {m : Nat} {M : List Ob} (h : MapIs w m M) : m < w.heap.size := h.1.lt
theorem MapIs.block {w w' : World} {m : Nat} {M : List Ob} (h : MapIs w m M) (hb : w'.heap[m]? = w.heap[m]?) : MapIs w' m M := by
  obtain ⟨⟨es, clock, h1, h2⟩, h3⟩ := h
  exact ⟨⟨es, clock, by rw [hb]; exact h1, h2⟩, h3⟩
theorem MapIs.below {w w' : World} {m : Nat} {M : List Ob} (h : MapIs w m M) (hb : Below w.heap.size w w') : MapIs w' m M := h.block (hb.block m h.lt)
theorem atKey_DM {M : List Ob} (n : ByteArray) (z : DataW Unit) : (DM M).atKey (.string n.data.toList) z = match look n M with | some d => .lit (.string d.data.toList) | none => z := by
  unfold DM DataW.atKey
  simp only []
  rw [List.find?_map]
  have e : ((fun p : Lit × DataW Unit => p.1.sameKey (.string n.data.toList)) ∘ ent) = fun p : Ob => decide (p.1 = n) := by
    funext p; exact same_str p.1 n
  rw [e]
  unfold look
  cases M.find? (fun p => decide (p.1 = n)) with
  | none => rfl
  | some p => rfl
theorem lit_inj {a b : ByteArray} (h : (DataW.lit (.string a.data.toList) : DataW Unit) = .lit (.string b.data.toList)) : a = b := by
  simp only [DataW.lit.injEq, Lit.string.injEq] at h
  exact ba_ext h
theorem MapIs.look {w : World} {m : Nat} {M : List Ob} (h : MapIs w m M) {n : ByteArray} (hn : n.size ≤ maxLen) (c : Bool) : (Instr.lookup 80 (.map (some m)) (.string n) c).run Try.prog w = .ok (if c then .tuple #[cv (look n M), .bool (look n M).isSome] else cv (look n M)) w := by
  obtain ⟨⟨es, clock, hb, F, hs, hD⟩, h2, _⟩ := h
  rcases fit_look c key9 Try.underlying80 (zero67 w) hb F (keyOf9 hn) with ⟨hrun, _, hat⟩ | ⟨e0, y, _, _, hrun, hRv, hat, _⟩
  · have h0 := hat .nil
    rw [← hD, atKey_DM] at h0
    cases hl : Ytgdiaflikfdnaaa.look n M with
    | none => rw [hrun]; cases c <;> rfl
    | some d => rw [hl] at h0; cases h0
  · have h0 := hat .nil
    obtain ⟨d0, e1, e2⟩ := contR_inv hRv
    rw [← hD, atKey_DM, e2] at h0
    cases hl : Ytgdiaflikfdnaaa.look n M with
    | none => rw [hl] at h0; cases h0
    | some d =>
      rw [hl] at h0
      have := lit_inj h0
      subst this
      rw [hrun, e1]; cases c <;> rfl
theorem MapV.look {w : World} {mo : Option Nat} {M : List Ob} (h : MapV w mo M) {n : ByteArray} (hn : n.size ≤ maxLen) (c : Bool) : (Instr.lookup 80 (.map mo) (.string n) c).run Try.prog w = .ok (if c then .tuple #[cv (look n M), .bool (look n M).isSome] else cv (look n M)) w := by
  cases mo with
  | none =>
    have : M = [] := h
    subst this
    exact look_nil c key9 Try.underlying80 (zero67 w) (keyOf9 hn)
  | some m => exact MapIs.look h hn c
theorem own_tight {w : World} {b n : Nat} {D : DataW Unit} (h : w.ownsMap Try.prog 9 contR b n D) : w.ownsMap Try.prog 9 contR b (Maps.size D) D := by
  obtain ⟨es, clock, h1, h2, h3, rfl⟩ := h
  exact ⟨es, clock, h1, h2, by simp [Maps.size, length_sorted], rfl⟩
theorem MapIs.put {w : World} {m : Nat} {M : List Ob} (h : MapIs w m M) (hM : M.length < maxLen) {n : ByteArray} (hn : n.size ≤ maxLen) (d : ByteArray) : ∃ w', (Instr.mapUpdate 80 (.map (some m)) (.string n) (cv (some d))).run Try.prog w = .ok () w' ∧ MapIs w' m (put (n, d) M) ∧ w.grownBy w' (some m) := by
  obtain ⟨w', hrun, r1, r2⟩ := h.1.update key9 Try.underlying80 hM (keyOf9 hn) (contR_some d)
  rw [DM_put] at r1
  have := own_tight r1
  rw [DM_size] at this
  refine ⟨w', hrun, ⟨this, rising_put h.2.1, fun p hp => ?_⟩, r2⟩
  rcases mem_put.1 hp with rfl | hp
  · exact hn
  · exact h.2.2 p hp.1
theorem MapV.del {w : World} {mo : Option Nat} {M : List Ob} (h : MapV w mo M) {n : ByteArray} (hn : n.size ≤ maxLen) (ty : TypeId) : ∃ w', (Builtin.delete_ #[80, 9] ty #[.map mo, .string n]).run Try.prog w = .ok (.tuple #[]) w' ∧ MapV w' mo (drop n M) ∧ w.grownBy w' mo := by
  cases mo with
  | none =>
    have : M = [] := h
    subst this
    exact ⟨w, drop_nil key9 Try.underlying80 (keyOf9 hn) ty, rfl, World.grownBy.refl _ _⟩
  | some m =>
    obtain ⟨w', hrun, r1, r2⟩ := h.1.drop key9 Try.underlying80 (keyOf9 hn) ty
    rw [DM_del] at r1
    have := own_tight r1
    rw [DM_size] at this
    exact ⟨w', hrun, ⟨this, rising_drop h.2.1, fun p hp => h.2.2 p (mem_drop.1 hp).1⟩, r2.grown⟩
theorem MapIs.made (w : World) : MapIs (w.alloc (.map #[] 0)) w.heap.size [] := ⟨World.ownsMap_made _ _ _ _, rising_nil, fun _ h => by cases h⟩
theorem MapV.rising {w : World} {mo : Option Nat} {M : List Ob} (h : MapV w mo M) : Rising M := by
  cases mo with
  | none => rw [show M = [] from h]; exact rising_nil
  | some m => exact h.2.1
theorem MapV.block {w w' : World} {mo : Option Nat} {M : List Ob} (h : MapV w mo M) (hb : ∀ m, mo = some m → m < w.heap.size → w'.heap[m]? = w.heap[m]?) : MapV w' mo M := by
  cases mo with
  | none => exact h
  | some m => exact MapIs.block h (hb m rfl (MapIs.lt h))
/-- a write: its name, what it took the place of, what it makes -/
structure Wr where
  name : ByteArray
  was : Option ByteArray
  now : Option ByteArray
instance : DecidableEq Wr := fun a b => decidable_of_iff (a.name = b.name ∧ a.was = b.was ∧ a.now = b.now) (by cases a; cases b; simp)
def wcells (x : Wr) : List Value := [.string x.name, .bool x.was.isSome, .string (x.was.getD ⟨#[]⟩), .bool x.now.isSome, .string (x.now.getD ⟨#[]⟩)]
/-- a store -/
structure St where
  seen : List Ob
  writes : List Wr
  down : Bool
  refuse : Option Nat
  room : Option Nat
  live : Bool
instance : DecidableEq St := fun a b => decidable_of_iff (a.seen = b.seen ∧ a.writes = b.writes ∧ a.down = b.down ∧ a.refuse = b.refuse ∧ a.room = b.room ∧ a.live = b.live) (by cases a; cases b; simp)
def scells (mo : Option Nat) (wv : Value) (s : St) : Array Value := #[.map mo, wv, .bool s.down, .bool s.refuse.isSome, .int .i64 ((s.refuse.getD 0 : Nat) : Int), .bool s.room.isSome, .int .i64 ((s.room.getD 0 : Nat) : Int)]
/-- block b is a store; all that is its own lies in S -/
def IsSt (w : World) (S : Nat → Prop) (b : Nat) (s : St) : Prop :=
  ∃ mo wv, Has w b (scells mo wv s) 83 ∧ MapV w mo s.seen ∧ w.ownsRow 0 96 5 wv s.writes.length (s.writes.flatMap wcells) ∧ S b ∧ (∀ m, mo = some m → S m) ∧ (∀ g, wv.ownBlock = some g → S g) ∧ (∀ i, S i → i < w.heap.size) ∧ mo.isSome = s.live
/-- behind a call on the store b that owned S in w: it is s now -/
def After (w w' : World) (S : Nat → Prop) (b : Nat) (s : St) : Prop := ∃ S', IsSt w' S' b s ∧ (∀ i, S' i → S i ∨ w.heap.size ≤ i) ∧ Only S w w'
theorem mapIs_ne {w : World} {m b : Nat} {M : List Ob} {cs : Array Value} {t : TypeId} (h : MapIs w m M) (hb : Has w b cs t) : m ≠ b := by
  rintro rfl
  obtain ⟨⟨es, clock, h1, _⟩, _⟩ := h
  unfold Has at hb
  rw [h1] at hb; cases hb
theorem MapV.setb {w : World} {mo : Option Nat} {M : List Ob} (h : MapV w mo M) {b : Nat} {cs : Array Value} {t : TypeId} (hb : Has w b cs t) (i : Nat) (v : Value) : MapV (w.setCell ⟨b, i, none⟩ v) mo M := by
  cases mo with
  | none => exact h
  | some m => exact MapIs.block h (Below.heap_setCell _ _ _ _ (mapIs_ne h hb))
theorem row_ne {w : World} {base k n : Nat} {e t : TypeId} {v : Value} {xs : List Value} (h : w.ownsRow base e k v n xs) {b : Nat} {cs : Array Value} (hb : Has w b cs t) (hne : t ≠ e) : ∀ g, v.ownBlock = some g → g ≠ b := by
  rintro g hg rfl
  rcases h.2 with ⟨rfl, _⟩ | ⟨g', cap, cur, rfl, _, h3, _⟩
  · simp [Value.ownBlock] at hg
  · simp [Value.ownBlock] at hg
    subst hg
    unfold Has at hb
    rw [h3] at hb
    simp only [Option.some.injEq, Obj.cells.injEq] at hb
    exact hne hb.2.1.symm
theorem row_block {w w' : World} {base k n : Nat} {e : TypeId} {v : Value} {xs : List Value} (h : w.ownsRow base e k v n xs) (hb : ∀ g, v.ownBlock = some g → g < w.heap.size → w'.heap[g]? = w.heap[g]?) : w'.ownsRow base e k v n xs := by
  refine ⟨h.1, ?_⟩
  rcases h.2 with h2 | ⟨g, cap, cur, rfl, h2, h3, h4⟩
  · exact .inl h2
  · exact .inr ⟨g, cap, cur, rfl, h2, by rw [hb g rfl (Array.getElem?_eq_some_iff.1 h3).1]; exact h3, h4⟩
theorem row_setb {w : World} {base k n : Nat} {e t : TypeId} {v : Value} {xs : List Value} (h : w.ownsRow base e k v n xs) {b : Nat} {cs : Array Value} (hb : Has w b cs t) (hne : t ≠ e) (i : Nat) (u : Value) : (w.setCell ⟨b, i, none⟩ u).ownsRow base e k v n xs :=
  row_block h fun g hg _ => Below.heap_setCell _ _ _ _ (row_ne h hb hne g hg)
theorem IsSt.lt {w : World} {S : Nat → Prop} {b : Nat} {s : St} (h : IsSt w S b s) : b < w.heap.size := by
  obtain ⟨_, _, h1, _⟩ := h; exact h1.lt
theorem IsSt.only {w w' : World} {S S' : Nat → Prop} {b : Nat} {s : St} (h : IsSt w S b s) (ho : Only S' w w') (hn : ∀ i, S i → ¬ S' i) : IsSt w' S b s := by
  obtain ⟨mo, wv, h1, h2, h3, h4, h5, h6, h7, h8⟩ := h
  exact ⟨mo, wv, ho.has h1 (hn _ h4), h2.block fun m hm hl => ho.block m hl (hn _ (h5 m hm)), row_block h3 fun g hg hl => ho.block g hl (hn _ (h6 g hg)), h4, h5, h6, fun i hi => Nat.lt_of_lt_of_le (h7 i hi) ho.size, h8⟩
theorem IsSt.below {w w' : World} {S : Nat → Prop} {b : Nat} {s : St} (h : IsSt w S b s) (hb : Below w.heap.size w w') : IsSt w' S b s := h.only (S' := fun _ => False) (Only.of_below hb) fun _ _ h => h
theorem IsSt.wider {w : World} {S S' : Nat → Prop} {b : Nat} {s : St} (h : IsSt w S b s) (h1 : ∀ i, S i → S' i) (h2 : ∀ i, S' i → i < w.heap.size) : IsSt w S' b s := by
  obtain ⟨mo, wv, g1, g2, g3, g4, g5, g6, _, g8⟩ := h
  exact ⟨mo, wv, g1, g2, g3, h1 _ g4, fun m hm => h1 _ (g5 m hm), fun g hg => h1 _ (g6 g hg), h2, g8⟩
theorem IsSt.drew {w : World} {S : Nat → Prop} {b : Nat} {s : St} (h : IsSt w S b s) : IsSt w.drew S b s := h
/-- its cells, one by one -/
theorem scells_cell {w : World} {b : Nat} {mo : Option Nat} {wv : Value} {s : St} (h : Has w b (scells mo wv s) 83) :
    w.cell? ⟨b, 0, none⟩ = some (.map mo) ∧ w.cell? ⟨b, 1, none⟩ = some wv ∧ w.cell? ⟨b, 2, none⟩ = some (.bool s.down) ∧ w.cell? ⟨b, 3, none⟩ = some (.bool s.refuse.isSome) ∧ w.cell? ⟨b, 4, none⟩ = some (.int .i64 ((s.refuse.getD 0 : Nat) : Int)) ∧ w.cell? ⟨b, 5, none⟩ = some (.bool s.room.isSome) ∧ w.cell? ⟨b, 6, none⟩ = some (.int .i64 ((s.room.getD 0 : Nat) : Int)) :=
  ⟨h.cell 0, h.cell 1, h.cell 2, h.cell 3, h.cell 4, h.cell 5, h.cell 6⟩
theorem After.refl {w : World} {S : Nat → Prop} {b : Nat} {s : St} (h : IsSt w S b s) : After w w S b s := ⟨S, h, fun _ h => .inl h, Only.refl _ _⟩
theorem After.of_below {w w' : World} {S : Nat → Prop} {b : Nat} {s : St} (h : IsSt w S b s) (hb : Below w.heap.size w w') : After w w' S b s := ⟨S, h.below hb, fun _ h => .inl h, Only.of_below hb⟩
/-- first memory alone, then a change -/
theorem After.front {w w1 w2 : World} {S : Nat → Prop} {b : Nat} {s : St} (hb : Below w.heap.size w w1) (h : After w1 w2 S b s) : After w w2 S b s := by
  obtain ⟨S', h1, h2, h3⟩ := h
  refine ⟨S', h1, fun i hi => ?_, (Only.of_below hb).trans h3 fun _ h => .inl h⟩
  rcases h2 i hi with h | h
  · exact .inl h
  · exact .inr (Nat.le_trans hb.size h)
theorem After.next {w w1 w2 : World} {S : Nat → Prop} {b : Nat} {s : St} (h : After w w1 S b s) (hb : Below w1.heap.size w1 w2) : After w w2 S b s := by
  obtain ⟨S', h1, h2, h3⟩ := h
  exact ⟨S', h1.below hb, h2, h3.next hb⟩
/-- two changes -/
theorem After.trans {w w1 w2 : World} {S S1 : Nat → Prop} {b : Nat} {s2 : St} (hs : ∀ i, S1 i → S i ∨ w.heap.size ≤ i) (ho : Only S w w1) (h : After w1 w2 S1 b s2) : After w w2 S b s2 := by
  obtain ⟨S', h1, h2, h3⟩ := h
  refine ⟨S', h1, fun i hi => ?_, ho.trans h3 hs⟩
  rcases h2 i hi with h | h
  · exact hs i h
  · exact .inr (Nat.le_trans ho.size h)
theorem After.then {w w1 w2 : World} {S : Nat → Prop} {b : Nat} {s1 s2 : St} (h : After w w1 S b s1) (k : ∀ S', IsSt w1 S' b s1 → After w1 w2 S' b s2) : After w w2 S b s2 := by
  obtain ⟨S', h1, h2, h3⟩ := h
  exact After.trans h2 h3 (k S' h1)
/-- one cell of the store's own is written -/
theorem IsSt.turn {w : World} {S : Nat → Prop} {b : Nat} {s : St} (h : IsSt w S b s) (i : Nat) (v : Value) (s' : St) (he : s'.seen = s.seen ∧ s'.writes = s.writes ∧ s'.live = s.live) (hc : ∀ mo wv, (scells mo wv s).setIfInBounds i v = scells mo wv s') : IsSt (w.setCell ⟨b, i, none⟩ v) S b s' := by
  obtain ⟨mo, wv, h1, h2, h3, h4, h5, h6, h7, h8⟩ := h
  refine ⟨mo, wv, ?_, by rw [he.1]; exact h2.setb h1 i v, by rw [he.2.1]; exact row_setb h3 h1 (by decide) i v, h4, h5, h6, fun j hj => by have := h7 j hj; simpa [World.setCell] using this, by rw [he.2.2]; exact h8⟩
  have := h1.set i v
  rw [hc mo wv] at this; exact this
theorem After.turn {w : World} {S : Nat → Prop} {b : Nat} {s : St} (h : IsSt w S b s) (i : Nat) (v : Value) (s' : St) (he : s'.seen = s.seen ∧ s'.writes = s.writes ∧ s'.live = s.live) (hc : ∀ mo wv, (scells mo wv s).setIfInBounds i v = scells mo wv s') : After w (w.setCell ⟨b, i, none⟩ v) S b s' :=
  ⟨S, h.turn i v s' he hc, fun _ h => .inl h, (Only.refl _ _).set (.inl (by obtain ⟨_, _, _, _, _, h4, _⟩ := h; exact h4)) v⟩
/-- the writes are forgotten -/
theorem After.settle {w : World} {S : Nat → Prop} {b : Nat} {s : St} (h : IsSt w S b s) : After w (w.setCell ⟨b, 1, none⟩ (.slice none 0 0)) S b { s with writes := [] } := by
  obtain ⟨mo, wv, h1, h2, h3, h4, h5, h6, h7, h8⟩ := h
  refine ⟨S, ⟨mo, .slice none 0 0, ?_, h2.setb h1 _ _, World.ownsRow_nil _ _ _ _, h4, h5, fun g hg => by simp [Value.ownBlock] at hg, fun j hj => by have := h7 j hj; simpa [World.setCell] using this, h8⟩, fun _ h => .inl h, (Only.refl _ _).set (.inl h4) _⟩
  exact h1.set 1 _
/-- another map -/
theorem After.setMap {w : World} {S : Nat → Prop} {b : Nat} {s : St} (h : IsSt w S b s) (mo : Option Nat) (M : List Ob) (hM : MapV w mo M) (hS : ∀ m, mo = some m → m < w.heap.size ∧ (S m ∨ False)) : After w (w.setCell ⟨b, 0, none⟩ (.map mo)) S b { s with seen := M, live := mo.isSome } := by
  obtain ⟨mo0, wv, h1, h2, h3, h4, h5, h6, h7, h8⟩ := h
  refine ⟨S, ⟨mo, wv, ?_, hM.setb h1 _ _, row_setb h3 h1 (by decide) _ _, h4, fun m hm => ?_, h6, fun j hj => by have := h7 j hj; simpa [World.setCell] using this, rfl⟩, fun _ h => .inl h, (Only.refl _ _).set (.inl h4) _⟩
  · exact h1.set 0 _
  · rcases (hS m hm).2 with h | h
    · exact h
    · exact h.elim
end Go.Proofs.Ytgdiaflikfdnaaa
