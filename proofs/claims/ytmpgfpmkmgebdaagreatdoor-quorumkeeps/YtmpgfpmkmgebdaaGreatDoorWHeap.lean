/- Objects by rising names, as lists: looked up, put, dropped; writes and what they took the place of. No program in it. -/
import Derived.WalkKit
import Derived.WalkSpells
import Derived.WalkLawsBesides
import Derived.Deep.MidRow
namespace Go.Proofs.YtmpgfpmkmgebdaaGreatDoor.W
abbrev Ob := ByteArray × ByteArray
def lt (a b : ByteArray) : Bool := decide (a.data.toList < b.data.toList)
theorem ba_ext {a b : ByteArray} (h : a.data.toList = b.data.toList) : a = b := by
  cases a; cases b; simp at h; subst h; rfl
theorem lt_irrefl (a : ByteArray) : lt a a = false := by simp [lt]
theorem lt_trans {a b c : ByteArray} (h1 : lt a b = true) (h2 : lt b c = true) : lt a c = true := by
  simp only [lt, decide_eq_true_eq] at *; exact List.lt_trans h1 h2
theorem lt_conn {a b : ByteArray} (h1 : lt a b = false) (h2 : lt b a = false) : a = b := by
  simp only [lt, decide_eq_false_iff_not, List.not_lt] at *; exact ba_ext (List.le_antisymm h2 h1)
theorem lt_asymm {a b : ByteArray} (h1 : lt a b = true) : lt b a = false := by
  cases h : lt b a with
  | false => rfl
  | true => have := lt_trans h1 h; rw [lt_irrefl] at this; cases this
theorem lt_ne {a b : ByteArray} (h : lt a b = true) : a ≠ b := fun e => by rw [e, lt_irrefl] at h; cases h
/-- one laid in ahead of the first whose name is not less -/
def ins (o : Ob) : List Ob → List Ob
  | [] => [o]
  | p :: r => if lt p.1 o.1 then p :: ins o r else o :: p :: r
def drop (n : ByteArray) (M : List Ob) : List Ob := M.filter fun p => decide (p.1 ≠ n)
def put (o : Ob) (M : List Ob) : List Ob := ins o (drop o.1 M)
def look (n : ByteArray) (M : List Ob) : Option ByteArray := (M.find? fun p => decide (p.1 = n)).map (·.2)
def setC (n : ByteArray) (c : Option ByteArray) (M : List Ob) : List Ob := match c with
  | none => drop n M
  | some d => put (n, d) M
def Rising (M : List Ob) : Prop := M.Pairwise fun p q => lt p.1 q.1 = true
theorem rising_nil : Rising [] := List.Pairwise.nil
theorem mem_ins {o p : Ob} : ∀ {M : List Ob}, p ∈ ins o M ↔ p = o ∨ p ∈ M
  | [] => by simp [ins]
  | q :: r => by
    unfold ins
    split
    · rw [List.mem_cons, mem_ins, List.mem_cons]
      constructor
      · rintro (h | h | h)
        · exact .inr (.inl h)
        · exact .inl h
        · exact .inr (.inr h)
      · rintro (h | h | h)
        · exact .inr (.inl h)
        · exact .inl h
        · exact .inr (.inr h)
    · simp
theorem length_ins (o : Ob) : ∀ M : List Ob, (ins o M).length = M.length + 1
  | [] => rfl
  | q :: r => by
    unfold ins
    split
    · simp [length_ins o r]
    · rfl
theorem mem_drop {n : ByteArray} {p : Ob} {M : List Ob} : p ∈ drop n M ↔ p ∈ M ∧ p.1 ≠ n := by simp [drop]
theorem mem_put {o p : Ob} {M : List Ob} : p ∈ put o M ↔ p = o ∨ (p ∈ M ∧ p.1 ≠ o.1) := by rw [put, mem_ins, mem_drop]
theorem length_drop_le (n : ByteArray) (M : List Ob) : (drop n M).length ≤ M.length := List.length_filter_le _ _
theorem length_put_le (o : Ob) (M : List Ob) : (put o M).length ≤ M.length + 1 := by
  rw [put, length_ins]; have := length_drop_le o.1 M; omega
theorem length_setC_le (n : ByteArray) (c : Option ByteArray) (M : List Ob) : (setC n c M).length ≤ M.length + 1 := by
  cases c with
  | none => have := length_drop_le n M; simp [setC]; omega
  | some d => exact length_put_le _ _
theorem rising_drop {n : ByteArray} {M : List Ob} (h : Rising M) : Rising (drop n M) := List.Pairwise.filter _ h
theorem rising_ins {o : Ob} : ∀ {M : List Ob}, Rising M → (∀ p ∈ M, p.1 ≠ o.1) → Rising (ins o M)
  | [], _, _ => List.pairwise_singleton _ _
  | q :: r, h, hn => by
    obtain ⟨h1, h2⟩ := List.pairwise_cons.1 h
    unfold ins
    split
    · rename_i hq
      refine List.pairwise_cons.2 ⟨fun p hp => ?_, rising_ins h2 (fun p hp => hn p (List.mem_cons_of_mem _ hp))⟩
      rcases mem_ins.1 hp with rfl | hp
      · exact hq
      · exact h1 p hp
    · rename_i hq
      have hoq : lt o.1 q.1 = true := by
        cases hh : lt o.1 q.1 with
        | true => rfl
        | false => exact absurd (lt_conn (by simpa using hq) hh) (hn q List.mem_cons_self)
      refine List.pairwise_cons.2 ⟨fun p hp => ?_, h⟩
      rcases List.mem_cons.1 hp with rfl | hp
      · exact hoq
      · exact lt_trans hoq (h1 p hp)
theorem rising_put {o : Ob} {M : List Ob} (h : Rising M) : Rising (put o M) :=
  rising_ins (rising_drop h) fun _ hp => (mem_drop.1 hp).2
theorem rising_setC {n : ByteArray} {c : Option ByteArray} {M : List Ob} (h : Rising M) : Rising (setC n c M) := by
  cases c with
  | none => exact rising_drop h
  | some d => exact rising_put h
/-- rising lists with the same members are one -/
theorem rising_ext : ∀ {M N : List Ob}, Rising M → Rising N → (∀ p, p ∈ M ↔ p ∈ N) → M = N
  | [], [], _, _, _ => rfl
  | [], b :: s, _, _, h => by have := (h b).2 (by simp); simp at this
  | a :: r, [], _, _, h => by have := (h a).1 (by simp); simp at this
  | a :: r, b :: s, h1, h2, h => by
    obtain ⟨a1, a2⟩ := List.pairwise_cons.1 h1
    obtain ⟨b1, b2⟩ := List.pairwise_cons.1 h2
    have irr : ∀ {p : Ob}, lt p.1 p.1 = true → False := fun hh => by rw [lt_irrefl] at hh; cases hh
    have hab : a = b := by
      rcases List.mem_cons.1 ((h a).1 (by simp)) with e | ha
      · exact e
      · rcases List.mem_cons.1 ((h b).2 (by simp)) with e | hb
        · exact e.symm
        · exact (irr (lt_trans (a1 b hb) (b1 a ha))).elim
    subst hab
    rw [rising_ext a2 b2 fun p => ⟨fun hp => ?_, fun hp => ?_⟩]
    · rcases List.mem_cons.1 ((h p).1 (by simp [hp])) with e | hp'
      · exact (irr (p := p) (by have := a1 p hp; rw [← e] at this; exact this)).elim
      · exact hp'
    · rcases List.mem_cons.1 ((h p).2 (by simp [hp])) with e | hp'
      · exact (irr (p := p) (by have := b1 p hp; rw [← e] at this; exact this)).elim
      · exact hp'
theorem rising_inj {M : List Ob} (h : Rising M) {p q : Ob} (hp : p ∈ M) (hq : q ∈ M) (e : p.1 = q.1) : p = q := by
  induction M with
  | nil => cases hp
  | cons a r ih =>
    obtain ⟨a1, a2⟩ := List.pairwise_cons.1 h
    rcases List.mem_cons.1 hp with e1 | hp'
    · rcases List.mem_cons.1 hq with e2 | hq'
      · rw [e1, e2]
      · exact absurd (by rw [← e1]; exact e) (lt_ne (a1 q hq'))
    · rcases List.mem_cons.1 hq with e2 | hq'
      · exact absurd (by rw [← e2]; exact e.symm) (lt_ne (a1 p hp'))
      · exact ih a2 hp' hq'
theorem look_some {M : List Ob} (h : Rising M) {n d : ByteArray} : look n M = some d ↔ (n, d) ∈ M := by
  unfold look
  constructor
  · intro hh
    obtain ⟨p, hp, rfl⟩ := Option.map_eq_some_iff.1 hh
    have h1 := List.mem_of_find?_eq_some hp
    have h2 := List.find?_some hp
    simp only [decide_eq_true_eq] at h2
    subst h2; exact h1
  · intro hm
    cases hf : M.find? fun p => decide (p.1 = n) with
    | none => have := List.find?_eq_none.1 hf _ hm; simp at this
    | some p =>
      have h1 := List.mem_of_find?_eq_some hf
      have h2 := List.find?_some hf
      simp only [decide_eq_true_eq] at h2
      have := rising_inj h h1 hm h2
      subst this; rfl
theorem look_none {M : List Ob} {n : ByteArray} : look n M = none ↔ ∀ p ∈ M, p.1 ≠ n := by
  unfold look
  rw [Option.map_eq_none_iff, List.find?_eq_none]
  simp
/-- what a write took the place of, laid back, is what was -/
theorem setC_back {M : List Ob} (h : Rising M) (n : ByteArray) (c : Option ByteArray) : setC n (look n M) (setC n c M) = M := by
  refine rising_ext (rising_setC (rising_setC h)) h fun p => ?_
  have hin : ∀ {N : List Ob}, (∀ q : Ob, q.1 ≠ n → (q ∈ N ↔ q ∈ M)) → (p ∈ setC n (look n M) N ↔ p ∈ M) := fun {N} hN => by
    cases hl : look n M with
    | none =>
      have h0 := look_none.1 hl
      show p ∈ drop n N ↔ _
      rw [mem_drop]
      exact ⟨fun ⟨h1, h2⟩ => (hN p h2).1 h1, fun h1 => ⟨(hN p (h0 p h1)).2 h1, h0 p h1⟩⟩
    | some d =>
      have h0 := (look_some h).1 hl
      show p ∈ put (n, d) N ↔ _
      rw [mem_put]
      constructor
      · rintro (rfl | ⟨h1, h2⟩)
        · exact h0
        · exact (hN p h2).1 h1
      · intro h1
        by_cases e : p.1 = n
        · exact .inl (rising_inj h h1 h0 e)
        · exact .inr ⟨(hN p e).2 h1, e⟩
  refine hin fun q hq => ?_
  cases c with
  | none => show q ∈ drop n M ↔ _; rw [mem_drop]; exact ⟨fun h => h.1, fun h => ⟨h, hq⟩⟩
  | some d =>
    show q ∈ put (n, d) M ↔ _
    rw [mem_put]
    constructor
    · rintro (rfl | h1)
      · exact absurd rfl hq
      · exact h1.1
    · exact fun h => .inr ⟨h, hq⟩
theorem look_setC_same {M : List Ob} (h : Rising M) (n : ByteArray) (c : Option ByteArray) : look n (setC n c M) = c := by
  cases c with
  | none => exact look_none.2 fun p hp => (mem_drop.1 hp).2
  | some d => exact (look_some (rising_setC h)).2 (mem_put.2 (.inl rfl))
theorem mem_setC_other {M : List Ob} {n : ByteArray} {c : Option ByteArray} {q : Ob} (hq : q.1 ≠ n) : q ∈ setC n c M ↔ q ∈ M := by
  cases c with
  | none => show q ∈ drop n M ↔ _; rw [mem_drop]; exact ⟨fun h => h.1, fun h => ⟨h, hq⟩⟩
  | some d =>
    show q ∈ put (n, d) M ↔ _
    rw [mem_put]
    constructor
    · rintro (rfl | h1)
      · exact absurd rfl hq
      · exact h1.1
    · exact fun h => .inr ⟨h, hq⟩
theorem look_setC_other {M : List Ob} (h : Rising M) {n m : ByteArray} (c : Option ByteArray) (hm : m ≠ n) : look m (setC n c M) = look m M := by
  cases hl : look m M with
  | none => exact look_none.2 fun p hp e => look_none.1 hl p ((mem_setC_other (by rw [e]; exact hm)).1 hp) e
  | some d => exact (look_some (rising_setC h)).2 ((mem_setC_other hm).2 ((look_some h).1 hl))
theorem mem_setC {M : List Ob} {n : ByteArray} {c : Option ByteArray} {q : Ob} (h : q ∈ setC n c M) : q ∈ M ∨ (q.1 = n ∧ c = some q.2) := by
  cases c with
  | none => exact .inl (mem_drop.1 h).1
  | some d =>
    rcases mem_put.1 h with rfl | h
    · exact .inr ⟨rfl, rfl⟩
    · exact .inl h.1
end Go.Proofs.YtmpgfpmkmgebdaaGreatDoor.W
/- Small facts on blocks of memory: what a block holds, and that it holds it still. No program in it. -/
namespace Go.Proofs.YtmpgfpmkmgebdaaGreatDoor.W
open Go.RowKit
/-- block b holds these cells, all of which may be written -/
def Has (w : World) (b : Nat) (cs : Array Value) (t : TypeId) : Prop := w.heap[b]? = some (.cells cs t (0, 0))
theorem Has.lt {w : World} {b : Nat} {cs : Array Value} {t : TypeId} (h : Has w b cs t) : b < w.heap.size := by
  unfold Has at h; exact (Array.getElem?_eq_some_iff.1 h).1
theorem Has.cell {w : World} {b : Nat} {cs : Array Value} {t : TypeId} (h : Has w b cs t) (i : Nat) : w.cell? ⟨b, i, none⟩ = cs[i]? := by
  unfold Has at h
  simp [World.cell?, h]
theorem Has.frozen {w : World} {b : Nat} {cs : Array Value} {t : TypeId} (h : Has w b cs t) (i : Nat) : w.frozen? ⟨b, i, none⟩ = false := by
  unfold Has at h
  simp [World.frozen?, h]
theorem Has.set {w : World} {b : Nat} {cs : Array Value} {t : TypeId} (h : Has w b cs t) (i : Nat) (v : Value) : Has (w.setCell ⟨b, i, none⟩ v) b (cs.setIfInBounds i v) t := by
  have hl := h.lt
  unfold Has at h ⊢
  simp [World.setCell, Array.getElem?_modify, h]
theorem Has.other {w : World} {b : Nat} {cs : Array Value} {t : TypeId} (h : Has w b cs t) (a : Addr) (v : Value) (hne : b ≠ a.block) : Has (w.setCell a v) b cs t := by
  unfold Has at h ⊢
  rw [Below.heap_setCell _ _ _ _ hne]; exact h
theorem Has.alloc {w : World} {b : Nat} {cs : Array Value} {t : TypeId} (h : Has w b cs t) (o : Obj) : Has (w.alloc o) b cs t := by
  have hl := h.lt
  unfold Has at h ⊢
  rw [Below.heap_alloc _ _ _ hl]; exact h
theorem Has.new (w : World) (b : Nat) (cs : Array Value) (t : TypeId) (hb : b = w.heap.size) : Has (w.alloc (.cells cs t)) b cs t := by
  subst hb
  unfold Has World.alloc; simp
theorem Has.drew {w : World} {b : Nat} {cs : Array Value} {t : TypeId} (h : Has w b cs t) : Has w.drew b cs t := h
theorem Has.below {w w' : World} {B b : Nat} {cs : Array Value} {t : TypeId} (h : Has w b cs t) (hb : Below B w w') (hl : b < B) : Has w' b cs t := by
  unfold Has at h ⊢; rw [hb.block b hl]; exact h
theorem results_one_cell {fn : Func} {p : Tmp} {ty : TypeId} (h : fn.results = #[.cell p ty]) (tmps : Array Value) (P : Program) (w : World) :
    (results fn tmps).run P w = ((asAddr (tmps.getD p undef)).run P w).andThen fun a w₁ => (loadVar ty a).run P w₁ := by
  simp only [results, h]
  simp [Sem.run_bind, Result.andThen]
/-- a result that lies in memory, behind a store of the whole of it -/
theorem ret_row {P : Program} {v : Value} {w : World} {b : Nat} {cs : List Value} {ty : TypeId} {d : TypeDesc} (hv : v = .pointer (some ⟨b, 0, none⟩)) (hc : w.rangeAt b 0 cs)
    (hu : P.underlying ty = some d) (hd : d.isRow = true) (hi : (P.info? ty).map (·.size) = some cs.length) :
    (((asAddr v).run P w).andThen fun a w₁ => (loadVar ty a).run P w₁) = .ok (.agg cs.toArray) w := by
  subst hv
  exact run_loadVar_mid w b 0 ty cs d hc hu hd hi
theorem Has.range {w : World} {b : Nat} {cs : Array Value} {t : TypeId} (h : Has w b cs t) : w.rangeAt b 0 cs.toList := fun j v hv => by
  rw [Nat.zero_add, h.cell]; simpa using hv
end Go.Proofs.YtmpgfpmkmgebdaaGreatDoor.W
