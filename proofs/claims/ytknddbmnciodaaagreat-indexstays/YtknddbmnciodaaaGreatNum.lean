/- Chunks and where they stand, as lists: what may be, what is added and dropped, packs, what stands in one. No program in it. -/
namespace Go.Proofs.YtknddbmnciodaaaGreat
set_option linter.unusedVariables false
namespace Ix
def lt (a b : ByteArray) : Bool := decide (a.data.toList < b.data.toList)
theorem ba_ext {a b : ByteArray} (h : a.data.toList = b.data.toList) : a = b := by
  cases a; cases b; simp at h; subst h; rfl
theorem lt_irrefl (a : ByteArray) : lt a a = false := by simp [lt]
theorem lt_trans {a b c : ByteArray} (h1 : lt a b = true) (h2 : lt b c = true) : lt a c = true := by
  simp only [lt, decide_eq_true_eq] at *; exact List.lt_trans h1 h2
theorem lt_conn {a b : ByteArray} (h1 : lt a b = false) (h2 : lt b a = false) : a = b := by
  simp only [lt, decide_eq_false_iff_not, List.not_lt] at *; exact ba_ext (List.le_antisymm h2 h1)
theorem lt_asymm {a b : ByteArray} (h1 : lt a b = true) : lt b a = false := by
  cases h : lt b a with
  | false => rfl
  | true => have := lt_trans h1 h; rw [lt_irrefl] at this; cases this
theorem lt_ne {a b : ByteArray} (h : lt a b = true) : a ≠ b := fun e => by rw [e, lt_irrefl] at h; cases h
/-- a place -/
structure Pl where
  pack : ByteArray
  at_ : Int
  len : Int
abbrev En := ByteArray × Pl
def mayP (p : Pl) : Prop := p.pack.size = 32 ∧ 0 ≤ p.at_ ∧ p.at_ ≤ 32768 ∧ 0 < p.len ∧ p.len ≤ 16384 ∧ p.at_ + p.len ≤ 32768
/-- a byte in common -/
def Com (p q : Pl) : Prop := p.pack = q.pack ∧ p.at_ < q.at_ + q.len ∧ q.at_ < p.at_ + p.len
theorem Com.symm {p q : Pl} (h : Com p q) : Com q p := ⟨h.1.symm, h.2.2, h.2.1⟩
/-- by their keys, each once -/
def Rise {V : Type} (M : List (ByteArray × V)) : Prop := M.Pairwise fun p q => lt p.1 q.1 = true
section
variable {V : Type}
theorem Rise.inj {M : List (ByteArray × V)} (h : Rise M) {p q : ByteArray × V} (hp : p ∈ M) (hq : q ∈ M) (e : p.1 = q.1) : p = q := by
  induction M with
  | nil => cases hp
  | cons a r ih =>
    obtain ⟨a1, a2⟩ := List.pairwise_cons.1 h
    rcases List.mem_cons.1 hp with e1 | hp'
    · rcases List.mem_cons.1 hq with e2 | hq'
      · rw [e1, e2]
      · exact absurd (by rw [← e1]; exact e) (lt_ne (a1 q hq'))
    · rcases List.mem_cons.1 hq with e2 | hq'
      · exact absurd (by rw [← e2]; exact e.symm) (lt_ne (a1 p hp'))
      · exact ih a2 hp' hq'
/-- lists that rise, with the same members, are one -/
theorem pair_ext {α : Type} {R : α → α → Prop} (irr : ∀ a, ¬ R a a) (tr : ∀ {a b c}, R a b → R b c → R a c) : ∀ {M N : List α}, M.Pairwise R → N.Pairwise R → (∀ p, p ∈ M ↔ p ∈ N) → M = N
  | [], [], _, _, _ => rfl
  | [], b :: s, _, _, h => by have := (h b).2 (by simp); simp at this
  | a :: r, [], _, _, h => by have := (h a).1 (by simp); simp at this
  | a :: r, b :: s, h1, h2, h => by
    obtain ⟨a1, a2⟩ := List.pairwise_cons.1 h1
    obtain ⟨b1, b2⟩ := List.pairwise_cons.1 h2
    have hab : a = b := by
      rcases List.mem_cons.1 ((h a).1 (by simp)) with e | ha
      · exact e
      · rcases List.mem_cons.1 ((h b).2 (by simp)) with e | hb
        · exact e.symm
        · exact (irr a (tr (a1 b hb) (b1 a ha))).elim
    subst hab
    rw [pair_ext irr tr a2 b2 fun p => ⟨fun hp => ?_, fun hp => ?_⟩]
    · rcases List.mem_cons.1 ((h p).1 (by simp [hp])) with e | hp'
      · exact (irr a (by have := a1 p hp; rw [e] at this; exact this)).elim
      · exact hp'
    · rcases List.mem_cons.1 ((h p).2 (by simp [hp])) with e | hp'
      · exact (irr a (by have := b1 p hp; rw [e] at this; exact this)).elim
      · exact hp'
theorem Rise.ext {M N : List (ByteArray × V)} (h1 : Rise M) (h2 : Rise N) (h : ∀ p, p ∈ M ↔ p ∈ N) : M = N :=
  pair_ext (R := fun p q : ByteArray × V => lt p.1 q.1 = true) (fun a h => by rw [lt_irrefl] at h; cases h) (fun h1 h2 => lt_trans h1 h2) h1 h2 h
/-- one laid in ahead of the first whose key is greater -/
def ins (o : ByteArray × V) : List (ByteArray × V) → List (ByteArray × V)
  | [] => [o]
  | p :: r => if lt o.1 p.1 then o :: p :: r else p :: ins o r
theorem mem_ins {o p : ByteArray × V} : ∀ {M : List (ByteArray × V)}, p ∈ ins o M ↔ p = o ∨ p ∈ M
  | [] => by simp [ins]
  | q :: r => by
    unfold ins
    split
    · simp
    · rw [List.mem_cons, mem_ins, List.mem_cons]
      constructor
      · rintro (h | h | h)
        · exact .inr (.inl h)
        · exact .inl h
        · exact .inr (.inr h)
      · rintro (h | h | h)
        · exact .inr (.inl h)
        · exact .inl h
        · exact .inr (.inr h)
theorem length_ins (o : ByteArray × V) : ∀ M : List (ByteArray × V), (ins o M).length = M.length + 1
  | [] => rfl
  | q :: r => by
    unfold ins
    split
    · rfl
    · simp [length_ins o r]
theorem rise_ins {o : ByteArray × V} : ∀ {M : List (ByteArray × V)}, Rise M → (∀ p ∈ M, p.1 ≠ o.1) → Rise (ins o M)
  | [], _, _ => List.pairwise_singleton _ _
  | q :: r, h, hn => by
    obtain ⟨h1, h2⟩ := List.pairwise_cons.1 h
    unfold ins
    split
    · rename_i hq
      refine List.pairwise_cons.2 ⟨fun p hp => ?_, h⟩
      rcases List.mem_cons.1 hp with rfl | hp
      · exact hq
      · exact lt_trans hq (h1 p hp)
    · rename_i hq
      have hqo : lt q.1 o.1 = true := by
        cases hh : lt q.1 o.1 with
        | true => rfl
        | false => exact absurd (lt_conn hh (by simpa using hq)) (hn q List.mem_cons_self)
      refine List.pairwise_cons.2 ⟨fun p hp => ?_, rise_ins h2 (fun p hp => hn p (List.mem_cons_of_mem _ hp))⟩
      rcases mem_ins.1 hp with rfl | hp
      · exact hqo
      · exact h1 p hp
/-- where it is laid in: behind those that are not greater -/
theorem ins_split (o : ByteArray × V) : ∀ M : List (ByteArray × V), ins o M = M.takeWhile (fun p => !lt o.1 p.1) ++ o :: M.dropWhile (fun p => !lt o.1 p.1)
  | [] => rfl
  | q :: r => by
    unfold ins
    split
    · rename_i hq; simp [hq]
    · rename_i hq; simp [hq, ins_split o r]
/-- some more, one behind the other -/
def adds (M N : List (ByteArray × V)) : List (ByteArray × V) := N.foldl (fun M o => ins o M) M
theorem adds_nil (M : List (ByteArray × V)) : adds M [] = M := rfl
theorem adds_snoc (M N : List (ByteArray × V)) (o : ByteArray × V) : adds M (N ++ [o]) = ins o (adds M N) := by unfold adds; rw [List.foldl_append]; rfl
theorem mem_adds : ∀ {N M : List (ByteArray × V)} {p : ByteArray × V}, p ∈ adds M N ↔ p ∈ N ∨ p ∈ M
  | [], M, p => by simp [adds]
  | o :: r, M, p => by
    show p ∈ adds (ins o M) r ↔ _
    rw [mem_adds, mem_ins, List.mem_cons]
    constructor
    · rintro (h | h | h)
      · exact .inl (.inr h)
      · exact .inl (.inl h)
      · exact .inr h
    · rintro ((h | h) | h)
      · exact .inr (.inl h)
      · exact .inl h
      · exact .inr (.inr h)
theorem length_adds : ∀ (N M : List (ByteArray × V)), (adds M N).length = M.length + N.length
  | [], M => rfl
  | o :: r, M => by
    show (adds (ins o M) r).length = _
    rw [length_adds, length_ins, List.length_cons]; omega
/-- none of them is there, nor stands there twice -/
structure Fresh (M N : List (ByteArray × V)) : Prop where
  once : (N.map Prod.fst).Nodup
  new : ∀ o ∈ N, ∀ p ∈ M, p.1 ≠ o.1
theorem Fresh.nil (M : List (ByteArray × V)) : Fresh M [] := ⟨List.nodup_nil, fun o h => by cases h⟩
theorem Fresh.init {M N : List (ByteArray × V)} {o : ByteArray × V} (h : Fresh M (N ++ [o])) : Fresh M N :=
  ⟨by have := h.once; rw [List.map_append] at this; exact (List.nodup_append.1 this).1, fun x hx => h.new x (by simp [hx])⟩
theorem Fresh.snoc {M N : List (ByteArray × V)} {o : ByteArray × V} : Fresh M (N ++ [o]) ↔ Fresh M N ∧ ∀ p ∈ adds M N, p.1 ≠ o.1 := by
  constructor
  · intro h
    refine ⟨h.init, fun p hp e => ?_⟩
    rcases mem_adds.1 hp with hp | hp
    · have := h.once
      rw [List.map_append, List.nodup_append] at this
      exact this.2.2 p.1 (List.mem_map_of_mem hp) o.1 (by simp) e
    · exact h.new o (by simp) p hp e
  · rintro ⟨h1, h2⟩
    refine ⟨?_, fun x hx p hp => ?_⟩
    · rw [List.map_append, List.nodup_append]
      refine ⟨h1.once, by simp, fun a ha b hb => ?_⟩
      obtain ⟨x, hx, rfl⟩ := List.mem_map.1 ha
      have : b = o.1 := by simpa using hb
      subst this
      exact h2 x (mem_adds.2 (.inl hx))
    · rcases List.mem_append.1 hx with hx | hx
      · exact h1.new x hx p hp
      · have : x = o := by simpa using hx
        subst this
        exact h2 p (mem_adds.2 (.inr hp))
theorem Fresh.take {M N : List (ByteArray × V)} (h : Fresh M N) (k : Nat) : Fresh M (N.take k) :=
  ⟨by rw [List.map_take]; exact h.once.sublist (List.take_sublist _ _), fun o ho => h.new o (List.mem_of_mem_take ho)⟩
theorem Fresh.cons {M N : List (ByteArray × V)} {o : ByteArray × V} (h : Fresh M (o :: N)) : (∀ p ∈ M, p.1 ≠ o.1) ∧ Fresh (ins o M) N := by
  have h1 := h.once
  rw [List.map_cons, List.nodup_cons] at h1
  refine ⟨h.new o (by simp), h1.2, fun x hx p hp => ?_⟩
  rcases mem_ins.1 hp with rfl | hp
  · exact fun e => h1.1 (by rw [e]; exact List.mem_map_of_mem hx)
  · exact h.new x (by simp [hx]) p hp
theorem rise_adds : ∀ {N M : List (ByteArray × V)}, Rise M → Fresh M N → Rise (adds M N)
  | [], _, h, _ => h
  | o :: r, M, h, hf => by
    obtain ⟨h1, h2⟩ := hf.cons
    exact rise_adds (M := ins o M) (rise_ins h h1) h2
/-- without some keys -/
def drops (D : List ByteArray) (M : List (ByteArray × V)) : List (ByteArray × V) := M.filter fun p => D.all fun d => decide (p.1 ≠ d)
theorem mem_drops {D : List ByteArray} {M : List (ByteArray × V)} {p : ByteArray × V} : p ∈ drops D M ↔ p ∈ M ∧ p.1 ∉ D := by
  unfold drops
  rw [List.mem_filter, List.all_eq_true]
  constructor
  · rintro ⟨h1, h2⟩
    exact ⟨h1, fun hd => by have := h2 _ hd; simp at this⟩
  · rintro ⟨h1, h2⟩
    exact ⟨h1, fun d hd => decide_eq_true (fun e => h2 (by rw [e]; exact hd))⟩
theorem rise_drops {D : List ByteArray} {M : List (ByteArray × V)} (h : Rise M) : Rise (drops D M) := List.Pairwise.filter _ h
/-- dropped, what was added -/
theorem drops_adds {M N : List (ByteArray × V)} (h : Rise M) (hf : Fresh M N) : drops (N.map Prod.fst) (adds M N) = M := by
  refine Rise.ext (rise_drops (rise_adds h hf)) h fun p => ?_
  rw [mem_drops, mem_adds]
  constructor
  · rintro ⟨h1 | h1, h2⟩
    · exact absurd (List.mem_map_of_mem h1) h2
    · exact h1
  · intro hp
    refine ⟨.inr hp, fun hd => ?_⟩
    obtain ⟨o, ho, e⟩ := List.mem_map.1 hd
    exact hf.new o ho p hp e.symm
/-- what stands under a key -/
def look (d : ByteArray) (M : List (ByteArray × V)) : Option V := (M.find? fun p => decide (p.1 = d)).map (·.2)
theorem look_some {M : List (ByteArray × V)} (h : Rise M) {d : ByteArray} {v : V} : look d M = some v ↔ (d, v) ∈ M := by
  unfold look
  constructor
  · intro hh
    obtain ⟨p, hp, rfl⟩ := Option.map_eq_some_iff.1 hh
    have h1 := List.mem_of_find?_eq_some hp
    have h2 := List.find?_some hp
    simp only [decide_eq_true_eq] at h2
    subst h2; exact h1
  · intro hm
    cases hf : M.find? fun p => decide (p.1 = d) with
    | none => have := List.find?_eq_none.1 hf _ hm; simp at this
    | some p =>
      have h1 := List.mem_of_find?_eq_some hf
      have h2 := List.find?_some hf
      simp only [decide_eq_true_eq] at h2
      have := h.inj h1 hm h2
      subst this; rfl
theorem look_none {M : List (ByteArray × V)} {d : ByteArray} : look d M = none ↔ ∀ p ∈ M, p.1 ≠ d := by
  unfold look
  rw [Option.map_eq_none_iff, List.find?_eq_none]
  simp
/-- by halves: the first place whose key is not less -/
def fst (d : ByteArray) (M : List (ByteArray × V)) : Nat := (M.takeWhile fun p => lt p.1 d).length
theorem fst_le (d : ByteArray) (M : List (ByteArray × V)) : fst d M ≤ M.length := by
  unfold fst
  exact (List.takeWhile_sublist _).length_le
theorem fst_lt {M : List (ByteArray × V)} (h : Rise M) (d : ByteArray) : ∀ (i : Nat) (hi : i < M.length), lt (M[i]).1 d = true ↔ i < fst d M := by
  induction M with
  | nil => intro i hi; simp at hi
  | cons q r ih =>
    intro i hi
    obtain ⟨h1, h2⟩ := List.pairwise_cons.1 h
    unfold fst
    by_cases hq : lt q.1 d = true
    · rw [List.takeWhile_cons, if_pos hq]
      cases i with
      | zero => simp [hq]
      | succ i =>
        rw [List.getElem_cons_succ, ih h2 i (by simpa using hi)]
        unfold fst; simp
    · rw [List.takeWhile_cons, if_neg hq]
      constructor
      · intro hh
        cases i with
        | zero => exact absurd hh hq
        | succ i =>
          rw [List.getElem_cons_succ] at hh
          exact absurd (lt_trans (h1 _ (List.getElem_mem (by simpa using hi))) hh) hq
      · intro hh; simp at hh
theorem fst_look {M : List (ByteArray × V)} (h : Rise M) (d : ByteArray) : look d M = (M[fst d M]?).bind fun p => if p.1 = d then some p.2 else none := by
  cases hx : M[fst d M]? with
  | none =>
    rw [Option.bind_none, look_none]
    intro p hp e
    obtain ⟨i, hi, rfl⟩ := List.mem_iff_getElem.1 hp
    have h1 := List.getElem?_eq_none_iff.1 hx
    have h2 := (fst_lt h d i hi).2 (by omega)
    exact lt_ne h2 e
  | some q =>
    obtain ⟨hi, hq⟩ := List.getElem?_eq_some_iff.1 hx
    rw [Option.bind_some]
    by_cases e : q.1 = d
    · rw [if_pos e, look_some h, ← e]
      exact hq ▸ List.getElem_mem hi
    · rw [if_neg e, look_none]
      intro p hp ep
      obtain ⟨i, hj, rfl⟩ := List.mem_iff_getElem.1 hp
      have hge : ¬ i < fst d M := fun hh => lt_ne ((fst_lt h d i hj).2 hh) ep
      have hne : i ≠ fst d M := fun hh => e (by rw [← hq]; subst hh; exact ep)
      have h3 : lt (M[fst d M]).1 (M[i]).1 = true := List.pairwise_iff_getElem.1 h _ _ hi hj (by omega)
      have h4 : ¬ lt (M[fst d M]).1 d = true := fun hh => by have := (fst_lt h d _ hi).1 hh; omega
      rw [ep] at h3
      exact h4 h3
end
/-- what may be a state's chunks and places -/
structure May (M : List En) : Prop where
  most : M.length ≤ 400
  keys : ∀ e ∈ M, e.1.size = 32
  places : ∀ e ∈ M, mayP e.2
  rise : Rise M
  apart : M.Pairwise fun e f => ¬ Com e.2 f.2
theorem May.sep {M : List En} (h : May M) {e f : En} (he : e ∈ M) (hf : f ∈ M) (hne : e ≠ f) : ¬ Com e.2 f.2 := by
  obtain ⟨i, hi, rfl⟩ := List.mem_iff_getElem.1 he
  obtain ⟨j, hj, rfl⟩ := List.mem_iff_getElem.1 hf
  have hp := List.pairwise_iff_getElem.1 h.apart
  by_cases h1 : i < j
  · exact hp i j hi hj h1
  · by_cases h2 : j < i
    · exact fun hc => hp j i hj hi h2 hc.symm
    · have : i = j := by omega
      subst this; exact absurd rfl hne
theorem apart_of {M : List En} (hr : Rise M) (h : ∀ e ∈ M, ∀ f ∈ M, e ≠ f → ¬ Com e.2 f.2) : M.Pairwise fun e f => ¬ Com e.2 f.2 := by
  rw [List.pairwise_iff_getElem]
  intro i j hi hj hij
  refine h _ (List.getElem_mem hi) _ (List.getElem_mem hj) fun e => ?_
  have := List.pairwise_iff_getElem.1 hr i j hi hj hij
  rw [e, lt_irrefl] at this
  cases this
theorem May.drops {M : List En} (h : May M) (D : List ByteArray) : May (drops D M) :=
  ⟨Nat.le_trans (List.length_filter_le _ _) h.most, fun e he => h.keys e (mem_drops.1 he).1, fun e he => h.places e (mem_drops.1 he).1, rise_drops h.rise, List.Pairwise.filter _ h.apart⟩
/-- packs, rising, each once -/
def putK (s : ByteArray) : List ByteArray → List ByteArray
  | [] => [s]
  | x :: r => if lt x s then x :: putK s r else if x = s then x :: r else s :: x :: r
theorem mem_putK {s p : ByteArray} : ∀ {l : List ByteArray}, p ∈ putK s l ↔ p = s ∨ p ∈ l
  | [] => by simp [putK]
  | x :: r => by
    unfold putK
    split
    · rw [List.mem_cons, mem_putK, List.mem_cons]
      constructor
      · rintro (h | h | h)
        · exact .inr (.inl h)
        · exact .inl h
        · exact .inr (.inr h)
      · rintro (h | h | h)
        · exact .inr (.inl h)
        · exact .inl h
        · exact .inr (.inr h)
    · split
      · rename_i e; subst e; simp
      · simp
def RiseK (l : List ByteArray) : Prop := l.Pairwise fun a b => lt a b = true
theorem rise_putK {s : ByteArray} : ∀ {l : List ByteArray}, RiseK l → RiseK (putK s l)
  | [], _ => List.pairwise_singleton _ _
  | x :: r, h => by
    obtain ⟨h1, h2⟩ := List.pairwise_cons.1 h
    unfold putK
    split
    · rename_i hx
      refine List.pairwise_cons.2 ⟨fun p hp => ?_, rise_putK h2⟩
      rcases mem_putK.1 hp with rfl | hp
      · exact hx
      · exact h1 p hp
    · rename_i hx
      split
      · exact h
      · rename_i hne
        have hsx : lt s x = true := by
          cases hh : lt s x with
          | true => rfl
          | false => exact absurd (lt_conn (by simpa using hx) hh) hne
        refine List.pairwise_cons.2 ⟨fun p hp => ?_, h⟩
        rcases List.mem_cons.1 hp with rfl | hp
        · exact hsx
        · exact lt_trans hsx (h1 p hp)
def packsOf (M : List En) : List ByteArray := M.foldl (fun l e => putK e.2.pack l) []
theorem packs_go : ∀ (M : List En) (l : List ByteArray), RiseK l → RiseK (M.foldl (fun l e => putK e.2.pack l) l) ∧ ∀ p, p ∈ M.foldl (fun l e => putK e.2.pack l) l ↔ p ∈ l ∨ ∃ e ∈ M, e.2.pack = p
  | [], l, h => ⟨h, fun p => by simp⟩
  | x :: r, l, h => by
    obtain ⟨h1, h2⟩ := packs_go r (putK x.2.pack l) (rise_putK h)
    refine ⟨h1, fun p => ?_⟩
    rw [List.foldl_cons, h2, mem_putK]
    constructor
    · rintro ((h | h) | ⟨e, he, h⟩)
      · exact .inr ⟨x, by simp, h.symm⟩
      · exact .inl h
      · exact .inr ⟨e, by simp [he], h⟩
    · rintro (h | ⟨e, he, h⟩)
      · exact .inl (.inr h)
      · rcases List.mem_cons.1 he with rfl | he
        · exact .inl (.inl h.symm)
        · exact .inr ⟨e, he, h⟩
theorem packs_rise (M : List En) : RiseK (packsOf M) := (packs_go M [] List.Pairwise.nil).1
theorem mem_packs {M : List En} {p : ByteArray} : p ∈ packsOf M ↔ ∃ e ∈ M, e.2.pack = p := by
  unfold packsOf
  rw [(packs_go M [] List.Pairwise.nil).2]; simp
theorem RiseK.ext {l m : List ByteArray} (h1 : RiseK l) (h2 : RiseK m) (h : ∀ p, p ∈ l ↔ p ∈ m) : l = m :=
  pair_ext (R := fun a b => lt a b = true) (fun a h => by rw [lt_irrefl] at h; cases h) (fun h1 h2 => lt_trans h1 h2) h1 h2 h
theorem RiseK.nodup {l : List ByteArray} (h : RiseK l) : l.Nodup := List.Pairwise.imp (fun h => lt_ne h) h
/-- what stands in a pack, by rising At -/
def insA (o : En) : List En → List En
  | [] => [o]
  | p :: r => if o.2.at_ < p.2.at_ then o :: p :: r else p :: insA o r
theorem mem_insA {o p : En} : ∀ {M : List En}, p ∈ insA o M ↔ p = o ∨ p ∈ M
  | [] => by simp [insA]
  | q :: r => by
    unfold insA
    split
    · simp
    · rw [List.mem_cons, mem_insA, List.mem_cons]
      constructor
      · rintro (h | h | h)
        · exact .inr (.inl h)
        · exact .inl h
        · exact .inr (.inr h)
      · rintro (h | h | h)
        · exact .inr (.inl h)
        · exact .inl h
        · exact .inr (.inr h)
theorem length_insA (o : En) : ∀ M : List En, (insA o M).length = M.length + 1
  | [] => rfl
  | q :: r => by
    unfold insA
    split
    · rfl
    · simp [length_insA o r]
def RiseA (M : List En) : Prop := M.Pairwise fun p q => p.2.at_ < q.2.at_
theorem RiseA.ext {M N : List En} (h1 : RiseA M) (h2 : RiseA N) (h : ∀ p, p ∈ M ↔ p ∈ N) : M = N :=
  pair_ext (R := fun p q : En => p.2.at_ < q.2.at_) (fun _ h => Int.lt_irrefl _ h) (fun h1 h2 => Int.lt_trans h1 h2) h1 h2 h
theorem rise_insA {o : En} : ∀ {M : List En}, RiseA M → (∀ p ∈ M, p.2.at_ ≠ o.2.at_) → RiseA (insA o M)
  | [], _, _ => List.pairwise_singleton _ _
  | q :: r, h, hn => by
    obtain ⟨h1, h2⟩ := List.pairwise_cons.1 h
    unfold insA
    split
    · rename_i hq
      refine List.pairwise_cons.2 ⟨fun p hp => ?_, h⟩
      rcases List.mem_cons.1 hp with rfl | hp
      · exact hq
      · exact Int.lt_trans hq (h1 p hp)
    · rename_i hq
      have hqo : q.2.at_ < o.2.at_ := by have := hn q List.mem_cons_self; omega
      refine List.pairwise_cons.2 ⟨fun p hp => ?_, rise_insA h2 (fun p hp => hn p (List.mem_cons_of_mem _ hp))⟩
      rcases mem_insA.1 hp with rfl | hp
      · exact hqo
      · exact h1 p hp
def inPack (p : ByteArray) (M : List En) : List En := M.filter fun e => decide (e.2.pack = p)
theorem mem_inPack {p : ByteArray} {M : List En} {e : En} : e ∈ inPack p M ↔ e ∈ M ∧ e.2.pack = p := by simp [inPack]
def ofs (p : ByteArray) (M : List En) : List En := (inPack p M).foldl (fun l e => insA e l) []
theorem ofs_go : ∀ (N l : List En), RiseA l → (N.Pairwise fun e f => e.2.at_ ≠ f.2.at_) → (∀ e ∈ N, ∀ f ∈ l, f.2.at_ ≠ e.2.at_) → RiseA (N.foldl (fun l e => insA e l) l) ∧ (∀ p, p ∈ N.foldl (fun l e => insA e l) l ↔ p ∈ l ∨ p ∈ N) ∧ (N.foldl (fun l e => insA e l) l).length = l.length + N.length
  | [], l, h, _, _ => ⟨h, fun p => by simp, by simp⟩
  | x :: r, l, h, hp, hn => by
    obtain ⟨p1, p2⟩ := List.pairwise_cons.1 hp
    obtain ⟨h1, h2, h3⟩ := ofs_go r (insA x l) (rise_insA h (hn x (by simp))) p2 (fun e he f hf => by
      rcases mem_insA.1 hf with rfl | hf
      · exact p1 e he
      · exact hn e (by simp [he]) f hf)
    refine ⟨h1, fun p => ?_, ?_⟩
    · rw [List.foldl_cons, h2, mem_insA, List.mem_cons]
      constructor
      · rintro ((h | h) | h)
        · exact .inr (.inl h)
        · exact .inl h
        · exact .inr (.inr h)
      · rintro (h | h | h)
        · exact .inl (.inr h)
        · exact .inl (.inl h)
        · exact .inr h
    · rw [List.foldl_cons, h3, length_insA, List.length_cons]; omega
theorem May.ats {M : List En} (h : May M) (p : ByteArray) : (inPack p M).Pairwise fun e f => e.2.at_ ≠ f.2.at_ := by
  have h1 : (inPack p M).Pairwise fun e f => ¬ Com e.2 f.2 := List.Pairwise.filter _ h.apart
  refine List.Pairwise.imp_of_mem (fun {e f} he hf hc ea => hc ?_) h1
  have e1 := mem_inPack.1 he
  have e2 := mem_inPack.1 hf
  have m1 := h.places e e1.1
  have m2 := h.places f e2.1
  obtain ⟨_, _, _, l1, _, _⟩ := m1
  obtain ⟨_, _, _, l2, _, _⟩ := m2
  exact ⟨e1.2.trans e2.2.symm, by omega, by omega⟩
theorem ofs_is {M : List En} (h : May M) (p : ByteArray) : RiseA (ofs p M) ∧ (∀ e, e ∈ ofs p M ↔ e ∈ M ∧ e.2.pack = p) ∧ (ofs p M).length = (inPack p M).length := by
  obtain ⟨h1, h2, h3⟩ := ofs_go (inPack p M) [] List.Pairwise.nil (h.ats p) (fun e _ f hf => by cases hf)
  unfold ofs
  exact ⟨h1, fun e => by rw [h2, mem_inPack]; simp, by rw [h3]; simp⟩
/-- the chunks of all packs, put together, are all chunks -/
theorem count_all : ∀ (M : List En) (K : List ByteArray), K.Nodup → (∀ e ∈ M, e.2.pack ∈ K) → (K.map fun p => (inPack p M).length).sum = M.length
  | [], K, _, _ => by
    have : (K.map fun p => (inPack p ([] : List En)).length) = K.map fun _ => 0 := rfl
    rw [this]
    clear this
    have : ∀ L : List ByteArray, (L.map fun _ => 0).sum = 0 := fun L => by induction L with
      | nil => rfl
      | cons x r ih => simpa using ih
    exact this K
  | x :: r, K, hK, hm => by
    have h1 := count_all r K hK (fun e he => hm e (by simp [he]))
    have hx := hm x (by simp)
    have key : ∀ L : List ByteArray, L.Nodup → (L.map fun p => (inPack p (x :: r)).length).sum = (L.map fun p => (inPack p r).length).sum + L.countP fun p => decide (x.2.pack = p) := by
      intro L _
      induction L with
      | nil => rfl
      | cons y s ih =>
        rename_i hL
        rw [List.map_cons, List.map_cons, List.sum_cons, List.sum_cons, List.countP_cons, ih (List.nodup_cons.1 hL).2]
        by_cases e : x.2.pack = y
        · have : (inPack y (x :: r)).length = (inPack y r).length + 1 := by simp [inPack, e]
          rw [this]; simp [e]; omega
        · have : (inPack y (x :: r)).length = (inPack y r).length := by simp [inPack, e]
          rw [this]; simp [e]; omega
    have hc : ∀ L : List ByteArray, L.Nodup → x.2.pack ∈ L → L.countP (fun p => decide (x.2.pack = p)) = 1 := by
      intro L hL hmem
      induction L with
      | nil => cases hmem
      | cons y s ih =>
        obtain ⟨n1, n2⟩ := List.nodup_cons.1 hL
        rw [List.countP_cons]
        by_cases e : x.2.pack = y
        · have h0 : s.countP (fun p => decide (x.2.pack = p)) = 0 := by
            rw [List.countP_eq_zero]
            intro p hp
            simp only [decide_eq_true_eq]
            intro ep
            exact n1 (by rw [← e, ep]; exact hp)
          rw [h0]; simp [e]
        · rcases List.mem_cons.1 hmem with e2 | hmem
          · exact absurd e2 e
          · rw [ih n2 hmem]; simp [e]
    rw [key K hK, h1, hc K hK hx, List.length_cons]
theorem packs_count {M : List En} (h : May M) : ((packsOf M).map fun p => (ofs p M).length).sum = M.length := by
  have e : ((packsOf M).map fun p => (ofs p M).length) = (packsOf M).map fun p => (inPack p M).length := by
    apply List.map_congr_left
    intro p _
    exact (ofs_is h p).2.2
  rw [e]
  exact count_all M _ (packs_rise M).nodup (fun x hx => mem_packs.2 ⟨x, hx, rfl⟩)
/-! what the document's loops come to (ref17), and what the stage's theorem asks; no program -/
section
variable {V : Type}
theorem ins_app (o q : ByteArray × V) : ∀ A : List (ByteArray × V), ins o (A ++ [q]) = if A.any (fun p => lt o.1 p.1) then ins o A ++ [q] else if lt o.1 q.1 then A ++ [o, q] else A ++ [q, o]
  | [] => by
    by_cases h : lt o.1 q.1 = true
    · simp [ins, h]
    · simp [ins, h]
  | p :: r => by
    rw [List.cons_append, ins, ins, List.any_cons]
    by_cases hp : lt o.1 p.1 = true
    · simp [hp]
    · have h0 : lt o.1 p.1 = false := by simpa using hp
      rw [h0, ins_app o q r, Bool.false_or]
      by_cases ha : (r.any fun p => lt o.1 p.1) = true
      · simp [ha]
      · have ha0 : (r.any fun p => lt o.1 p.1) = false := by simpa using ha
        rw [ha0]
        by_cases hq : lt o.1 q.1 = true
        · simp [hq]
        · have hq0 : lt o.1 q.1 = false := by simpa using hq
          simp [hq0]
theorem ins_none (o : ByteArray × V) : ∀ A : List (ByteArray × V), (A.any fun p => lt o.1 p.1) = false → ins o A = A ++ [o]
  | [], _ => rfl
  | p :: r, h => by
    rw [List.any_cons, Bool.or_eq_false_iff] at h
    rw [ins, h.1, ins_none o r h.2]; rfl
/-- laid in so far: the first k, and whether it stands there -/
def insK (o : ByteArray × V) (M : List (ByteArray × V)) (k : Nat) : List (ByteArray × V) := if (M.take k).any (fun p => lt o.1 p.1) then ins o (M.take k) else M.take k
def insD (o : ByteArray × V) (M : List (ByteArray × V)) (k : Nat) : Bool := (M.take k).any (fun p => lt o.1 p.1)
theorem insK_zero (o : ByteArray × V) (M : List (ByteArray × V)) : insK o M 0 = [] ∧ insD o M 0 = false := by simp [insK, insD]
theorem take_snoc {α : Type} {M : List α} {k : Nat} {q : α} (h : M[k]? = some q) : M.take (k + 1) = M.take k ++ [q] := by rw [List.take_add_one, h]; rfl
/-- ahead of this one -/
theorem insK_here {o q : ByteArray × V} {M : List (ByteArray × V)} {k : Nat} (h : M[k]? = some q) (hd : insD o M k = false) (hq : lt o.1 q.1 = true) : insK o M (k + 1) = insK o M k ++ [o] ++ [q] ∧ insD o M (k + 1) = true := by
  unfold insK insD at *
  rw [take_snoc h, List.any_append, hd, ins_app, hd]; simp [hq]
/-- not here -/
theorem insK_not {o q : ByteArray × V} {M : List (ByteArray × V)} {k : Nat} (h : M[k]? = some q) (hd : insD o M k = true ∨ lt o.1 q.1 = false) : insK o M (k + 1) = insK o M k ++ [q] ∧ insD o M (k + 1) = insD o M k := by
  unfold insK insD at *
  rw [take_snoc h, List.any_append, ins_app]
  rcases hd with hd | hd
  · rw [hd]; simp
  · cases hb : (M.take k).any fun p => lt o.1 p.1 with
    | true => simp
    | false => simp [hd]
theorem insK_all (o : ByteArray × V) (M : List (ByteArray × V)) {n : Nat} (hn : M.length ≤ n) : (if insD o M n then insK o M n else insK o M n ++ [o]) = ins o M := by
  unfold insK insD
  rw [List.take_of_length_le hn]
  cases hb : M.any fun p => lt o.1 p.1 with
  | true => simp
  | false => simp [ins_none o M hb]
theorem drops_in (D : List ByteArray) {M : List (ByteArray × V)} {k : Nat} {q : ByteArray × V} (h : M[k]? = some q) (hq : q.1 ∈ D) : drops D (M.take (k + 1)) = drops D (M.take k) := by
  unfold drops
  rw [take_snoc h, List.filter_append]
  have : (D.all fun d => decide (q.1 ≠ d)) = false := by
    rw [List.all_eq_false]; exact ⟨q.1, hq, by simp⟩
  simp only [List.filter_cons, this, Bool.false_eq_true, if_false, List.filter_nil, List.append_nil]
theorem drops_out (D : List ByteArray) {M : List (ByteArray × V)} {k : Nat} {q : ByteArray × V} (h : M[k]? = some q) (hq : q.1 ∉ D) : drops D (M.take (k + 1)) = drops D (M.take k) ++ [q] := by
  unfold drops
  rw [take_snoc h, List.filter_append]
  have : (D.all fun d => decide (q.1 ≠ d)) = true := by
    rw [List.all_eq_true]; intro d hd; simp; exact fun e => hq (by rw [e]; exact hd)
  simp only [List.filter_cons, this, if_true, List.filter_nil]
theorem keys_ins {o : ByteArray × V} {M : List (ByteArray × V)} (d : ByteArray) : d ∈ (ins o M).map Prod.fst ↔ d = o.1 ∨ d ∈ M.map Prod.fst := by
  rw [List.mem_map]
  constructor
  · rintro ⟨p, hp, rfl⟩
    rcases mem_ins.1 hp with rfl | hp
    · exact .inl rfl
    · exact .inr (List.mem_map_of_mem hp)
  · rintro (rfl | h)
    · exact ⟨o, mem_ins.2 (.inl rfl), rfl⟩
    · obtain ⟨p, hp, rfl⟩ := List.mem_map.1 h
      exact ⟨p, mem_ins.2 (.inr hp), rfl⟩
/-- one more of those that are added -/
theorem adds_take {M N : List (ByteArray × V)} {k : Nat} {o : ByteArray × V} (h : N[k]? = some o) : adds M (N.take (k + 1)) = ins o (adds M (N.take k)) := by rw [take_snoc h, adds_snoc]
theorem fresh_take {M N : List (ByteArray × V)} {k : Nat} {o : ByteArray × V} (h : N[k]? = some o) (hf : Fresh M (N.take k)) : Fresh M (N.take (k + 1)) ↔ o.1 ∉ (adds M (N.take k)).map Prod.fst := by
  rw [take_snoc h, Fresh.snoc]
  constructor
  · rintro ⟨_, h2⟩ hm
    obtain ⟨p, hp, e⟩ := List.mem_map.1 hm
    exact h2 p hp e
  · intro hm
    exact ⟨hf, fun p hp e => hm (by rw [← e]; exact List.mem_map_of_mem hp)⟩
end
/-! packs -/
theorem putK_low {s : ByteArray} : ∀ A : List ByteArray, (A.all fun x => lt x s) = true → putK s A = A ++ [s]
  | [], _ => rfl
  | x :: r, h => by
    rw [List.all_cons, Bool.and_eq_true] at h
    rw [putK, if_pos h.1, putK_low r h.2]; rfl
theorem putK_app {s x : ByteArray} : ∀ {A : List ByteArray}, RiseK (A ++ [x]) → putK s (A ++ [x]) = if (A.all fun y => lt y s) = true then (if lt x s then A ++ [x, s] else if x = s then A ++ [x] else A ++ [s, x]) else putK s A ++ [x]
  | [], _ => by simp [putK]
  | y :: r, h => by
    obtain ⟨h1, h2⟩ := List.pairwise_cons.1 h
    rw [List.cons_append, putK, putK, List.all_cons]
    cases hy : lt y s with
    | true =>
      simp only [if_pos, Bool.true_and]
      rw [putK_app h2]
      cases hr : (r.all fun y => lt y s) with
      | true => simp only [if_pos]; split <;> (try split) <;> rfl
      | false => simp
    | false =>
      simp only [Bool.false_and]
      by_cases e : y = s
      · simp [e]
      · simp [e]
def putN (s : ByteArray) (l : List ByteArray) (k : Nat) : List ByteArray := if ((l.take k).all fun x => lt x s) = true then l.take k else putK s (l.take k)
def putD (s : ByteArray) (l : List ByteArray) (k : Nat) : Bool := !((l.take k).all fun x => lt x s)
theorem putN_zero (s : ByteArray) (l : List ByteArray) : putN s l 0 = [] ∧ putD s l 0 = false := by simp [putN, putD]
theorem riseK_take {l : List ByteArray} (h : RiseK l) (k : Nat) : RiseK (l.take k) := h.sublist (List.take_sublist _ _)
theorem putN_low {s x : ByteArray} {l : List ByteArray} {k : Nat} (h : l[k]? = some x) (hd : putD s l k = false) (hx : lt x s = true) : putN s l (k + 1) = putN s l k ++ [x] ∧ putD s l (k + 1) = false := by
  unfold putN putD at *
  have hd' : ((l.take k).all fun x => lt x s) = true := by simpa using hd
  have h1 : ((l.take (k + 1)).all fun x => lt x s) = true := by rw [take_snoc h, List.all_append, hd']; simp [hx]
  rw [if_pos h1, if_pos hd', h1]; exact ⟨take_snoc h, rfl⟩
theorem putN_eq {s x : ByteArray} {l : List ByteArray} {k : Nat} (hr : RiseK l) (h : l[k]? = some x) (hd : putD s l k = false) (hx : x = s) : putN s l (k + 1) = putN s l k ++ [s] ∧ putD s l (k + 1) = true := by
  unfold putN putD at *
  have hd' : ((l.take k).all fun x => lt x s) = true := by simpa using hd
  have hr' := riseK_take hr (k + 1)
  rw [take_snoc h] at hr'
  have h1 : ((l.take (k + 1)).all fun x => lt x s) = false := by rw [take_snoc h, List.all_append, hd', hx]; simp [lt_irrefl]
  rw [if_neg (by rw [h1]; decide), if_pos hd', h1, take_snoc h, putK_app hr', if_pos hd', hx]
  exact ⟨by simp [lt_irrefl], rfl⟩
theorem putN_here {s x : ByteArray} {l : List ByteArray} {k : Nat} (hr : RiseK l) (h : l[k]? = some x) (hd : putD s l k = false) (hx : lt x s = false) (hne : x ≠ s) : putN s l (k + 1) = putN s l k ++ [s] ++ [x] ∧ putD s l (k + 1) = true := by
  unfold putN putD at *
  have hd' : ((l.take k).all fun x => lt x s) = true := by simpa using hd
  have hr' := riseK_take hr (k + 1)
  rw [take_snoc h] at hr'
  have h1 : ((l.take (k + 1)).all fun x => lt x s) = false := by rw [take_snoc h, List.all_append, hd']; simp [hx]
  rw [if_neg (by rw [h1]; decide), if_pos hd', h1, take_snoc h, putK_app hr', if_pos hd']
  exact ⟨by simp [hx, hne], rfl⟩
theorem putN_past {s x : ByteArray} {l : List ByteArray} {k : Nat} (hr : RiseK l) (h : l[k]? = some x) (hd : putD s l k = true) : x ≠ s ∧ putN s l (k + 1) = putN s l k ++ [x] ∧ putD s l (k + 1) = true := by
  unfold putN putD at *
  have hd' : ((l.take k).all fun x => lt x s) = false := by simpa using hd
  have hr' := riseK_take hr (k + 1)
  rw [take_snoc h] at hr'
  have h1 : ((l.take (k + 1)).all fun x => lt x s) = false := by rw [take_snoc h, List.all_append, hd']; rfl
  refine ⟨fun e => ?_, ?_, by rw [h1]; rfl⟩
  · obtain ⟨y, hy, hys⟩ := List.all_eq_false.1 hd'
    have := (List.pairwise_append.1 hr').2.2 y hy x (by simp)
    rw [e] at this
    exact hys this
  · rw [if_neg (by rw [h1]; decide), if_neg (by rw [hd']; decide), take_snoc h, putK_app hr', if_neg (by rw [hd']; decide)]
theorem putN_all (s : ByteArray) (l : List ByteArray) {n : Nat} (hn : l.length ≤ n) : (if putD s l n then putN s l n else putN s l n ++ [s]) = putK s l := by
  unfold putN putD
  rw [List.take_of_length_le hn]
  cases hb : l.all fun x => lt x s with
  | true => simp [putK_low l hb]
  | false => simp
def packsTo (M : List En) (k : Nat) : List ByteArray := packsOf (M.take k)
theorem packsTo_succ {M : List En} {k : Nat} {e : En} (h : M[k]? = some e) : packsOf (M.take (k + 1)) = putK e.2.pack (packsOf (M.take k)) := by
  unfold packsOf; rw [take_snoc h, List.foldl_append]; rfl
/-! what stands in a pack: the next one by At -/
theorem of_none {M O : List En} {p : ByteArray} {t : Nat} {from_ : Int} (hm : ∀ e, e ∈ O ↔ e ∈ M ∧ e.2.pack = p) (hf : ∀ (i : Nat) (hi : i < O.length), from_ ≤ (O[i]).2.at_ ↔ t ≤ i)
    (hn : ∀ e ∈ M, e.2.pack = p → ¬ from_ ≤ e.2.at_) : O.length ≤ t := by
  by_cases h : t < O.length
  · have h1 := (hm (O[t])).1 (List.getElem_mem h)
    exact absurd ((hf t h).2 (Nat.le_refl _)) (hn _ h1.1 h1.2)
  · omega
theorem of_some {M O : List En} {p : ByteArray} {t : Nat} {from_ : Int} {e : En} (hr : RiseA O) (hm : ∀ e, e ∈ O ↔ e ∈ M ∧ e.2.pack = p) (hf : ∀ (i : Nat) (hi : i < O.length), from_ ≤ (O[i]).2.at_ ↔ t ≤ i)
    (he : e ∈ M) (hp : e.2.pack = p) (hl : from_ ≤ e.2.at_) (hmin : ∀ g ∈ M, g.2.pack = p → from_ ≤ g.2.at_ → e.2.at_ ≤ g.2.at_) : O[t]? = some e ∧ (∀ (i : Nat) (hi : i < O.length), e.2.at_ + 1 ≤ (O[i]).2.at_ ↔ t + 1 ≤ i) := by
  obtain ⟨i, hi, hie⟩ := List.mem_iff_getElem.1 ((hm e).2 ⟨he, hp⟩)
  have h1 : t ≤ i := (hf i hi).1 (by rw [hie]; exact hl)
  have ht : t < O.length := by omega
  have h2 := (hm (O[t])).1 (List.getElem_mem ht)
  have h3 := hmin _ h2.1 h2.2 ((hf t ht).2 (Nat.le_refl _))
  have hpw := List.pairwise_iff_getElem.1 hr
  have h4 : i = t := by
    by_cases h : t < i
    · have := hpw t i ht hi h
      rw [hie] at this
      omega
    · omega
  subst h4
  refine ⟨by rw [List.getElem?_eq_getElem hi, hie], fun j hj => ?_⟩
  constructor
  · intro h
    by_cases hji : j < i
    · have := hpw j i hj hi hji
      rw [hie] at this; omega
    · by_cases hj2 : j = i
      · subst hj2; rw [hie] at h; omega
      · omega
  · intro h
    have := hpw i j hi hj (by omega)
    rw [hie] at this; omega
theorem of_start {M O : List En} {p : ByteArray} (hm : ∀ e, e ∈ O ↔ e ∈ M ∧ e.2.pack = p) (h0 : ∀ e ∈ M, 0 ≤ e.2.at_) : ∀ (i : Nat) (hi : i < O.length), (0 : Int) ≤ (O[i]).2.at_ ↔ 0 ≤ i := fun i hi =>
  ⟨fun _ => Nat.zero_le _, fun _ => h0 _ ((hm _).1 (List.getElem_mem hi)).1⟩
/-- the best so far: of the first i, of pack p, from from_ on -/
structure Best (M : List En) (p : ByteArray) (from_ : Int) (i : Nat) (b : Option Nat) : Prop where
  no : b = none → ∀ (j : Nat) (e : En), j < i → M[j]? = some e → e.2.pack = p → ¬ from_ ≤ e.2.at_
  yes : ∀ k, b = some k → ∃ e, M[k]? = some e ∧ e.2.pack = p ∧ from_ ≤ e.2.at_ ∧ ∀ (j : Nat) (g : En), j < i → M[j]? = some g → g.2.pack = p → from_ ≤ g.2.at_ → e.2.at_ ≤ g.2.at_
theorem Best.zero (M : List En) (p : ByteArray) (from_ : Int) : Best M p from_ 0 none := ⟨fun _ j e hj => absurd hj (Nat.not_lt_zero _), fun k h => by cases h⟩
/-- it is no better -/
theorem Best.stay {M : List En} {p : ByteArray} {from_ : Int} {i : Nat} {b : Option Nat} {e : En} (h : Best M p from_ i b) (he : M[i]? = some e) (hn : e.2.pack = p → from_ ≤ e.2.at_ → ∃ k g, b = some k ∧ M[k]? = some g ∧ g.2.at_ ≤ e.2.at_) : Best M p from_ (i + 1) b := by
  refine ⟨fun hb j g hj hg hp hf => ?_, fun k hb => ?_⟩
  · by_cases hji : j = i
    · subst hji
      rw [he] at hg; cases hg
      obtain ⟨k, _, hb2, _⟩ := hn hp hf
      rw [hb] at hb2; cases hb2
    · exact h.no hb j g (by omega) hg hp hf
  · obtain ⟨x, h1, h2, h3, h4⟩ := h.yes k hb
    refine ⟨x, h1, h2, h3, fun j g hj hg hp hf => ?_⟩
    by_cases hji : j = i
    · subst hji
      rw [he] at hg; cases hg
      obtain ⟨k2, g2, hb2, hg2, hle⟩ := hn hp hf
      rw [hb] at hb2; cases hb2
      rw [h1] at hg2; cases hg2
      exact hle
    · exact h4 j g (by omega) hg hp hf
/-- it is the best -/
theorem Best.take {M : List En} {p : ByteArray} {from_ : Int} {i : Nat} {b : Option Nat} {e : En} (h : Best M p from_ i b) (he : M[i]? = some e) (hp : e.2.pack = p) (hf : from_ ≤ e.2.at_) (hb : ∀ k g, b = some k → M[k]? = some g → e.2.at_ < g.2.at_) : Best M p from_ (i + 1) (some i) := by
  refine ⟨fun h => (by cases h), fun k hk => ?_⟩
  cases hk
  refine ⟨e, he, hp, hf, fun j g hj hg hpg hfg => ?_⟩
  by_cases hji : j = i
  · subst hji; rw [he] at hg; cases hg; exact Int.le_refl _
  · cases hbb : b with
    | none => exact absurd hfg (h.no hbb j g (by omega) hg hpg)
    | some k =>
      obtain ⟨x, h1, h2, h3, h4⟩ := h.yes k hbb
      have := h4 j g (by omega) hg hpg hfg
      have := hb k x hbb h1
      omega
/-! may be, as the document's loops ask it -/
instance : Inhabited Pl := ⟨⟨⟨#[]⟩, 0, 0⟩⟩
instance (p : Pl) : Decidable (mayP p) := by unfold mayP; infer_instance
def comB (p q : Pl) : Bool := decide (p.pack = q.pack) && decide (p.at_ < q.at_ + q.len) && decide (q.at_ < p.at_ + p.len)
theorem comB_iff (p q : Pl) : comB p q = true ↔ Com p q := by unfold comB Com; simp [and_assoc]
/-- the a-th against the first b -/
def comR (P : List Pl) (a : Pl) (b : Nat) : Bool := (P.take b).any fun q => comB a q
theorem comR_succ {P : List Pl} {a q : Pl} {b : Nat} (h : P[b]? = some q) : comR P a (b + 1) = (comR P a b || comB a q) := by unfold comR; rw [take_snoc h, List.any_append]; simp
/-- the first n against one another -/
def comN (P : List Pl) : Nat → Bool
  | 0 => false
  | n + 1 => comN P n || (match P[n]? with | some a => comR P a n | none => false)
theorem comN_succ {P : List Pl} {n : Nat} {a : Pl} (h : P[n]? = some a) : comN P (n + 1) = (comN P n || comR P a n) := by rw [comN, h]
theorem comR_iff {P : List Pl} {a : Pl} {b : Nat} : comR P a b = true ↔ ∃ k, k < b ∧ ∃ q, P[k]? = some q ∧ Com a q := by
  unfold comR
  rw [List.any_eq_true]
  constructor
  · rintro ⟨q, hq, hc⟩
    obtain ⟨k, hk, rfl⟩ := List.mem_iff_getElem.1 hq
    rw [List.length_take] at hk
    refine ⟨k, by omega, _, ?_, (comB_iff _ _).1 hc⟩
    rw [List.getElem_take, List.getElem?_eq_getElem (by omega)]
  · rintro ⟨k, hk, q, hq, hc⟩
    refine ⟨q, ?_, (comB_iff _ _).2 hc⟩
    exact List.mem_of_getElem? (l := P.take b) (i := k) (by rw [List.getElem?_take_of_lt hk]; exact hq)
theorem comN_iff {P : List Pl} : ∀ {n : Nat}, comN P n = true ↔ ∃ i k, k < i ∧ i < n ∧ ∃ a q, P[i]? = some a ∧ P[k]? = some q ∧ Com a q
  | 0 => by simp [comN]
  | n + 1 => by
    rw [comN, Bool.or_eq_true, comN_iff]
    constructor
    · rintro (⟨i, k, h1, h2, h3⟩ | h)
      · exact ⟨i, k, h1, by omega, h3⟩
      · cases ha : P[n]? with
        | none => rw [ha] at h; cases h
        | some a =>
          rw [ha] at h
          obtain ⟨k, hk, q, hq, hc⟩ := comR_iff.1 h
          exact ⟨n, k, hk, Nat.lt_succ_self _, a, q, ha, hq, hc⟩
    · rintro ⟨i, k, h1, h2, a, q, ha, hq, hc⟩
      by_cases hi : i = n
      · subst hi
        right
        rw [ha]
        exact comR_iff.2 ⟨k, h1, q, hq, hc⟩
      · exact .inl ⟨i, k, h1, by omega, a, q, ha, hq, hc⟩
theorem comN_apart {P : List Pl} : comN P P.length = false ↔ P.Pairwise fun p q => ¬ Com p q := by
  rw [List.pairwise_iff_getElem, ← Bool.not_eq_true, comN_iff]
  constructor
  · intro h i j hi hj hij hc
    exact h ⟨j, i, hij, hj, P[j], P[i], List.getElem?_eq_getElem hj, List.getElem?_eq_getElem hi, hc.symm⟩
  · rintro h ⟨i, k, h1, h2, a, q, ha, hq, hc⟩
    obtain ⟨hi, rfl⟩ := List.getElem?_eq_some_iff.1 ha
    obtain ⟨hk, rfl⟩ := List.getElem?_eq_some_iff.1 hq
    exact h k i hk hi h1 hc.symm
/-- one chunk of the row, held against the one ahead of it -/
def ok1 (C : List ByteArray) (P : List Pl) (i : Nat) : Bool := decide ((C.getD i ⟨#[]⟩).size = 32) && (decide (i = 0) || lt (C.getD (i - 1) ⟨#[]⟩) (C.getD i ⟨#[]⟩)) && decide (mayP (P.getD i default))
def okN (C : List ByteArray) (P : List Pl) : Nat → Bool
  | 0 => true
  | n + 1 => okN C P n && ok1 C P n
theorem okN_iff {C : List ByteArray} {P : List Pl} : ∀ {n : Nat}, okN C P n = true ↔ ∀ i, i < n → ok1 C P i = true
  | 0 => by simp [okN]
  | n + 1 => by
    rw [okN, Bool.and_eq_true, okN_iff]
    constructor
    · rintro ⟨h1, h2⟩ i hi
      by_cases e : i = n
      · subst e; exact h2
      · exact h1 i (by omega)
    · intro h
      exact ⟨fun i hi => h i (by omega), h n (by omega)⟩
def mayS (C : List ByteArray) (P : List Pl) : Bool := decide (C.length = P.length) && decide (C.length ≤ 400) && okN C P C.length && !comN P P.length
theorem rise_of_next {C : List ByteArray} (h : ∀ i, i < C.length → i = 0 ∨ lt (C.getD (i - 1) ⟨#[]⟩) (C.getD i ⟨#[]⟩) = true) : RiseK C := by
  have key : ∀ (j i : Nat), i < j → j < C.length → lt (C.getD i ⟨#[]⟩) (C.getD j ⟨#[]⟩) = true := by
    intro j
    induction j with
    | zero => intro i hi; omega
    | succ j ih =>
      intro i hij hj
      have h1 : lt (C.getD j ⟨#[]⟩) (C.getD (j + 1) ⟨#[]⟩) = true := by
        rcases h (j + 1) hj with e | e
        · omega
        · exact e
      by_cases e : i = j
      · subst e; exact h1
      · exact lt_trans (ih i (by omega) (by omega)) h1
  unfold RiseK
  rw [List.pairwise_iff_getElem]
  intro i j hi hj hij
  have := key j i hij hj
  rwa [List.getD_eq_getElem?_getD, List.getD_eq_getElem?_getD, List.getElem?_eq_getElem hi, List.getElem?_eq_getElem hj] at this
theorem zip_fst {C : List ByteArray} {P : List Pl} (h : C.length = P.length) : (C.zip P).map Prod.fst = C := List.map_fst_zip (by omega)
theorem zip_snd {C : List ByteArray} {P : List Pl} (h : C.length = P.length) : (C.zip P).map Prod.snd = P := List.map_snd_zip (by omega)
theorem zip_get {C : List ByteArray} {P : List Pl} {i : Nat} (h1 : i < C.length) (h2 : i < P.length) : (C.zip P)[i]? = some (C.getD i ⟨#[]⟩, P.getD i default) := by
  rw [List.getElem?_eq_getElem (by rw [List.length_zip]; omega), List.getElem_zip, List.getD_eq_getElem?_getD, List.getD_eq_getElem?_getD, List.getElem?_eq_getElem h1, List.getElem?_eq_getElem h2]; rfl
theorem mayS_iff {C : List ByteArray} {P : List Pl} : mayS C P = true ↔ C.length = P.length ∧ May (C.zip P) := by
  unfold mayS
  rw [Bool.and_eq_true, Bool.and_eq_true, Bool.and_eq_true, decide_eq_true_eq, decide_eq_true_eq, okN_iff]
  constructor
  · rintro ⟨⟨⟨h1, h2⟩, h3⟩, h4⟩
    refine ⟨h1, ?_, ?_, ?_, ?_, ?_⟩
    · rw [List.length_zip]; omega
    · intro e he
      obtain ⟨i, hi, rfl⟩ := List.mem_iff_getElem.1 he
      rw [List.length_zip] at hi
      have := h3 i (by omega)
      unfold ok1 at this
      rw [List.getElem_zip]
      simp only [Bool.and_eq_true, decide_eq_true_eq] at this
      have h5 := this.1.1
      rwa [List.getD_eq_getElem?_getD, List.getElem?_eq_getElem (by omega)] at h5
    · intro e he
      obtain ⟨i, hi, rfl⟩ := List.mem_iff_getElem.1 he
      rw [List.length_zip] at hi
      have := h3 i (by omega)
      unfold ok1 at this
      rw [List.getElem_zip]
      simp only [Bool.and_eq_true, decide_eq_true_eq] at this
      have h5 := this.2
      rwa [List.getD_eq_getElem?_getD, List.getElem?_eq_getElem (by omega)] at h5
    · have hr := rise_of_next (C := C) fun i hi => by
        have := h3 i hi
        unfold ok1 at this
        simp only [Bool.and_eq_true, Bool.or_eq_true, decide_eq_true_eq] at this
        exact this.1.2
      have := List.pairwise_map (f := Prod.fst) (l := C.zip P) (R := fun a b => lt a b = true)
      rw [zip_fst h1] at this
      exact this.1 hr
    · have h4' : comN P P.length = false := by simpa using h4
      have hp := comN_apart.1 h4'
      have := List.pairwise_map (f := Prod.snd) (l := C.zip P) (R := fun p q => ¬ Com p q)
      rw [zip_snd h1] at this
      exact this.1 hp
  · rintro ⟨h1, h⟩
    have hl : (C.zip P).length = C.length := by rw [List.length_zip]; omega
    refine ⟨⟨⟨h1, by have := h.most; omega⟩, fun i hi => ?_⟩, ?_⟩
    · have hg := zip_get (C := C) (P := P) hi (by omega)
      have hm := List.mem_of_getElem? hg
      unfold ok1
      simp only [Bool.and_eq_true, Bool.or_eq_true, decide_eq_true_eq]
      refine ⟨⟨h.keys _ hm, ?_⟩, h.places _ hm⟩
      by_cases e : i = 0
      · exact .inl e
      · right
        have hg1 := zip_get (C := C) (P := P) (i := i - 1) (by omega) (by omega)
        obtain ⟨ha, hae⟩ := List.getElem?_eq_some_iff.1 hg
        obtain ⟨hb, hbe⟩ := List.getElem?_eq_some_iff.1 hg1
        have := List.pairwise_iff_getElem.1 h.rise (i - 1) i hb ha (by omega)
        rwa [hae, hbe] at this
    · have : comN P P.length = false := by
        rw [comN_apart]
        have := List.pairwise_map (f := Prod.snd) (l := C.zip P) (R := fun p q => ¬ Com p q)
        rw [zip_snd h1] at this
        exact this.2 h.apart
      simp [this]
/-! what is asked of Add, by its loops -/
section
variable {V : Type}
def hasK (d : ByteArray) (M : List (ByteArray × V)) : Bool := M.any fun p => decide (p.1 = d)
theorem hasK_iff {d : ByteArray} {M : List (ByteArray × V)} : hasK d M = true ↔ ∃ p ∈ M, p.1 = d := by unfold hasK; simp [List.any_eq_true]
theorem hasK_no {d : ByteArray} {M : List (ByteArray × V)} : hasK d M = false ↔ ∀ p ∈ M, p.1 ≠ d := by
  rw [← Bool.not_eq_true, hasK_iff]
  exact ⟨fun h p hp e => h ⟨p, hp, e⟩, fun h ⟨p, hp, e⟩ => h p hp e⟩
theorem hasK_succ {d : ByteArray} {M : List (ByteArray × V)} {k : Nat} {q : ByteArray × V} (h : M[k]? = some q) : hasK d (M.take (k + 1)) = (hasK d (M.take k) || decide (q.1 = d)) := by unfold hasK; rw [take_snoc h, List.any_append]; simp
theorem hasK_look {d : ByteArray} {M : List (ByteArray × V)} : hasK d M = (look d M).isSome := by
  cases h : look d M with
  | none => exact hasK_no.2 (look_none.1 h)
  | some v =>
    have : hasK d M = true := by
      cases hb : hasK d M with
      | true => rfl
      | false => rw [look_none.2 (hasK_no.1 hb)] at h; cases h
    rw [this]; rfl
/-- are the first n new, each? -/
def newN (M N : List (ByteArray × V)) : Nat → Bool
  | 0 => true
  | n + 1 => newN M N n && (match N[n]? with | some o => !hasK o.1 (adds M (N.take n)) | none => true)
theorem newN_succ {M N : List (ByteArray × V)} {n : Nat} {o : ByteArray × V} (h : N[n]? = some o) : newN M N (n + 1) = (newN M N n && !hasK o.1 (adds M (N.take n))) := by rw [newN, h]
theorem newN_iff {M N : List (ByteArray × V)} : ∀ {n : Nat}, newN M N n = true ↔ Fresh M (N.take n)
  | 0 => by simp [newN, Fresh.nil]
  | n + 1 => by
    cases h : N[n]? with
    | none =>
      have hl := List.getElem?_eq_none_iff.1 h
      rw [newN, h, Bool.and_true, newN_iff, List.take_of_length_le hl, List.take_of_length_le (by omega)]
    | some o =>
      rw [newN_succ h, Bool.and_eq_true, newN_iff]
      constructor
      · rintro ⟨h1, h2⟩
        refine (fresh_take h h1).2 fun hm => ?_
        obtain ⟨p, hp, e⟩ := List.mem_map.1 hm
        have : hasK o.1 (adds M (N.take n)) = true := hasK_iff.2 ⟨p, hp, e⟩
        rw [this] at h2; cases h2
      · intro hf
        have h1 : Fresh M (N.take n) := by have := hf.take n; rwa [List.take_take, Nat.min_eq_left (Nat.le_succ n)] at this
        refine ⟨h1, ?_⟩
        have := (fresh_take h h1).1 hf
        cases hb : hasK o.1 (adds M (N.take n)) with
        | false => rfl
        | true =>
          obtain ⟨p, hp, e⟩ := hasK_iff.1 hb
          exact absurd (List.mem_map.2 ⟨p, hp, e⟩) this
theorem newN_all {M N : List (ByteArray × V)} : newN M N N.length = true ↔ Fresh M N := by rw [newN_iff, List.take_of_length_le (Nat.le_refl _)]
theorem newN_mono {M N : List (ByteArray × V)} {n : Nat} (h : newN M N n = false) : ∀ {m : Nat}, n ≤ m → newN M N m = false := by
  intro m hm
  induction m with
  | zero => have : n = 0 := by omega
            subst this; exact h
  | succ m ih =>
    by_cases e : n = m + 1
    · subst e; exact h
    · rw [newN, ih (by omega), Bool.false_and]
end
theorem May.adds {M N : List En} (h : May M) (hf : Fresh M N) (hk : ∀ o ∈ N, o.1.size = 32) (hp : ∀ o ∈ N, mayP o.2) (hl : M.length + N.length ≤ 400) (hc : comN ((adds M N).map Prod.snd) (adds M N).length = false) : May (adds M N) := by
  refine ⟨by rw [length_adds]; exact hl, fun e he => ?_, fun e he => ?_, rise_adds h.rise hf, ?_⟩
  · rcases mem_adds.1 he with he | he
    · exact hk e he
    · exact h.keys e he
  · rcases mem_adds.1 he with he | he
    · exact hp e he
    · exact h.places e he
  · have h2 := List.pairwise_map (f := Prod.snd) (l := Ix.adds M N) (R := fun p q => ¬ Com p q)
    have h3 : comN ((Ix.adds M N).map Prod.snd) ((Ix.adds M N).map Prod.snd).length = false := by rw [List.length_map]; exact hc
    exact h2.1 (comN_apart.1 h3)
/-- the error of Add, of what may be -/
def addE (M N : List En) : Int := if newN M N N.length = true then (if 400 < (adds M N).length then 40 else if comN ((adds M N).map Prod.snd) (adds M N).length = true then 1 else 0) else 6
theorem addE_ok {M N : List En} (h : addE M N = 0) : Fresh M N ∧ M.length + N.length ≤ 400 ∧ comN ((adds M N).map Prod.snd) (adds M N).length = false := by
  unfold addE at h
  by_cases h1 : newN M N N.length = true
  · rw [if_pos h1] at h
    by_cases h2 : 400 < (adds M N).length
    · rw [if_pos h2] at h; cases h
    · rw [if_neg h2] at h
      by_cases h3 : comN ((adds M N).map Prod.snd) (adds M N).length = true
      · rw [if_pos h3] at h; cases h
      · rw [length_adds] at h2
        exact ⟨newN_all.1 h1, by omega, by simpa using h3⟩
  · rw [if_neg h1] at h; cases h
/-! what the stage's theorem asks -/
theorem find_added {M N : List En} (h : May M) (hf : Fresh M N) {o : En} (ho : o ∈ N) : look o.1 (adds M N) = some o.2 := (look_some (rise_adds h.rise hf)).2 (mem_adds.2 (.inl ho))
theorem find_stays {M N : List En} (h : May M) (hf : Fresh M N) {e : En} (he : e ∈ M) : look e.1 (adds M N) = some e.2 := (look_some (rise_adds h.rise hf)).2 (mem_adds.2 (.inr he))
theorem find_dropped {M : List En} (h : May M) (D : List ByteArray) {e : En} (he : e ∈ M) : look e.1 (drops D M) = if (D.any fun d => decide (d = e.1)) = true then none else some e.2 := by
  by_cases hd : (D.any fun d => decide (d = e.1)) = true
  · rw [if_pos hd, look_none]
    intro p hp ep
    obtain ⟨d, hd1, hd2⟩ := List.any_eq_true.1 hd
    simp only [decide_eq_true_eq] at hd2
    exact (mem_drops.1 hp).2 (by rw [ep, ← hd2]; exact hd1)
  · rw [if_neg hd, look_some (rise_drops h.rise)]
    refine mem_drops.2 ⟨he, fun hm => hd (List.any_eq_true.2 ⟨e.1, hm, by simp⟩)⟩
theorem of_each {M : List En} (h : May M) {p : ByteArray} (hp : p ∈ packsOf M) : 0 < (ofs p M).length := by
  obtain ⟨e, he, hpk⟩ := mem_packs.1 hp
  exact List.length_pos_of_mem ((ofs_is h p).2.1 e |>.2 ⟨he, hpk⟩)
theorem of_found {M : List En} (h : May M) {p : ByteArray} {k : Nat} {e : En} (hk : (ofs p M)[k]? = some e) : look e.1 M = some e.2 ∧ e.2.pack = p := by
  have := ((ofs_is h p).2.1 e).1 (List.mem_of_getElem? hk)
  exact ⟨(look_some h.rise).2 this.1, this.2⟩
theorem of_rises {M : List En} (h : May M) {p : ByteArray} {k : Nat} {e g : En} (hk : (ofs p M)[k]? = some e) (hg : (ofs p M)[k + 1]? = some g) : e.2.at_ < g.2.at_ := by
  obtain ⟨h1, rfl⟩ := List.getElem?_eq_some_iff.1 hk
  obtain ⟨h2, rfl⟩ := List.getElem?_eq_some_iff.1 hg
  exact List.pairwise_iff_getElem.1 (ofs_is h p).1 k (k + 1) h1 h2 (by omega)
def ofSum (M : List En) (L : List ByteArray) : Nat := (L.map fun p => (ofs p M).length).sum
theorem ofSum_take {M : List En} {L : List ByteArray} {k : Nat} {p : ByteArray} (h : L[k]? = some p) : ofSum M (L.take (k + 1)) = ofSum M (L.take k) + (ofs p M).length := by
  unfold ofSum; rw [take_snoc h, List.map_append, List.sum_append]; simp
theorem ofSum_all {M : List En} (h : May M) : ofSum M (packsOf M) = M.length := packs_count h
theorem packs_len (M : List En) : (packsOf M).length ≤ M.length := by
  have key : ∀ (s : ByteArray) (l : List ByteArray), (putK s l).length ≤ l.length + 1 := by
    intro s l
    induction l with
    | nil => simp [putK]
    | cons x r ih =>
      unfold putK
      split
      · simp; omega
      · split <;> simp
  have go : ∀ (M : List En) (l : List ByteArray), (M.foldl (fun l e => putK e.2.pack l) l).length ≤ l.length + M.length := by
    intro M
    induction M with
    | nil => intro l; simp
    | cons x r ih =>
      intro l
      rw [List.foldl_cons]
      have := ih (putK x.2.pack l)
      have := key x.2.pack l
      simp; omega
  have := go M []
  unfold packsOf; simpa using this
/-! what is sorted; no program -/
/-- by their keys, of a list that is sorted so, with the members of all that was there and is added -/
theorem sorted_adds {V : Type} {M N L : List (ByteArray × V)} (hr : Rise M) (hf : Fresh M N) (hp : L.Perm (M ++ N)) (hs : L.Pairwise fun x y => lt y.1 x.1 = false) : L = adds M N := by
  have hk : (L.map Prod.fst).Nodup := by
    refine (hp.map Prod.fst).nodup_iff.2 ?_
    rw [List.map_append, List.nodup_append]
    refine ⟨?_, hf.once, fun a ha b hb e => ?_⟩
    · have := List.pairwise_map (f := Prod.fst) (l := M) (R := fun a b : ByteArray => a ≠ b)
      exact this.2 (List.Pairwise.imp (fun h => lt_ne h) hr)
    · obtain ⟨x, hx, rfl⟩ := List.mem_map.1 ha
      obtain ⟨y, hy, rfl⟩ := List.mem_map.1 hb
      exact hf.new y hy x hx e
  refine Rise.ext ?_ (rise_adds hr hf) fun p => ?_
  · have h2 : L.Pairwise fun x y => x.1 ≠ y.1 := List.pairwise_map.1 hk
    refine (hs.and h2).imp fun {x y} h => ?_
    cases hh : lt x.1 y.1 with
    | true => rfl
    | false => exact absurd (lt_conn hh h.1) h.2
  · rw [hp.mem_iff, mem_adds, List.mem_append]
    exact ⟨fun h => h.elim .inr .inl, fun h => h.elim .inr .inl⟩
/-- by At, of those of a pack -/
theorem sorted_ofs {M L : List En} (h : May M) (p : ByteArray) (hp : L.Perm (inPack p M)) (hs : L.Pairwise fun x y => ¬ y.2.at_ < x.2.at_) : L = ofs p M := by
  have h1 := ofs_is h p
  refine RiseA.ext ?_ h1.1 fun e => ?_
  · have h2 : L.Pairwise fun e f => e.2.at_ ≠ f.2.at_ := hp.symm.pairwise (h.ats p) (fun h => Ne.symm h)
    exact (hs.and h2).imp fun {x y} h => by omega
  · rw [hp.mem_iff, h1.2.1, mem_inPack]
/-- of two places one is ahead: by pack, then by At -/
def ahead (x y : Pl) : Bool := lt x.pack y.pack || (decide (x.pack = y.pack) && decide (x.at_ < y.at_))
/-- no two side by side have a byte in common -/
def sideN (L : List Pl) : Nat → Bool
  | 0 => true
  | n + 1 => sideN L n && (decide (n = 0) || !(decide ((L.getD (n - 1) default).pack = (L.getD n default).pack) && decide ((L.getD n default).at_ < (L.getD (n - 1) default).at_ + (L.getD (n - 1) default).len)))
theorem sideN_iff {L : List Pl} : ∀ {n : Nat}, sideN L n = true ↔ ∀ i, i + 1 < n → ¬ ((L.getD i default).pack = (L.getD (i + 1) default).pack ∧ (L.getD (i + 1) default).at_ < (L.getD i default).at_ + (L.getD i default).len)
  | 0 => by simp [sideN]
  | n + 1 => by
    rw [sideN, Bool.and_eq_true, sideN_iff]
    constructor
    · rintro ⟨h1, h2⟩ i hi
      by_cases e : i + 1 = n
      · subst e
        simp only [Nat.add_one_ne_zero, decide_false, Bool.false_or, Nat.add_sub_cancel, Bool.not_eq_true', Bool.and_eq_false_iff, decide_eq_false_iff_not] at h2
        rintro ⟨a, b⟩
        rcases h2 with h2 | h2
        · exact h2 a
        · exact h2 b
      · exact h1 i (by omega)
    · intro h
      refine ⟨fun i hi => h i (by omega), ?_⟩
      by_cases e : n = 0
      · simp [e]
      · have := h (n - 1) (by omega)
        rw [show n - 1 + 1 = n by omega] at this
        simp only [e, decide_false, Bool.false_or, Bool.not_eq_true', Bool.and_eq_false_iff, decide_eq_false_iff_not]
        by_cases h2 : (L.getD (n - 1) default).pack = (L.getD n default).pack
        · exact .inr fun h3 => this ⟨h2, h3⟩
        · exact .inl h2
theorem ahead_pack {x y z : Pl} (h1 : ahead y x = false) (h2 : ahead z y = false) (e : x.pack = z.pack) : x.pack = y.pack := by
  unfold ahead at h1 h2
  rw [Bool.or_eq_false_iff] at h1 h2
  rw [← e] at h2
  exact lt_conn h2.1 h1.1
theorem ahead_at {x y : Pl} (h1 : ahead y x = false) (e : x.pack = y.pack) : x.at_ ≤ y.at_ := by
  unfold ahead at h1
  rw [Bool.or_eq_false_iff] at h1
  have := h1.2
  simp [e] at this
  exact this
theorem ahead_trans {x y z : Pl} (h1 : ahead x y = false) (h2 : ahead y z = false) : ahead x z = false := by
  have a1 : lt x.pack y.pack = false := by unfold ahead at h1; rw [Bool.or_eq_false_iff] at h1; exact h1.1
  have a2 : lt y.pack z.pack = false := by unfold ahead at h2; rw [Bool.or_eq_false_iff] at h2; exact h2.1
  unfold ahead
  rw [Bool.or_eq_false_iff]
  constructor
  · cases h : lt x.pack z.pack with
    | false => rfl
    | true =>
      cases h3 : lt y.pack x.pack with
      | true => rw [lt_trans h3 h] at a2; cases a2
      | false =>
        have e := lt_conn a1 h3
        rw [e, a2] at h; cases h
  · by_cases e : x.pack = z.pack
    · have e1 := ahead_pack h2 h1 e.symm
      have b1 := ahead_at h1 (by rw [e, e1])
      have b2 := ahead_at h2 e1
      simp [e]; omega
    · simp [e]
theorem ahead_irrefl (x : Pl) : ahead x x = false := by simp [ahead, lt_irrefl]
theorem ahead_yes {x y z : Pl} (h1 : ahead x y = true) (h2 : ahead y z = true) : ahead x z = true := by
  unfold ahead at *
  simp only [Bool.or_eq_true, Bool.and_eq_true, decide_eq_true_eq] at *
  rcases h1 with h1 | ⟨e1, h1⟩ <;> rcases h2 with h2 | ⟨e2, h2⟩
  · exact .inl (lt_trans h1 h2)
  · exact .inl (by rw [← e2]; exact h1)
  · exact .inl (by rw [e1]; exact h2)
  · exact .inr ⟨by rw [e1, e2], by omega⟩
/-- where no two side by side have, no two have -/
theorem side_apart : ∀ (L : List Pl), (∀ p ∈ L, mayP p) → L.Pairwise (fun x y => ahead y x = false) → (sideN L L.length = true ↔ L.Pairwise fun p q => ¬ Com p q)
  | L, hm, hs => by
    rw [sideN_iff]
    constructor
    · intro h
      have key : ∀ (L : List Pl), (∀ p ∈ L, mayP p) → L.Pairwise (fun x y => ahead y x = false) → (∀ i, i + 1 < L.length → ¬ ((L.getD i default).pack = (L.getD (i + 1) default).pack ∧ (L.getD (i + 1) default).at_ < (L.getD i default).at_ + (L.getD i default).len)) → L.Pairwise fun x y => x.pack = y.pack → x.at_ + x.len ≤ y.at_ := by
        intro L
        induction L with
        | nil => intro _ _ _; exact List.Pairwise.nil
        | cons x r ih =>
          intro hm hs h
          obtain ⟨s1, s2⟩ := List.pairwise_cons.1 hs
          have ihr := ih (fun p hp => hm p (List.mem_cons_of_mem _ hp)) s2 fun i hi => by
            have := h (i + 1) (by simp; omega)
            simpa using this
          refine List.pairwise_cons.2 ⟨fun z hz e => ?_, ihr⟩
          cases r with
          | nil => cases hz
          | cons y t =>
            have h0 := h 0 (by simp)
            simp at h0
            have hxy : ∀ (e : x.pack = y.pack), x.at_ + x.len ≤ y.at_ := fun e => by
              have := h0 e
              omega
            rcases List.mem_cons.1 hz with rfl | hz
            · exact hxy e
            · have hyx := s1 y (by simp)
              have hzy := (List.pairwise_cons.1 s2).1 z hz
              have e1 := ahead_pack hyx hzy e
              have h1 := hxy e1
              have h2 := (List.pairwise_cons.1 ihr).1 z hz (by rw [← e1]; exact e)
              have h3 := (hm y (by simp)).2.2.2.1
              omega
      refine (key L hm hs h).imp fun {x y} hq hc => ?_
      have := hq hc.1
      have := hc.2.2
      omega
    · intro h i hi hc
      have hg : ∀ k (hk : k < L.length), L.getD k default = L[k] := fun k hk => by rw [List.getD_eq_getElem?_getD, List.getElem?_eq_getElem hk]; rfl
      rw [hg i (by omega), hg (i + 1) hi] at hc
      have h1 := List.pairwise_iff_getElem.1 h i (i + 1) (by omega) hi (by omega)
      have h2 := List.pairwise_iff_getElem.1 hs i (i + 1) (by omega) hi (by omega)
      have h3 := ahead_at h2 hc.1
      have h4 := (hm L[i + 1] (List.getElem_mem _)).2.2.2.1
      exact h1 ⟨hc.1, by omega, hc.2⟩
/-- asked of a list that is sorted so -/
theorem side_com {P L : List Pl} (hm : ∀ p ∈ P, mayP p) (hp : L.Perm P) (hs : L.Pairwise fun x y => ahead y x = false) : sideN L L.length = !comN P P.length := by
  have h1 := side_apart L (fun p h => hm p (hp.mem_iff.1 h)) hs
  have h2 : (L.Pairwise fun p q => ¬ Com p q) ↔ (P.Pairwise fun p q => ¬ Com p q) := hp.pairwise_iff (fun h hc => h hc.symm)
  rw [h2, ← comN_apart] at h1
  cases hb : comN P P.length with
  | true => rw [hb] at h1; simpa using h1
  | false => rw [hb] at h1; simpa using h1
/-- how many are less, of a list that rises -/
theorem fst_count {V : Type} {M : List (ByteArray × V)} (h : Rise M) (d : ByteArray) : fst d M = (M.map Prod.fst).countP (fun x => lt x d) := by
  induction M with
  | nil => rfl
  | cons q r ih =>
    obtain ⟨h1, h2⟩ := List.pairwise_cons.1 h
    unfold fst
    rw [List.map_cons, List.countP_cons, List.takeWhile_cons]
    by_cases hq : lt q.1 d = true
    · rw [if_pos hq, if_pos hq, List.length_cons, ← ih h2]; rfl
    · rw [if_neg hq, if_neg hq]
      have : (r.map Prod.fst).countP (fun x => lt x d) = 0 := by
        rw [List.countP_eq_zero]
        intro x hx
        obtain ⟨p, hp, rfl⟩ := List.mem_map.1 hx
        intro hl
        exact hq (lt_trans (h1 p hp) hl)
      rw [this]; rfl
/-- and what stands there -/
theorem fst_has {V : Type} {M : List (ByteArray × V)} (h : Rise M) (d : ByteArray) : (hasK d M = true ↔ ∃ p, M[fst d M]? = some p ∧ p.1 = d) := by
  rw [hasK_look, fst_look h]
  cases hg : M[fst d M]? with
  | none => simp
  | some p =>
    by_cases e : p.1 = d
    · simp [e]
    · simp [e]
end Ix
end Go.Proofs.YtknddbmnciodaaaGreat
