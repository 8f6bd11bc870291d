/- What survives of the writes behind a Sync: over lists, no program. -/
import Derived.Test.YtpeeelnkelnlkaaEnv
import Derived.Test.YtpeeelnkelnlkaaRef7
namespace Go.Proofs.Ytpeeelnkelnlkaa
open Go.RowKit Go.Maps
/-- writes, one behind the other, each with what it took the place of -/
inductive Chain (A : List Ob) : List Wr → List Ob → Prop
  | nil : Chain A [] A
  | snoc {ws : List Wr} {M : List Ob} (h : Chain A ws M) (n : ByteArray) (c : Option ByteArray) : Chain A (ws ++ [⟨n, look n M, c⟩]) (setC n c M)
theorem Chain.rising {A : List Ob} {ws : List Wr} {M : List Ob} (h : Chain A ws M) (hA : Rising A) : Rising M := by
  induction h with
  | nil => exact hA
  | snoc _ n c ih => exact rising_setC ih
theorem Chain.undo {A : List Ob} {ws : List Wr} {M : List Ob} (h : Chain A ws M) (hA : Rising A) : Ytpeeelnkelnlkaa.undo M ws.reverse = A := by
  induction h with
  | nil => rfl
  | snoc h n c ih =>
    rw [List.reverse_append]
    show Ytpeeelnkelnlkaa.undo (setC n (look n _) (setC n c _)) _ = A
    rw [setC_back (h.rising hA)]
    exact ih
theorem stepK_front {ws : List Wr} {q : Wr} {ks : List Int} {M : List Ob} {i : Nat} (hi : i < ws.length) : stepK (ws ++ [q]) ks M i = stepK ws ks M i := by
  unfold stepK; rw [List.getElem?_append_left hi]
theorem redo_front (ws : List Wr) (q : Wr) (ks : List Int) (M : List Ob) : ∀ n, n ≤ ws.length → redo (ws ++ [q]) ks M n = redo ws ks M n
  | 0, _ => rfl
  | n + 1, h => by rw [redo_succ, redo_succ, redo_front ws q ks M n (by omega), stepK_front (by omega)]
theorem begun_all {c : Option ByteArray} {k : Nat} (h : (c.getD ⟨#[]⟩).size ≤ k) : begun c k = c := by
  cases c with
  | none => rfl
  | some d => 
    show some (if k < d.size then d.extract 0 k else d) = some d
    rw [if_neg (by have : d.size ≤ k := h; omega)]
theorem Chain.redo {A : List Ob} {ws : List Wr} {M : List Ob} (h : Chain A ws M) (ks : List Int) (hk : ∀ (i : Nat) (q : Wr), ws[i]? = some q → ∃ z : Nat, ks[i]? = some (z : Int) ∧ (q.now.getD ⟨#[]⟩).size ≤ z) : Ytpeeelnkelnlkaa.redo ws ks A ws.length = M := by
  induction h with
  | nil => rfl
  | @snoc ws M h n c ih =>
    rw [List.length_append, List.length_singleton, redo_succ, redo_front _ _ _ _ _ (Nat.le_refl _), ih fun i q hq => hk i q (by rw [List.getElem?_append_left (List.getElem?_eq_some_iff.1 hq).1]; exact hq)]
    obtain ⟨z, h1, h2⟩ := hk ws.length ⟨n, look n M, c⟩ (by simp)
    have e : (ws ++ [(⟨n, look n M, c⟩ : Wr)])[ws.length]? = some ⟨n, look n M, c⟩ := by simp
    unfold stepK
    rw [h1, e]
    simp only []
    rw [if_pos (Int.natCast_nonneg z)]
    show setC n (begun c ((z : Int).toNat)) M = _
    rw [Int.toNat_natCast, begun_all h2]
/-- how an object came to be -/
theorem redo_from (ws : List Wr) (ks : List Int) (A : List Ob) : ∀ n (p : Ob), p ∈ redo ws ks A n → p ∈ A ∨ ∃ q ∈ ws, q.name = p.1 ∧ ∃ d, q.now = some d ∧ p.2.size ≤ d.size ∧ d.extract 0 p.2.size = p.2
  | 0, p, h => .inl h
  | n + 1, p, h => by
    rw [redo_succ] at h
    unfold stepK at h
    split at h
    · rename_i q k hq hk
      split at h
      · rcases mem_setC h with h | ⟨h1, h2⟩
        · exact redo_from ws ks A n p h
        · refine .inr ⟨q, List.mem_of_getElem? hq, h1.symm, ?_⟩
          cases hc : q.now with
          | none => rw [hc] at h2; cases h2
          | some d =>
            rw [hc] at h2
            have h2' : some (if k.toNat < d.size then d.extract 0 k.toNat else d) = some p.2 := h2
            have e := Option.some.inj h2'
            refine ⟨d, rfl, ?_⟩
            rw [← e]
            split
            · rename_i hlt
              have hs : (d.extract 0 k.toNat).size = k.toNat := by rw [ByteArray.size_extract]; omega
              rw [hs]
              exact ⟨by omega, rfl⟩
            · refine ⟨Nat.le_refl _, ?_⟩
              exact ByteArray.extract_zero_size
      · exact redo_from ws ks A n p h
    · exact redo_from ws ks A n p h
/-- what is gone was taken away -/
theorem redo_gone (ws : List Wr) (ks : List Int) (A : List Ob) : ∀ n (p : Ob), p ∈ A → (∃ q ∈ redo ws ks A n, q.1 = p.1) ∨ ∃ q ∈ ws, q.name = p.1 ∧ q.now = none
  | 0, p, h => .inl ⟨p, h, rfl⟩
  | n + 1, p, h => by
    rcases redo_gone ws ks A n p h with ⟨r, hr, e⟩ | h'
    · rw [redo_succ]
      unfold stepK
      split
      · rename_i q k hq hk
        split
        · by_cases hn : q.name = p.1
          · cases hc : q.now with
            | none => exact .inr ⟨q, List.mem_of_getElem? hq, hn, hc⟩
            | some d => exact .inl ⟨(q.name, if k.toNat < d.size then d.extract 0 k.toNat else d), mem_put.2 (.inl rfl), hn⟩
          · exact .inl ⟨r, (mem_setC_other (by rw [e]; exact fun h => hn h.symm)).2 hr, e⟩
        · exact .inl ⟨r, hr, e⟩
      · exact .inl ⟨r, hr, e⟩
    · exact .inr h'
/-- a store behind a Sync: what was seen then, what was written, by which acts -/
structure Behind (A : List Ob) (l : List Ac) (s : St) : Prop where
  down : s.down = false
  refuse : s.refuse = none
  room : s.room = none
  chain : Chain A s.writes s.seen
  acts : ∀ q ∈ s.writes, ∃ x ∈ l, q.name = x.name ∧ ((q.now = some x.data ∧ x.kind % 2 = 0) ∨ (q.now = none ∧ x.kind % 2 = 1))
  live : s.live = false → s.seen = [] ∧ s.writes = []
theorem Behind.more {A : List Ob} {l l' : List Ac} {s : St} (h : Behind A l s) (hl : ∀ x ∈ l, x ∈ l') : Behind A l' s := ⟨h.down, h.refuse, h.room, h.chain, fun q hq => by obtain ⟨x, hx, h'⟩ := h.acts q hq; exact ⟨x, hl x hx, h'⟩, h.live⟩
theorem Behind.act {A : List Ob} {l : List Ac} {s : St} (h : Behind A l s) (x : Ac) (hx : x ∈ l) : Behind A l (actS s x).2 := by
  have key : ∀ (e : Int) (s' : St) (c : Option ByteArray), Did s x.name c e s' → ((c = some x.data ∧ x.kind % 2 = 0) ∨ (c = none ∧ x.kind % 2 = 1)) → (c = none → s.live = true) → Behind A l s' := fun e s' c hd hc hlv => by
    cases hd with
    | no hr => rw [h.refuse] at hr; cases hr
    | ok r hr =>
      have hr' : r = none := by
        rcases hr with ⟨_, h1⟩ | ⟨m, h1, _⟩
        · exact h1
        · rw [h.refuse] at h1; cases h1
      refine ⟨h.down, hr', h.room, h.chain.snoc x.name c, fun q hq => ?_, fun hl => ?_⟩
      · rcases List.mem_append.1 hq with hq | hq
        · exact h.acts q hq
        · rw [List.mem_singleton] at hq; subst hq; exact ⟨x, hx, rfl, hc⟩
      · exfalso
        have hl' : (s.live || c.isSome) = false := hl
        rcases hc with ⟨rfl, _⟩ | ⟨rfl, _⟩
        · simp at hl'
        · rw [hlv rfl] at hl'; cases hl'
  unfold actS
  split
  · rename_i hk
    rcases put_did s x.name x.data with ⟨_, _, h3⟩ | ⟨_, _, hd⟩
    · rw [h3]; exact h
    · exact key _ _ _ hd (.inl ⟨rfl, hk⟩) (fun h => by cases h)
  · rename_i hk
    unfold delS
    split
    · rename_i hg
      refine key _ _ none (tried_did _ _ _) (.inr ⟨rfl, by omega⟩) fun _ => ?_
      cases hlv : s.live with
      | true => rfl
      | false =>
        have := (get_ok hg).2
        rw [(h.live hlv).1] at this
        cases this
    · exact h
theorem Behind.lives {A : List Ob} {l : List Ac} {s : St} (h : Behind A l s) : s.writes ≠ [] → s.live = true := fun hw => by
  cases hl : s.live with
  | true => rfl
  | false => exact absurd (h.live hl).2 hw
theorem Behind.none {A : List Ob} {l : List Ac} {s : St} (h : Behind A l s) (hA : Rising A) : (crashS s []).seen = A := by
  show redo s.writes [] (Ytpeeelnkelnlkaa.undo s.seen s.writes.reverse) s.writes.length = A
  rw [h.chain.undo hA]
  have : ∀ n, redo s.writes [] A n = A := fun n => by
    induction n with
    | zero => rfl
    | succ n ih =>
      rw [redo_succ, ih]
      unfold stepK
      simp
  exact this _
theorem Behind.all {A : List Ob} {l : List Ac} {s : St} (h : Behind A l s) (hA : Rising A) {N : Nat} (hF : Fit N s) {ks : List Int} (hk : ∀ i : Nat, i < s.writes.length → ks[i]? = some 65536) : (crashS s ks).seen = s.seen := by
  show redo s.writes ks (Ytpeeelnkelnlkaa.undo s.seen s.writes.reverse) s.writes.length = s.seen
  rw [h.chain.undo hA]
  exact h.chain.redo ks fun i q hq => ⟨65536, hk i (List.getElem?_eq_some_iff.1 hq).1, hF.now q (List.mem_of_getElem? hq)⟩
/-- what an object may be behind the power's going -/
def fromB (p : Ob) (A : List Ob) (l : List Ac) : Bool := A.any (fun r => decide (r = p)) || l.any fun x => decide (x.kind % 2 = 0) && (decide (x.name = p.1) && (decide (p.2.size ≤ x.data.size) && decide (x.data.extract 0 p.2.size = p.2)))
theorem Behind.from {A : List Ob} {l : List Ac} {s : St} (h : Behind A l s) (hA : Rising A) (ks : List Int) {p : Ob} (hp : p ∈ (crashS s ks).seen) : fromB p A l = true := by
  have hp' : p ∈ redo s.writes ks (Ytpeeelnkelnlkaa.undo s.seen s.writes.reverse) s.writes.length := hp
  rw [h.chain.undo hA] at hp'
  unfold fromB
  rcases redo_from _ _ _ _ p hp' with h1 | ⟨q, hq, h1, d, h2, h3, h4⟩
  · rw [Bool.or_eq_true]; left; rw [List.any_eq_true]; exact ⟨p, h1, decide_eq_true rfl⟩
  · obtain ⟨x, hx, e1, ⟨e2, e3⟩ | ⟨e2, _⟩⟩ := h.acts q hq
    · rw [h2] at e2
      cases e2
      rw [Bool.or_eq_true]
      right
      rw [List.any_eq_true]
      exact ⟨x, hx, by simp only [Bool.and_eq_true, decide_eq_true_eq]; exact ⟨e3, by rw [← e1, h1], h3, h4⟩⟩
    · rw [h2] at e2; cases e2
theorem Behind.gone {A : List Ob} {l : List Ac} {s : St} (h : Behind A l s) (hA : Rising A) (ks : List Int) {p : Ob} (hp : p ∈ A) : (∃ q ∈ (crashS s ks).seen, q.1 = p.1) ∨ ∃ x ∈ l, x.kind % 2 = 1 ∧ x.name = p.1 := by
  have e : (crashS s ks).seen = redo s.writes ks A s.writes.length := by
    show redo s.writes ks (Ytpeeelnkelnlkaa.undo s.seen s.writes.reverse) s.writes.length = _
    rw [h.chain.undo hA]
  rw [e]
  rcases redo_gone s.writes ks A s.writes.length p hp with h1 | ⟨q, hq, h1, h2⟩
  · exact .inl h1
  · obtain ⟨x, hx, e1, ⟨e2, _⟩ | ⟨_, e3⟩⟩ := h.acts q hq
    · rw [h2] at e2; cases e2
    · exact .inr ⟨x, hx, e3, by rw [← e1, h1]⟩
theorem crash_again (s : St) (ks ks' : List Int) : crashS (crashS s ks) ks' = crashS s ks := rfl
end Go.Proofs.Ytpeeelnkelnlkaa
