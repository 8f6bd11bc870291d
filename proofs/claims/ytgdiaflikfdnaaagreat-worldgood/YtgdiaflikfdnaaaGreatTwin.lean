/- The program's store and the document's go together: over lists, no program. -/
import Derived.Test.YtgdiaflikfdnaaaGreatRGet
namespace Go.Proofs.YtgdiaflikfdnaaaGreat
open Go.RowKit Go.Maps
def rwOf (q : Wr) : Rw := ⟨q.name, q.now.getD ⟨#[]⟩, q.now.isNone⟩
instance : DecidableEq Rw := fun a b => decidable_of_iff (a.name = b.name ∧ a.data = b.data ∧ a.del = b.del) (by cases a; cases b; simp)
theorem stepR_of (q : Wr) (M : List Ob) : stepR M (rwOf q) = setC q.name q.now M := by
  cases q with
  | mk n w c => cases c <;> simp [stepR, rwOf, setC]
theorem Chain.fold {A : List Ob} {ws : List Wr} {M : List Ob} (h : Chain A ws M) : (ws.map rwOf).foldl stepR A = M := by
  induction h with
  | nil => rfl
  | snoc _ n c ih =>
    rw [List.map_append, List.foldl_append, ih]
    exact stepR_of _ _
theorem Chain.mem {A : List Ob} {ws : List Wr} {M : List Ob} (h : Chain A ws M) : ∀ p ∈ M, p ∈ A ∨ ∃ q ∈ ws, q.name = p.1 ∧ q.now = some p.2 := by
  induction h with
  | nil => exact fun p hp => .inl hp
  | snoc _ n c ih =>
    intro p hp
    rcases mem_setC' hp with h | ⟨h1, h2⟩
    · rcases ih p h with h | ⟨q, hq, h⟩
      · exact .inl h
      · exact .inr ⟨q, List.mem_append_left _ hq, h⟩
    · exact .inr ⟨_, List.mem_append_right _ (List.mem_singleton.2 rfl), h1.symm, h2⟩
theorem Chain.was {A : List Ob} {ws : List Wr} {M : List Ob} (h : Chain A ws M) : ∀ q ∈ ws, ∀ d, q.was = some d → (∃ p ∈ A, p.2 = d) ∨ ∃ q' ∈ ws, q'.now = some d := by
  induction h with
  | nil => intro q hq; cases hq
  | snoc hc n c ih =>
    intro q hq d hd
    rcases List.mem_append.1 hq with h | h
    · rcases ih q h d hd with h | ⟨q', h1, h2⟩
      · exact .inl h
      · exact .inr ⟨q', List.mem_append_left _ h1, h2⟩
    · rw [List.mem_singleton] at h
      subst h
      obtain ⟨p, hp, _, rfl⟩ := look_mem hd
      rcases hc.mem p hp with h | ⟨q', h1, _, h2⟩
      · exact .inl ⟨p, h, rfl⟩
      · exact .inr ⟨q', List.mem_append_left _ h1, h2⟩
/-- the two stores tell the same, and are of that size at most -/
structure Twin (N : Nat) (s : St) (r : Rf) : Prop where
  good : Rising r.good
  chain : Chain r.good s.writes s.seen
  writes : r.writes = s.writes.map rwOf
  down : r.down = s.down
  ahead : r.ahead = s.refuse
  room : r.room = s.room
  live : s.live = false → s.seen = [] ∧ s.writes = []
  many : r.good.length + r.writes.length ≤ N
  gn : ∀ p ∈ r.good, p.1.size ≤ 80
  gd : ∀ p ∈ r.good, p.2.size ≤ 65536
  wn : ∀ q ∈ s.writes, q.name.size ≤ 80
  wd : ∀ q ∈ s.writes, (q.now.getD ⟨#[]⟩).size ≤ 65536
  refl : ∀ k, s.refuse = some k → k < 9223372036854775808
  rool : ∀ k, s.room = some k → k < 9223372036854775808
variable {N : Nat} {s : St} {r : Rf}
theorem Twin.more {N' : Nat} (h : Twin N s r) (hN : N ≤ N') : Twin N' s r := { h with many := Nat.le_trans h.many hN }
theorem Twin.seen (h : Twin N s r) : seenR r = s.seen := by
  unfold seenR
  rw [h.writes]
  exact h.chain.fold
theorem Twin.rising (h : Twin N s r) : Rising s.seen := h.chain.rising h.good
theorem Twin.len (h : Twin N s r) : s.seen.length ≤ N := by
  have h1 := seenK_len r r.writes.length
  unfold seenK at h1
  rw [List.take_length] at h1
  have h2 : (seenR r).length ≤ r.good.length + r.writes.length := h1
  rw [h.seen] at h2
  exact Nat.le_trans h2 h.many
theorem Twin.names (h : Twin N s r) : ∀ p ∈ s.seen, p.1.size ≤ 80 := fun p hp => by
  rcases h.chain.mem p hp with h1 | ⟨q, h1, h2, _⟩
  · exact h.gn p h1
  · rw [← h2]; exact h.wn q h1
theorem Twin.datas (h : Twin N s r) : ∀ p ∈ s.seen, p.2.size ≤ 65536 := fun p hp => by
  rcases h.chain.mem p hp with h1 | ⟨q, h1, _, h2⟩
  · exact h.gd p h1
  · have := h.wd q h1
    rw [h2] at this
    exact this
theorem Twin.fit (h : Twin N s r) : Fit N s := by
  refine ⟨h.len, ?_, h.names, h.datas, h.wn, fun q hq => ?_, h.wd, h.refl, h.rool⟩
  · have := h.many
    rw [h.writes, List.length_map] at this
    omega
  · cases hw : q.was with
    | none => exact Nat.zero_le _
    | some d =>
      rcases h.chain.was q hq d hw with ⟨p, hp, rfl⟩ | ⟨q', h1, h2⟩
      · exact h.gd p hp
      · have := h.wd q' h1
        rw [h2] at this
        exact this
theorem Twin.lives (h : Twin N s r) : s.writes ≠ [] → s.live = true := fun hw => by
  cases hl : s.live with
  | true => rfl
  | false => exact absurd (h.live hl).2 hw
theorem twin0 : Twin 0 st0 rf0 := ⟨rising_nil, Chain.nil, rfl, rfl, rfl, rfl, fun _ => ⟨rfl, rfl⟩, Nat.le_refl _, fun _ h => (by cases h), fun _ h => (by cases h), fun _ h => (by cases h), fun _ h => (by cases h), fun _ h => (by cases h), fun _ h => (by cases h)⟩
/-- a write is done -/
theorem Twin.write (h : Twin N s r) (n : ByteArray) (c : Option ByteArray) (a : Option Nat) (hn : n.size ≤ 80) (hc : (c.getD ⟨#[]⟩).size ≤ 65536) (hl : c = none → s.live = true) (ha : ∀ k, a = some k → k < 9223372036854775808) : Twin (N + 1) { s with refuse := a, live := s.live || c.isSome, seen := setC n c s.seen, writes := s.writes ++ [⟨n, look n s.seen, c⟩] } { r with ahead := a, writes := r.writes ++ [⟨n, c.getD ⟨#[]⟩, c.isNone⟩] } := by
  refine ⟨h.good, h.chain.snoc n c, ?_, h.down, rfl, h.room, fun hf => ?_, ?_, h.gn, h.gd, fun q hq => ?_, fun q hq => ?_, ha, h.rool⟩
  · show r.writes ++ _ = _
    rw [h.writes, List.map_append]; rfl
  · exfalso
    have hf' : (s.live || c.isSome) = false := hf
    cases c with
    | none => rw [hl rfl] at hf'; cases hf'
    | some d => simp at hf'
  · have := h.many
    simp; omega
  · rcases List.mem_append.1 hq with hq | hq
    · exact h.wn q hq
    · rw [List.mem_singleton] at hq; subst hq; exact hn
  · rcases List.mem_append.1 hq with hq | hq
    · exact h.wd q hq
    · rw [List.mem_singleton] at hq; subst hq; exact hc
theorem Twin.ahd (h : Twin N s r) (a : Option Nat) (ha : ∀ k, a = some k → k < 9223372036854775808) : Twin N { s with refuse := a } { r with ahead := a } := ⟨h.good, h.chain, h.writes, h.down, rfl, h.room, h.live, h.many, h.gn, h.gd, h.wn, h.wd, ha, h.rool⟩
def triedR (r : Rf) (n d : ByteArray) (dl : Bool) : Int × Rf := if (rcount r).1 then (53, (rcount r).2) else (0, { (rcount r).2 with writes := (rcount r).2.writes ++ [⟨n, d, dl⟩] })
theorem Twin.tried (h : Twin N s r) (n : ByteArray) (c : Option ByteArray) (hn : n.size ≤ 80) (hc : (c.getD ⟨#[]⟩).size ≤ 65536) (hl : c = none → s.live = true) : (triedR r n (c.getD ⟨#[]⟩) c.isNone).1 = (YtgdiaflikfdnaaaGreat.tried s n c).1 ∧ Twin (N + 1) (YtgdiaflikfdnaaaGreat.tried s n c).2 (triedR r n (c.getD ⟨#[]⟩) c.isNone).2 := by
  have hw := h.write n c
  unfold triedR YtgdiaflikfdnaaaGreat.tried rcount counted
  cases ha : s.refuse with
  | none =>
    have hr : r.ahead = none := by rw [h.ahead, ha]
    rw [hr]
    refine ⟨rfl, ?_⟩
    have := hw none hn hc hl (fun k hk => by cases hk)
    cases s; cases r
    simp only at ha hr
    subst ha hr
    exact this
  | some k =>
    have hr : r.ahead = some k := by rw [h.ahead, ha]
    have hk := h.refl k ha
    rw [hr]
    cases k with
    | zero => exact ⟨rfl, (h.ahd none (fun k hk => by cases hk)).more (Nat.le_succ _)⟩
    | succ m => exact ⟨rfl, hw (some m) hn hc hl (fun k hk => by cases hk; omega)⟩
theorem used_ins (o : Ob) : ∀ M : List Ob, used (ins o M) = wt o + used M
  | [] => by simp [ins, used]
  | p :: r => by
    have ih := used_ins o r
    unfold ins
    unfold used at ih ⊢
    split
    · simp only [List.map_cons, List.sum_cons, ih]; omega
    · simp only [List.map_cons, List.sum_cons]
theorem used_drop {n : ByteArray} : ∀ {M : List Ob}, Rising M → used (drop n M) + (match look n M with | none => 0 | some d => wt (n, d)) = used M
  | [], _ => rfl
  | p :: r, h => by
    obtain ⟨h1, h2⟩ := List.pairwise_cons.1 h
    by_cases e : p.1 = n
    · have hd : drop n (p :: r) = r := by
        have : drop n r = r := drop_none (look_none.2 fun q hq hqn => by
          have := lt_ne (h1 q hq)
          rw [e, hqn] at this
          exact this rfl)
        unfold drop at this ⊢
        rw [List.filter_cons_of_neg (by simp [e])]
        exact this
      have hl : look n (p :: r) = some p.2 := by simp [look, e]
      rw [hd, hl]
      show used r + wt (n, p.2) = used (p :: r)
      have : (n, p.2) = p := by rw [← e]
      rw [this]
      simp [used]; omega
    · have hd : drop n (p :: r) = p :: drop n r := by
        unfold drop
        rw [List.filter_cons_of_pos (by simp [e])]
      have hl : look n (p :: r) = look n r := by simp [look, e]
      rw [hd, hl]
      have := used_drop (n := n) h2
      have e1 : ∀ L : List Ob, used (p :: L) = wt p + used L := fun L => by simp [used]
      rw [e1, e1]
      omega
def overR (r : Rf) (n d : ByteArray) : Bool := match r.room with
  | none => false
  | some k => !isMan n && decide (k < used (put (n, d) (seenR r)))
theorem Twin.over (h : Twin N s r) (n d : ByteArray) : overR r n d = YtgdiaflikfdnaaaGreat.over s n d := by
  unfold overR YtgdiaflikfdnaaaGreat.over
  rw [h.room, h.seen]
  cases s.room with
  | none => rfl
  | some k =>
    simp only []
    cases hm : isMan n with
    | true => rfl
    | false =>
      have h1 := used_drop (n := n) h.rising
      have h2 : used (put (n, d) s.seen) = wt (n, d) + used (drop n s.seen) := used_ins _ _
      have h3 : ∀ d, wt (n, d) = d.size := fun d => by unfold wt; simp [hm]
      simp only [Bool.not_false, Bool.true_and, decide_eq_decide]
      rw [h2, h3]
      cases hl : look n s.seen with
      | none =>
        rw [hl] at h1
        simp only [Option.getD_none] at h1 ⊢
        have : (ByteArray.mk #[]).size = 0 := rfl
        omega
      | some x =>
        rw [hl] at h1
        simp only [h3, Option.getD_some] at h1 ⊢
        omega
def putR (r : Rf) (n d : ByteArray) : Int × Rf := if badName n d then (1, r) else if r.down then (51, r) else if overR r n d then (52, r) else triedR r n d false
theorem Twin.put (h : Twin N s r) (n d : ByteArray) : (putR r n d).1 = (putS s n d).1 ∧ Twin (N + 1) (putS s n d).2 (putR r n d).2 := by
  unfold putR putS
  rw [h.over, h.down]
  have h' := h.more (Nat.le_succ N)
  by_cases hb : badName n d = true
  · rw [if_pos hb, if_pos hb]; exact ⟨rfl, h'⟩
  · rw [if_neg hb, if_neg hb]
    by_cases hd : s.down = true
    · rw [if_pos hd, if_pos hd]; exact ⟨rfl, h'⟩
    · rw [if_neg hd, if_neg hd]
      by_cases ho : YtgdiaflikfdnaaaGreat.over s n d = true
      · rw [if_pos ho, if_pos ho]; exact ⟨rfl, h'⟩
      · rw [if_neg ho, if_neg ho]
        unfold badName at hb
        simp only [Bool.or_eq_true, decide_eq_true_eq, not_or] at hb
        exact h.tried n (some d) (by omega) (by show d.size ≤ _; omega) (fun h => by cases h)
theorem Twin.get (h : Twin N s r) (n : ByteArray) : getR r n = YtgdiaflikfdnaaaGreat.get s n := by
  unfold getR YtgdiaflikfdnaaaGreat.get
  rw [h.seen, h.down]
  cases look n s.seen <;> rfl
def delR (r : Rf) (n : ByteArray) : Int × Rf := if (getR r n).2 = 0 then triedR r n ⟨#[]⟩ true else ((getR r n).2, r)
theorem Twin.del (h : Twin N s r) (n : ByteArray) : (delR r n).1 = (delS s n).1 ∧ Twin (N + 1) (delS s n).2 (delR r n).2 := by
  unfold delR delS
  rw [h.get]
  by_cases hg : (YtgdiaflikfdnaaaGreat.get s n).2 = 0
  · rw [if_pos hg, if_pos hg]
    obtain ⟨p, hp, rfl, _⟩ := look_mem (get_ok hg).2
    refine h.tried p.1 none (h.names p hp) (Nat.zero_le _) fun _ => ?_
    cases hl : s.live with
    | true => rfl
    | false => rw [(h.live hl).1] at hp; cases hp
  · rw [if_neg hg, if_neg hg]
    exact ⟨rfl, h.more (Nat.le_succ N)⟩
/-- what is seen stands for good, and is this -/
theorem Twin.flat (h : Twin N s r) (M : List Ob) (lv : Bool) (hM : Rising M) (hl : M.length ≤ N + 1) (hn : ∀ p ∈ M, p.1.size ≤ 80) (hd : ∀ p ∈ M, p.2.size ≤ 65536) (hlv : lv = false → M = []) : Twin (N + 1) { s with seen := M, writes := [], live := lv } { r with good := M, writes := [] } :=
  ⟨hM, Chain.nil, rfl, h.down, h.ahead, h.room, fun hf => ⟨hlv hf, rfl⟩, hl, hn, hd, fun _ h => (by cases h), fun _ h => (by cases h), h.refl, h.rool⟩
theorem Twin.flat0 (h : Twin N s r) : Twin (N + 1) { s with writes := [] } { r with good := seenR r, writes := [] } := by
  rw [h.seen]
  exact h.flat s.seen s.live h.rising (Nat.le_succ_of_le h.len) h.names h.datas fun hf => (h.live hf).1
theorem Twin.sync (h : Twin N s r) : (syncR r).1 = (YtgdiaflikfdnaaaGreat.sync s).1 ∧ Twin (N + 1) (YtgdiaflikfdnaaaGreat.sync s).2 (syncR r).2 := by
  unfold syncR YtgdiaflikfdnaaaGreat.sync
  have e := h.down
  by_cases hd : s.down = true
  · rw [if_pos hd, if_pos (by rw [e]; exact hd)]; exact ⟨rfl, h.more (Nat.le_succ N)⟩
  · rw [if_neg hd, if_neg (by rw [e]; exact hd)]
    exact ⟨rfl, h.flat0⟩
end Go.Proofs.YtgdiaflikfdnaaaGreat
