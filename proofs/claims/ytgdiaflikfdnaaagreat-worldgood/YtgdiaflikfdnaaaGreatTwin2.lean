/- The two stores behind a crash and a fault; which are the same: over lists, no program. -/
import Derived.Test.YtgdiaflikfdnaaaGreatTwin
namespace Go.Proofs.YtgdiaflikfdnaaaGreat
open Go.RowKit Go.Maps
variable {N : Nat} {s : St} {r : Rf}
def cutR (q : Rw) (k : Nat) : Rw := if q.del = false ∧ k < q.data.size then { q with data := q.data.extract 0 k } else q
def keepR (ws : List Rw) (ks : List Int) (i : Nat) : List Rw := match ws[i]?, ks[i]? with
  | some q, some k => if 0 ≤ k then [cutR q k.toNat] else []
  | _, _ => []
def keptR (ws : List Rw) (ks : List Int) (n : Nat) : List Rw := (List.range n).flatMap (keepR ws ks)
theorem keptR_succ (ws : List Rw) (ks : List Int) (n : Nat) : keptR ws ks (n + 1) = keptR ws ks n ++ keepR ws ks n := by
  simp [keptR, List.range_succ, List.flatMap_append]
theorem keptR_end {ws : List Rw} {ks : List Int} {k : Nat} (h : ws.length ≤ k ∨ ks.length ≤ k) : ∀ d, keptR ws ks (k + d) = keptR ws ks k
  | 0 => rfl
  | d + 1 => by
    rw [← Nat.add_assoc, keptR_succ, keptR_end h d]
    have : keepR ws ks (k + d) = [] := by
      unfold keepR
      rcases h with h | h
      · rw [List.getElem?_eq_none (by omega)]
      · have e : ks[k + d]? = none := List.getElem?_eq_none (by omega)
        rw [e]
        split
        · rename_i heq; cases heq
        · rfl
    rw [this, List.append_nil]
theorem keepR_len (ws : List Rw) (ks : List Int) (i : Nat) : (keepR ws ks i).length ≤ 1 := by
  unfold keepR
  split
  · split <;> simp
  · simp
theorem keptR_len (ws : List Rw) (ks : List Int) : ∀ n, (keptR ws ks n).length ≤ n
  | 0 => Nat.le_refl _
  | n + 1 => by
    rw [keptR_succ, List.length_append]
    have := keptR_len ws ks n
    have := keepR_len ws ks n
    omega
def crashR (r : Rf) (ks : List Int) : Rf := { r with good := (keptR r.writes ks r.writes.length).foldl stepR r.good, writes := [] }
theorem begun_cut (q : Wr) (k : Nat) (M : List Ob) : stepR M (cutR (rwOf q) k) = setC q.name (begun q.now k) M := by
  cases q with
  | mk n w c =>
    cases c with
    | none => simp [cutR, rwOf, stepR, setC, begun]
    | some d =>
      by_cases h : k < d.size
      · simp [cutR, rwOf, stepR, setC, begun, h]
      · simp [cutR, rwOf, stepR, setC, begun, h]
theorem redo_kept (ws : List Wr) (ks : List Int) (A : List Ob) : ∀ n, (keptR (ws.map rwOf) ks n).foldl stepR A = redo ws ks A n
  | 0 => rfl
  | n + 1 => by
    rw [keptR_succ, List.foldl_append, redo_kept ws ks A n, redo_succ]
    unfold keepR stepK
    rw [List.getElem?_map]
    cases hq : ws[n]? with
    | none => rfl
    | some q =>
      cases hk : ks[n]? with
      | none => rfl
      | some k =>
        simp only [Option.map_some]
        split
        · exact begun_cut q _ _
        · rfl
theorem begun_size (c : Option ByteArray) (k : Nat) : ((begun c k).getD ⟨#[]⟩).size ≤ (c.getD ⟨#[]⟩).size := by
  cases c with
  | none => exact Nat.le_refl _
  | some d =>
    show (if k < d.size then d.extract 0 k else d).size ≤ d.size
    split
    · rw [ByteArray.size_extract]; omega
    · exact Nat.le_refl _
theorem redo_mem {ws : List Wr} {ks : List Int} {A : List Ob} {a b : Nat} (hA : ∀ p ∈ A, p.1.size ≤ a ∧ p.2.size ≤ b) (hw : ∀ q ∈ ws, q.name.size ≤ a ∧ (q.now.getD ⟨#[]⟩).size ≤ b) (n : Nat) : ∀ p ∈ redo ws ks A n, p.1.size ≤ a ∧ p.2.size ≤ b := fun p hp => by
  rcases redo_from ws ks A n p hp with h | ⟨q, hq, h1, d, h2, h3, _⟩
  · exact hA p h
  · have := hw q hq
    rw [h2] at this
    rw [← h1]
    exact ⟨this.1, Nat.le_trans h3 this.2⟩
theorem redo_rising {ws : List Wr} {ks : List Int} {A : List Ob} (hA : Rising A) : ∀ n, Rising (redo ws ks A n)
  | 0 => hA
  | n + 1 => by
    rw [redo_succ]
    unfold stepK
    split
    · split
      · exact rising_setC (redo_rising hA n)
      · exact redo_rising hA n
    · exact redo_rising hA n
theorem redo_len (ws : List Wr) (ks : List Int) (A : List Ob) : ∀ n, (redo ws ks A n).length ≤ A.length + n
  | 0 => Nat.le_refl _
  | n + 1 => by
    rw [redo_succ]
    have := redo_len ws ks A n
    unfold stepK
    split
    · split
      · rename_i q k _ _ _
        have := setC_len q.name (begun q.now k.toNat) (redo ws ks A n)
        omega
      · omega
    · omega
theorem Twin.crash (h : Twin N s r) (ks : List Int) : Twin (N + 1) (crashS s ks) (crashR r ks) := by
  have e : (crashR r ks).good = redo s.writes ks r.good s.writes.length := by
    show (keptR r.writes ks r.writes.length).foldl stepR r.good = _
    rw [h.writes, List.length_map]
    exact redo_kept _ _ _ _
  have e2 : crashS s ks = { s with seen := redo s.writes ks r.good s.writes.length, writes := [] } := by
    unfold crashS
    rw [h.chain.undo h.good]
  have e3 : crashR r ks = { r with good := redo s.writes ks r.good s.writes.length, writes := [] } := by
    unfold crashR at e ⊢
    simp only at e
    rw [e]
  rw [e2, e3]
  have hm := redo_mem (ks := ks) (A := r.good) (ws := s.writes) (a := 80) (b := 65536) (fun p hp => ⟨h.gn p hp, h.gd p hp⟩) (fun q hq => ⟨h.wn q hq, h.wd q hq⟩) s.writes.length
  refine h.flat _ s.live (redo_rising h.good _) ?_ (fun p hp => (hm p hp).1) (fun p hp => (hm p hp).2) fun hf => ?_
  · have := redo_len s.writes ks r.good s.writes.length
    have := h.many
    rw [h.writes, List.length_map] at this
    omega
  · have h1 := (h.live hf).2
    have h2 := (h.live hf).1
    have h3 := h.chain
    rw [h1] at h3 ⊢
    rw [h2] at h3
    have h4 : r.good = [] := by
      have := h3.undo h.good
      exact this.symm
    rw [h4]; rfl
def loseR (r : Rf) (n : Nat) : Rf := { r with writes := [], good := match stk (seenR r) n with | none => seenR r | some p => drop p.1 (seenR r) }
def bendR (r : Rf) (n a y : Nat) : Rf := { r with writes := [], good := match stk (seenR r) n with
  | none => seenR r
  | some p => if p.2.size = 0 then seenR r else YtgdiaflikfdnaaaGreat.put (p.1, bent p.2 a y) (seenR r) }
def strikeR (r : Rf) (k n a c : Int) : Int × Rf := if badF k n a c then (1, r) else (0, match k with
  | 1 => { r with good := [], writes := [] }
  | 2 => loseR r n.toNat
  | 3 => bendR r n.toNat a.toNat c.toNat
  | 4 => { r with down := true }
  | 5 => { r with down := false }
  | 6 => { r with ahead := some n.toNat }
  | _ => { r with room := some n.toNat })
theorem bent_size (d : ByteArray) (a y : Nat) : (bent d a y).size = d.size := by
  unfold bent
  rw [ofBs_size, List.length_set, bs_length]
theorem Twin.lose (h : Twin N s r) (n : Nat) : Twin (N + 1) (loseS s n) (loseR r n) := by
  unfold loseS loseR
  rw [h.seen]
  cases hs : stk s.seen n with
  | none => exact h.flat s.seen s.live h.rising (Nat.le_succ_of_le h.len) h.names h.datas fun hf => (h.live hf).1
  | some p =>
    refine h.flat _ s.live (rising_drop h.rising) ?_ (fun q hq => h.names q (mem_drop.1 hq).1) (fun q hq => h.datas q (mem_drop.1 hq).1) fun hf => ?_
    · show (drop p.1 s.seen).length ≤ N + 1
      have := length_drop_le p.1 s.seen
      have := h.len
      omega
    · rw [(h.live hf).1]; rfl
theorem Twin.bend (h : Twin N s r) (n a y : Nat) : Twin (N + 1) (bendS s n a y) (bendR r n a y) := by
  unfold bendS bendR
  rw [h.seen]
  have h0 := h.flat s.seen s.live h.rising (Nat.le_succ_of_le h.len) h.names h.datas fun hf => (h.live hf).1
  cases hs : stk s.seen n with
  | none => exact h0
  | some p =>
    simp only
    by_cases hz : p.2.size = 0
    · rw [if_pos hz, if_pos hz]; exact h0
    · rw [if_neg hz, if_neg hz]
      have hp := stk_mem hs
      refine h.flat _ true (rising_put h.rising) ?_ (fun q hq => ?_) (fun q hq => ?_) fun hf => by cases hf
      · have := length_put_le (p.1, bent p.2 a y) s.seen
        have := h.len
        omega
      · rcases mem_put.1 hq with rfl | h1
        · exact h.names p hp
        · exact h.names q h1.1
      · rcases mem_put.1 hq with rfl | h1
        · show (bent p.2 a y).size ≤ _
          rw [bent_size]; exact h.datas p hp
        · exact h.datas q h1.1
theorem Twin.strike (h : Twin N s r) (k n a c : Int) (hn : n < 9223372036854775808) : (strikeR r k n a c).1 = (strikeS s k n a c).1 ∧ Twin (N + 1) (strikeS s k n a c).2 (strikeR r k n a c).2 := by
  have h' := h.more (Nat.le_succ N)
  unfold strikeR strikeS
  by_cases hb : badF k n a c = true
  · rw [if_pos hb, if_pos hb]; exact ⟨rfl, h'⟩
  · rw [if_neg hb, if_neg hb]
    refine ⟨rfl, ?_⟩
    have hk : k = 1 ∨ k = 2 ∨ k = 3 ∨ k = 4 ∨ k = 5 ∨ k = 6 ∨ k = 7 := by
      unfold badF at hb
      simp only [Bool.or_eq_true, decide_eq_true_eq, not_or] at hb
      omega
    rcases hk with rfl | rfl | rfl | rfl | rfl | rfl | rfl
    · exact h.flat [] false rising_nil (Nat.zero_le _) (fun _ h => (by cases h)) (fun _ h => (by cases h)) fun _ => rfl
    · exact h.lose _
    · exact h.bend _ _ _
    · exact ⟨h'.good, h'.chain, h'.writes, rfl, h'.ahead, h'.room, h'.live, h'.many, h'.gn, h'.gd, h'.wn, h'.wd, h'.refl, h'.rool⟩
    · exact ⟨h'.good, h'.chain, h'.writes, rfl, h'.ahead, h'.room, h'.live, h'.many, h'.gn, h'.gd, h'.wn, h'.wd, h'.refl, h'.rool⟩
    · exact h'.ahd (some n.toNat) fun k hk => by cases hk; omega
    · exact ⟨h'.good, h'.chain, h'.writes, h'.down, h'.ahead, rfl, h'.live, h'.many, h'.gn, h'.gd, h'.wn, h'.wd, h'.refl, fun k hk => by cases hk; omega⟩
theorem rwOf_inj {p q : Wr} (h : rwOf p = rwOf q) : p.name = q.name ∧ p.now = q.now := by
  cases p with
  | mk n w c => cases q with
    | mk n' w' c' =>
      unfold rwOf at h
      simp only [Rw.mk.injEq] at h
      refine ⟨h.1, ?_⟩
      cases c <;> cases c' <;> simp_all
theorem Chain.uniq {A : List Ob} {ws : List Wr} {M : List Ob} (h : Chain A ws M) : ∀ {ws' : List Wr} {M' : List Ob}, Chain A ws' M' → ws.map rwOf = ws'.map rwOf → ws = ws' ∧ M = M' := by
  induction h with
  | nil =>
    intro ws' M' h' e
    cases h' with
    | nil => exact ⟨rfl, rfl⟩
    | snoc => simp at e
  | snoc h n c ih =>
    intro ws' M' h' e
    cases h' with
    | nil => simp at e
    | snoc h2 n2 c2 =>
      rw [List.map_append, List.map_append] at e
      obtain ⟨e1, e2⟩ := List.append_inj' e rfl
      obtain ⟨rfl, rfl⟩ := ih h2 e1
      simp only [List.map_cons, List.map_nil, List.cons.injEq, and_true] at e2
      obtain ⟨e3, e4⟩ := rwOf_inj e2
      simp only at e3 e4
      subst e3 e4
      exact ⟨rfl, rfl⟩
end Go.Proofs.YtgdiaflikfdnaaaGreat
