/- What several texts need: gathered. -/
import Derived.Test.YtgdiaflikfdnaaaEq
namespace Go.Proofs.Ytgdiaflikfdnaaa
open Go.RowKit Go.Maps
theorem take_eq_succ {α : Type} {l m : List α} {k : Nat} {x y : α} (h : l.take k = m.take k) (hx : l[k]? = some x) (hy : m[k]? = some y) (e : x = y) : l.take (k + 1) = m.take (k + 1) := by
  rw [List.take_add_one, List.take_add_one, hx, hy, h, e]
section
variable {ev : Operand → Value} {o : Oper} {w : World} {x y z : Operand}
theorem rn_pickT {v : Value} (ho : o.op = .pick x y z) (hx : ev x = .bool true) (hy : ev y = v) : (execOp ev o).run Try.prog w = .ok (.value v) w := by
  subst hy; simp [execOp, ho, hx, go_sem]
theorem rn_pickF {v : Value} (ho : o.op = .pick x y z) (hx : ev x = .bool false) (hz : ev z = v) : (execOp ev o).run Try.prog w = .ok (.value v) w := by
  subst hz; simp [execOp, ho, hx, go_sem]
theorem rn_eql4 {u v c : Bool} (ho : o.op = .binOp .eql 4 x y 4) (hx : ev x = .bool u) (hy : ev y = .bool v) (hc : decide (u = v) = c) : (execOp ev o).run Try.prog w = .ok (.value (.bool c)) w := by
  subst hc
  cases u <;> cases v <;> simp [execOp, ho, hx, hy, go_sem]
theorem rn_load39 {g k : Nat} {v : Value} (ho : o.op = .load 38 x) (hx : ev x = .pointer (some ⟨g, k, none⟩)) (hc : w.cell? ⟨g, k, none⟩ = some v) : (execOp ev o).run Try.prog w = .ok (.value v) w := by
  simp [execOp, ho, hx, hc, go_sem]
theorem rn_len39 {v : Value} {n : Nat} (ho : o.op = .call { callee := .builtin .len, args := #[x], argTypes := #[38] }) (hx : ev x = v) (hv : ∃ a c, v = .slice a n c) : (execOp ev o).run Try.prog w = .ok (.value (.int .i64 (n : Int))) w := by
  obtain ⟨a, c, rfl⟩ := hv
  simp [execOp, ho, hx, go_sem]
theorem rn_rem5 {k : Nat} (ho : o.op = .binOp .rem 5 x y 5) (hx : ev x = .int .u8 (k : Int)) (hy : ev y = .int .u8 2) : (execOp ev o).run Try.prog w = .ok (.value (.int .u8 ((k % 2 : Nat) : Int))) w := by
  have e : (k : Int).tmod 2 = ((k % 2 : Nat) : Int) := by
    rw [Int.tmod_eq_emod_of_nonneg (by omega)]; rfl
  have h := Nat.mod_lt k (show 0 < 2 by decide)
  simp [execOp, ho, hx, hy, go_sem, e]
theorem rn_eql5 {u v : Int} {c : Bool} (ho : o.op = .binOp .eql 5 x y 5) (hx : ev x = .int .u8 u) (hy : ev y = .int .u8 v) (hc : decide (u = v) = c) : (execOp ev o).run Try.prog w = .ok (.value (.bool c)) w := by
  subst hc
  have e : (u == v) = decide (u = v) := by by_cases h : u = v <;> simp [h]
  simp [execOp, ho, hx, hy, go_sem, e]
theorem rn_eql9 {u v : ByteArray} {c : Bool} (ho : o.op = .binOp .eql 9 x y 9) (hx : ev x = .string u) (hy : ev y = .string v) (hc : decide (u = v) = c) : (execOp ev o).run Try.prog w = .ok (.value (.bool c)) w := by
  subst hc
  have h := str_eq u v
  simp [execOp, ho, hx, hy, go_sem, h]
theorem rn_geq3 {u v : Int} {c : Bool} (ho : o.op = .binOp .geq 3 x y 3) (hx : ev x = .int .i64 u) (hy : ev y = .int .i64 v) (hc : decide (v ≤ u) = c) : (execOp ev o).run Try.prog w = .ok (.value (.bool c)) w := by
  subst hc
  simp [execOp, ho, hx, hy, go_sem]
theorem rn_sl9 {d : ByteArray} {n : Nat} (ho : o.op = .slice 9 x none (some y) none) (hx : ev x = .string d) (hy : ev y = .int .i64 (n : Int)) (hn : n ≤ d.size) : (execOp ev o).run Try.prog w = .ok (.value (.string (d.extract 0 n))) w := by
  have q : (n : Int) ≤ (d.size : Int) := by omega
  simp [execOp, ho, hx, hy, go_sem, q]
theorem rn_eql28 {p q : Ob} (ho : o.op = .binOp .eql 33 x y 33) (hx : ev x = .agg #[.string p.1, .string p.2]) (hy : ev y = .agg #[.string q.1, .string q.2]) : (execOp ev o).run Try.prog w = .ok (.value (.bool (decide (p = q)))) w := by
  obtain ⟨p1, p2⟩ := p
  obtain ⟨q1, q2⟩ := q
  have h1 := eql28 w p1 p2 q1 q2
  unfold obv at h1
  have h2 := fun a b => gd28 .eql w a b #[.string p1, .string p2] #[.string q1, .string q2]
  simp [execOp, ho, hx, hy, h1, h2, Result.andThen]
end
theorem RdI.below {W W' : World} {v : Value} {ks : List Int} (h : RdI W v ks) (hb : Below W.heap.size W W') : RdI W' v ks := by
  rcases h with h | ⟨g, o, cap, e0, e, hg, hc⟩
  · exact .inl h
  · exact .inr ⟨g, o, cap, e0, e, Nat.lt_of_lt_of_le hg hb.size, fun j z hz => by rw [hb.cell (p := ⟨g, o + j, none⟩) hg]; exact hc j z hz⟩
theorem RdI.form {W : World} {v : Value} {ks : List Int} (h : RdI W v ks) : ∃ a c, v = .slice a ks.length c := by
  rcases h with ⟨A, c, rfl, rfl⟩ | ⟨g, o, cap, _, rfl, _⟩
  · exact ⟨A, c, rfl⟩
  · exact ⟨_, _, rfl⟩
theorem wp_assign {o : Oper} {a : Act} {w : World} {K : Act → World → Prop} {Q : Exit → Act → World → Prop} {x : Operand} {d : Nat} {v : Value} (ho : o.op = .assign x) (hd : o.dst = some d) (hx : a.eval x = v) (h : K (a.put (some d) v) w) : o.wp Try.prog a w K Q := by
  unfold Oper.wp
  rw [rn_assign ho hx]
  show K (a.put o.dst v) w
  rw [hd]; exact h
theorem wrapN {a b : Nat} (h : a + b ≤ 9223372036854775807) : IntKind.i64.wrap ((a : Int) + (b : Int)) = ((a + b : Nat) : Int) := by
  rw [wrap_i64_of (by omega) (by omega)]; omega
theorem row_lt {w : World} {base k n : Nat} {e : TypeId} {v : Value} {xs : List Value} (h : w.ownsRow base e k v n xs) {g : Nat} (hg : v.ownBlock = some g) : base ≤ g ∧ g < w.heap.size := by
  rcases row_form h with ⟨rfl, _⟩ | ⟨g', cap, rfl, h1, h2, _⟩
  · simp [Value.ownBlock] at hg
  · simp [Value.ownBlock] at hg; subst hg; exact ⟨h2, h1⟩
theorem Fit.more {N N' : Nat} {s : St} (h : Fit N s) (hN : N ≤ N') : Fit N' s := ⟨Nat.le_trans h.seen hN, Nat.le_trans h.writes hN, h.names, h.datas, h.wnames, h.was, h.now, h.refuse, h.room⟩
theorem counted_eq (s : St) : (counted s).2 = { s with refuse := (counted s).2.refuse } := by
  unfold counted; split <;> (cases s; simp_all)
theorem counted_refuse (s : St) : ((counted s).1 = false ∧ s.refuse = none ∧ (counted s).2.refuse = none) ∨ (∃ m, (counted s).1 = false ∧ s.refuse = some (m + 1) ∧ (counted s).2.refuse = some m) ∨ ((counted s).1 = true ∧ s.refuse = some 0 ∧ (counted s).2.refuse = none) := by
  unfold counted
  cases h : s.refuse with
  | none => exact .inl ⟨rfl, rfl, h⟩
  | some n => cases n with
    | zero => exact .inr (.inr ⟨rfl, rfl, rfl⟩)
    | succ m => exact .inr (.inl ⟨m, rfl, rfl, rfl⟩)
/-- what a write that was tried did -/
inductive Did (s : St) (n : ByteArray) (c : Option ByteArray) : Int → St → Prop
  | ok (r : Option Nat) (h : (s.refuse = none ∧ r = none) ∨ ∃ m, s.refuse = some (m + 1) ∧ r = some m) : Did s n c 0 { s with refuse := r, live := s.live || c.isSome, seen := setC n c s.seen, writes := s.writes ++ [⟨n, look n s.seen, c⟩] }
  | no (h : s.refuse = some 0) : Did s n c 53 { s with refuse := none }
theorem tried_did (s : St) (n : ByteArray) (c : Option ByteArray) : Did s n c (tried s n c).1 (tried s n c).2 := by
  have e := counted_eq s
  rcases counted_refuse s with ⟨h1, h2, h3⟩ | ⟨m, h1, h2, h3⟩ | ⟨h1, h2, h3⟩
  · unfold tried
    rw [h1, e, h3]
    exact Did.ok none (.inl ⟨h2, rfl⟩)
  · unfold tried
    rw [h1, e, h3]
    exact Did.ok (some m) (.inr ⟨m, h2, rfl⟩)
  · unfold tried
    rw [h1, e, h3]
    exact Did.no h2
theorem setC_len (n : ByteArray) (c : Option ByteArray) (M : List Ob) : (setC n c M).length ≤ M.length + 1 := by
  have h1 : ∀ n, (drop n M).length ≤ M.length := fun n => List.length_filter_le _ _
  cases c with
  | none => exact Nat.le_succ_of_le (h1 n)
  | some d =>
    have h2 : ∀ (o : Ob) (L : List Ob), (ins o L).length = L.length + 1 := fun o L => by
      induction L with
      | nil => rfl
      | cons p r ih => unfold ins; split <;> simp [ih]
    show (put (n, d) M).length ≤ _
    unfold put
    rw [h2]
    have := h1 n
    show (drop n M).length + 1 ≤ _
    omega
theorem mem_setC' {n : ByteArray} {c : Option ByteArray} {M : List Ob} {p : Ob} (h : p ∈ setC n c M) : p ∈ M ∨ (p.1 = n ∧ c = some p.2) := by
  cases c with
  | none => exact .inl (mem_drop.1 h).1
  | some d =>
    rcases mem_put.1 h with rfl | h
    · exact .inr ⟨rfl, rfl⟩
    · exact .inl h.1
theorem look_mem {n d : ByteArray} {M : List Ob} (h : look n M = some d) : ∃ p ∈ M, p.1 = n ∧ p.2 = d := by
  unfold look at h
  cases hf : M.find? (fun p => decide (p.1 = n)) with
  | none => rw [hf] at h; cases h
  | some p =>
    rw [hf] at h
    exact ⟨p, List.mem_of_find?_eq_some hf, by simpa using List.find?_some hf, by simpa using h⟩
theorem look_size {n : ByteArray} {M : List Ob} {K : Nat} (h : ∀ p ∈ M, p.2.size ≤ K) : ((look n M).getD ⟨#[]⟩).size ≤ K := by
  cases hl : look n M with
  | none => exact Nat.zero_le _
  | some d => obtain ⟨p, hp, _, rfl⟩ := look_mem hl; exact h p hp
theorem Did.fit {s : St} {n : ByteArray} {c : Option ByteArray} {e : Int} {s' : St} (h : Did s n c e s') {N : Nat} (hF : Fit N s) (hn : n.size ≤ 80) (hc : (c.getD ⟨#[]⟩).size ≤ 65536) : Fit (N + 1) s' := by
  cases h with
  | no h => exact ⟨Nat.le_succ_of_le hF.seen, Nat.le_succ_of_le hF.writes, hF.names, hF.datas, hF.wnames, hF.was, hF.now, fun k hk => (by cases hk), hF.room⟩
  | ok r h =>
    refine ⟨Nat.le_trans (setC_len _ _ _) (Nat.succ_le_succ hF.seen), ?_, ?_, ?_, ?_, ?_, ?_, ?_, hF.room⟩
    · have := hF.writes; simp; omega
    · intro p hp
      rcases mem_setC' hp with h | ⟨h, _⟩
      · exact hF.names p h
      · rw [h]; exact hn
    · intro p hp
      rcases mem_setC' hp with h | ⟨_, h⟩
      · exact hF.datas p h
      · rw [h] at hc; exact hc
    · intro q hq
      rcases List.mem_append.1 hq with h | h
      · exact hF.wnames q h
      · rw [List.mem_singleton] at h; subst h; exact hn
    · intro q hq
      rcases List.mem_append.1 hq with h | h
      · exact hF.was q h
      · rw [List.mem_singleton] at h; subst h; exact look_size hF.datas
    · intro q hq
      rcases List.mem_append.1 hq with h | h
      · exact hF.now q h
      · rw [List.mem_singleton] at h; subst h; exact hc
    · intro k hk
      rcases h with ⟨_, h⟩ | ⟨m, h1, h⟩
      · rw [h] at hk; cases hk
      · rw [h] at hk; cases hk; have := hF.refuse _ h1; omega
/-- what put did -/
theorem put_did (s : St) (n d : ByteArray) : ((putS s n d).1 ≠ 0 ∧ (putS s n d).1 ≠ 53 ∧ (putS s n d).2 = s) ∨ (n.size ≤ 80 ∧ d.size ≤ 65536 ∧ Did s n (some d) (putS s n d).1 (putS s n d).2) := by
  unfold putS
  by_cases h1 : badName n d = true
  · rw [if_pos h1]; exact .inl ⟨by simp, by simp, rfl⟩
  · rw [if_neg h1]
    by_cases h2 : s.down = true
    · rw [if_pos h2]; exact .inl ⟨by simp, by simp, rfl⟩
    · rw [if_neg h2]
      by_cases h3 : over s n d = true
      · rw [if_pos h3]; exact .inl ⟨by simp, by simp, rfl⟩
      · rw [if_neg h3]
        unfold badName at h1
        simp only [Bool.or_eq_true, decide_eq_true_eq, not_or] at h1
        exact .inr ⟨by omega, by omega, tried_did _ _ _⟩
theorem get_ok {s : St} {n : ByteArray} (h : (get s n).2 = 0) : s.down = false ∧ look n s.seen = some (get s n).1 := by
  unfold get at *
  cases hd : s.down with
  | true => rw [hd] at h; simp at h
  | false =>
    rw [hd] at h
    simp only [Bool.false_eq_true, if_false] at h ⊢
    cases hl : look n s.seen with
    | none => rw [hl] at h; simp at h
    | some d => simp
theorem get_err (s : St) (n : ByteArray) : (get s n).2 ≠ 53 := by
  unfold get
  split
  · simp
  · split <;> simp
theorem del_did (s : St) (n : ByteArray) {N : Nat} (hF : Fit N s) : ((delS s n).1 ≠ 0 ∧ (delS s n).1 ≠ 53 ∧ (delS s n).2 = s) ∨ (n.size ≤ 80 ∧ Did s n none (delS s n).1 (delS s n).2) := by
  unfold delS
  by_cases h : (get s n).2 = 0
  · rw [if_pos h]
    obtain ⟨p, hp, rfl, _⟩ := look_mem (get_ok h).2
    exact .inr ⟨hF.names p hp, tried_did _ _ _⟩
  · rw [if_neg h]
    exact .inl ⟨h, get_err s n, rfl⟩
theorem put_fit {N : Nat} {s : St} (hF : Fit N s) (n d : ByteArray) : Fit (N + 1) (putS s n d).2 := by
  rcases put_did s n d with ⟨_, _, h⟩ | ⟨h1, h2, h⟩
  · rw [h]; exact hF.more (Nat.le_succ _)
  · exact h.fit hF h1 h2
theorem del_fit {N : Nat} {s : St} (hF : Fit N s) (n : ByteArray) : Fit (N + 1) (delS s n).2 := by
  rcases del_did s n hF with ⟨_, _, h⟩ | ⟨h1, h⟩
  · rw [h]; exact hF.more (Nat.le_succ _)
  · exact h.fit hF h1 (Nat.zero_le _)
/-- writes, one behind the other, each with what it took the place of -/
inductive Chain (A : List Ob) : List Wr → List Ob → Prop
  | nil : Chain A [] A
  | snoc {ws : List Wr} {M : List Ob} (h : Chain A ws M) (n : ByteArray) (c : Option ByteArray) : Chain A (ws ++ [⟨n, look n M, c⟩]) (setC n c M)
theorem Chain.rising {A : List Ob} {ws : List Wr} {M : List Ob} (h : Chain A ws M) (hA : Rising A) : Rising M := by
  induction h with
  | nil => exact hA
  | snoc _ n c ih => exact rising_setC ih
theorem Chain.undo {A : List Ob} {ws : List Wr} {M : List Ob} (h : Chain A ws M) (hA : Rising A) : Ytgdiaflikfdnaaa.undo M ws.reverse = A := by
  induction h with
  | nil => rfl
  | snoc h n c ih =>
    rw [List.reverse_append]
    show Ytgdiaflikfdnaaa.undo (setC n (look n _) (setC n c _)) _ = A
    rw [setC_back (h.rising hA)]
    exact ih
theorem stepK_front {ws : List Wr} {q : Wr} {ks : List Int} {M : List Ob} {i : Nat} (hi : i < ws.length) : stepK (ws ++ [q]) ks M i = stepK ws ks M i := by
  unfold stepK; rw [List.getElem?_append_left hi]
theorem redo_front (ws : List Wr) (q : Wr) (ks : List Int) (M : List Ob) : ∀ n, n ≤ ws.length → redo (ws ++ [q]) ks M n = redo ws ks M n
  | 0, _ => rfl
  | n + 1, h => by rw [redo_succ, redo_succ, redo_front ws q ks M n (by omega), stepK_front (by omega)]
theorem begun_all {c : Option ByteArray} {k : Nat} (h : (c.getD ⟨#[]⟩).size ≤ k) : begun c k = c := by
  cases c with
  | none => rfl
  | some d => 
    show some (if k < d.size then d.extract 0 k else d) = some d
    rw [if_neg (by have : d.size ≤ k := h; omega)]
theorem Chain.redo {A : List Ob} {ws : List Wr} {M : List Ob} (h : Chain A ws M) (ks : List Int) (hk : ∀ (i : Nat) (q : Wr), ws[i]? = some q → ∃ z : Nat, ks[i]? = some (z : Int) ∧ (q.now.getD ⟨#[]⟩).size ≤ z) : Ytgdiaflikfdnaaa.redo ws ks A ws.length = M := by
  induction h with
  | nil => rfl
  | @snoc ws M h n c ih =>
    rw [List.length_append, List.length_singleton, redo_succ, redo_front _ _ _ _ _ (Nat.le_refl _), ih fun i q hq => hk i q (by rw [List.getElem?_append_left (List.getElem?_eq_some_iff.1 hq).1]; exact hq)]
    obtain ⟨z, h1, h2⟩ := hk ws.length ⟨n, look n M, c⟩ (by simp)
    have e : (ws ++ [(⟨n, look n M, c⟩ : Wr)])[ws.length]? = some ⟨n, look n M, c⟩ := by simp
    unfold stepK
    rw [h1, e]
    simp only []
    rw [if_pos (Int.natCast_nonneg z)]
    show setC n (begun c ((z : Int).toNat)) M = _
    rw [Int.toNat_natCast, begun_all h2]
/-- how an object came to be -/
theorem redo_from (ws : List Wr) (ks : List Int) (A : List Ob) : ∀ n (p : Ob), p ∈ redo ws ks A n → p ∈ A ∨ ∃ q ∈ ws, q.name = p.1 ∧ ∃ d, q.now = some d ∧ p.2.size ≤ d.size ∧ d.extract 0 p.2.size = p.2
  | 0, p, h => .inl h
  | n + 1, p, h => by
    rw [redo_succ] at h
    unfold stepK at h
    split at h
    · rename_i q k hq hk
      split at h
      · rcases mem_setC h with h | ⟨h1, h2⟩
        · exact redo_from ws ks A n p h
        · refine .inr ⟨q, List.mem_of_getElem? hq, h1.symm, ?_⟩
          cases hc : q.now with
          | none => rw [hc] at h2; cases h2
          | some d =>
            rw [hc] at h2
            have h2' : some (if k.toNat < d.size then d.extract 0 k.toNat else d) = some p.2 := h2
            have e := Option.some.inj h2'
            refine ⟨d, rfl, ?_⟩
            rw [← e]
            split
            · rename_i hlt
              have hs : (d.extract 0 k.toNat).size = k.toNat := by rw [ByteArray.size_extract]; omega
              rw [hs]
              exact ⟨by omega, rfl⟩
            · refine ⟨Nat.le_refl _, ?_⟩
              exact ByteArray.extract_zero_size
      · exact redo_from ws ks A n p h
    · exact redo_from ws ks A n p h
/-- what is gone was taken away -/
theorem redo_gone (ws : List Wr) (ks : List Int) (A : List Ob) : ∀ n (p : Ob), p ∈ A → (∃ q ∈ redo ws ks A n, q.1 = p.1) ∨ ∃ q ∈ ws, q.name = p.1 ∧ q.now = none
  | 0, p, h => .inl ⟨p, h, rfl⟩
  | n + 1, p, h => by
    rcases redo_gone ws ks A n p h with ⟨r, hr, e⟩ | h'
    · rw [redo_succ]
      unfold stepK
      split
      · rename_i q k hq hk
        split
        · by_cases hn : q.name = p.1
          · cases hc : q.now with
            | none => exact .inr ⟨q, List.mem_of_getElem? hq, hn, hc⟩
            | some d => exact .inl ⟨(q.name, if k.toNat < d.size then d.extract 0 k.toNat else d), mem_put.2 (.inl rfl), hn⟩
          · exact .inl ⟨r, (mem_setC_other (by rw [e]; exact fun h => hn h.symm)).2 hr, e⟩
        · exact .inl ⟨r, hr, e⟩
      · exact .inl ⟨r, hr, e⟩
    · exact .inr h'
end Go.Proofs.Ytgdiaflikfdnaaa
