/- Lists of rows that are made by append, each row in a block of its own. -/
import Derived.Test.YtfbjpgcgdhhfnaaSl
namespace Go.Proofs.Ytfbjpgcgdhhfnaa
open Go.RowKit
def OW (base : Nat) (v : Value) (R : Nat) (Wd : Nat → Nat) (f : El.M) (w : World) : Prop :=
  (v = .slice none 0 0 ∧ R = 0) ∨ ∃ T cap cur, v = .slice (some ⟨T, 0, none⟩) R cap ∧ Has w T cur 31 ∧ (R ≤ cap ∧ cap ≤ maxLen ∧ cur.size = cap) ∧ MW base w.heap.size T R Wd f w
theorem OW.nil (base : Nat) (Wd : Nat → Nat) (f : El.M) (w : World) : OW base (.slice none 0 0) 0 Wd f w := .inl ⟨rfl, rfl⟩
theorem OW.below {base : Nat} {v : Value} {R : Nat} {Wd : Nat → Nat} {f : El.M} {w w' : World} (h : OW base v R Wd f w) (hb : Below w.heap.size w w') : OW base v R Wd f w' := by
  rcases h with h | ⟨T, cap, cur, h1, h2, h3, h4⟩
  · exact .inl h
  · exact .inr ⟨T, cap, cur, h1, h2.below hb h2.lt, h3, (h4.below hb).mono hb.size (Nat.le_refl _)⟩
theorem OW.open {base : Nat} {v : Value} {R : Nat} {Wd : Nat → Nat} {f : El.M} {w0 w : World} (h : OW base v R Wd f w0) (hb : Below w0.heap.size w0 w) :
    ∃ (vs : List Value) (B : Nat → Nat), vs.length = R ∧ Owns 31 base v vs w ∧ (∀ k, v.ownBlock = some k → k < w0.heap.size) ∧ ∀ i, i < R → Wd i ≤ 1000000 ∧ ∃ a cap, vs[i]? = some (.slice a (Wd i) cap) ∧ (Wd i ≤ cap ∧ cap ≤ 9223372036854775807) ∧
      (0 < Wd i → a = some ⟨B i, 0, none⟩ ∧ base ≤ B i ∧ B i < w0.heap.size ∧ v.ownBlock ≠ some (B i) ∧ (∀ k, k < R → k ≠ i → 0 < Wd k → B k ≠ B i) ∧ RowW w (B i) (Wd i) (f i)) := by
  rcases h with ⟨rfl, rfl⟩ | ⟨T, cap, cur, rfl, h2, ⟨h3, h4, h5⟩, h6⟩
  · exact ⟨[], fun _ => 0, rfl, Owns.nil _ _ _, fun k hk => by simp [Value.ownBlock] at hk, fun i hi => absurd hi (by omega)⟩
  · have hH := h2.below hb h2.lt
    obtain ⟨k1, k2, k3, B, k4⟩ := h6.below hb
    have hl : (cur.toList.take R).length = R := by simp; omega
    refine ⟨cur.toList.take R, B, hl, ⟨by rw [hl]; omega, .inr ⟨T, cap, cur, by rw [hl], k1, hH, by rw [hl]; exact h3, h4, by omega, by rw [hl, Nat.mul_one]⟩⟩, fun k hk => ?_, fun i hi => ?_⟩
    · simp [Value.ownBlock] at hk; omega
    · obtain ⟨q1, q2, a, c, q3, q4, q5⟩ := k4 i hi
      refine ⟨q2, a, c, ?_, q4, fun hp => ?_⟩
      · rw [List.getElem?_take, if_pos hi, Array.getElem?_toList, ← hH.cell]; exact q3
      · obtain ⟨s1, s2, s3, s4, s5, s6⟩ := q5 hp
        exact ⟨s1, s2, s3, by simp [Value.ownBlock]; omega, s5, s6⟩
theorem OW.push {base : Nat} {v : Value} {R : Nat} {Wd : Nat → Nat} {f : El.M} {w0 w : World} (h : OW base v R Wd f w0) (hb : Below w0.heap.size w0 w) (hbase : base ≤ w0.heap.size) {r : Value} {l : List Nat}
    (hr : Owns 5 w0.heap.size r (U8s l).toList w) (hx : ∀ x ∈ l, x < 256) (hl : l.length ≤ 1000000) (hW : Wd R = l.length) (hf : ∀ j, j < l.length → f R j = l.getD j 0) (hR : R ≤ 1000000) {b c : Nat} (hnews : Has w b #[r] 31) (ty : TypeId) :
    ∃ v' w', (Builtin.append_ #[46, 46] ty #[v, .slice (some ⟨b, 0, none⟩) 1 c]).run Try.prog w = .ok v' w' ∧ OW base v' (R + 1) Wd f w' ∧ Below base w w' := by
  obtain ⟨vs, B, g1, g2, g3, g4⟩ := h.open hb
  obtain ⟨i, hi, hz0, hz1, hz2⟩ := el31.info
  have hs := hb.size
  obtain ⟨ar, cr, hrf, hrc, hra⟩ := hr.form hx
  obtain ⟨gr, hgr⟩ : ∃ gr, 0 < l.length → ar = some ⟨gr, 0, none⟩ ∧ w0.heap.size ≤ gr ∧ gr < w.heap.size ∧ RowW w gr l.length (fun j => l.getD j 0) := by
    by_cases hp : 0 < l.length
    · obtain ⟨g, e1, e2, e3, _, e4⟩ := hra hp; exact ⟨g, fun _ => ⟨e1, e2, e3, e4⟩⟩
    · exact ⟨0, fun hp' => absurd hp' hp⟩
  have hone : r.oneCell' = true := by rw [hrf]; rfl
  obtain ⟨v', w', a1, a2, a3, _, a5⟩ := run_append_own_at (P := Try.prog) w base 46 ty 31 i (.slice none 0 0) 1 24 el31.ht hi hz0 hz1 hz2 el31.hz (by decide) v _ vs g2 ⟨b, 0, none⟩ 1 c [r] rfl (World.news_of_block hnews) (by simpa using hone) (by rw [g1]; unfold maxLen; omega) (by rw [g1]; omega) (by omega)
  have hbl : Below base w w' := (Below.refl base w).grown a3 (by omega) (fun k hk => (g2.base_le k hk).1)
  refine ⟨v', w', a1, ?_, hbl⟩
  rw [g1] at a2
  obtain ⟨_, a2⟩ := a2
  rcases a2 with ⟨_, h0⟩ | ⟨T, cap, cur, rfl, hT, hh, c1, c2, c3, c4⟩
  · omega
  · have hH : Has w' T cur 31 := hh
    have hTl := hH.lt
    have hloc : v.ownBlock = some T ∨ T = w.heap.size := by
      rcases a5 with h5 | h5
      · left; rw [← h5]; rfl
      · right; simpa [Value.ownBlock] using h5
    have hkeep : ∀ k, k < w.heap.size → v.ownBlock ≠ some k → w'.heap[k]? = w.heap[k]? := fun k hk hne => a3.block k hk (fun e => hne e.symm)
    have hcell : ∀ k, k < R + 1 → w'.cell? ⟨T, k, none⟩ = (vs ++ [r])[k]? := fun k hk => by
      rw [hH.cell, ← c4, List.getElem?_take, if_pos (by omega), Array.getElem?_toList]
    refine .inr ⟨T, cap, cur, rfl, hH, ⟨c1, c2, by omega⟩, hT, hTl, Nat.le_refl _, fun k => if k = R then gr else B k, fun k hk => ⟨hH.frozen k, ?_⟩⟩
    have hws := a3.size
    by_cases he : k = R
    · subst he
      refine ⟨by rw [hW]; exact hl, ar, cr, by rw [hcell k hk, List.getElem?_append_right (by omega), g1, hW, ← hrf]; simp, by rw [hW]; exact hrc, fun hp => ?_⟩
      rw [hW] at hp ⊢
      obtain ⟨e1, e2, e3, e4⟩ := hgr hp
      simp only [if_pos]
      have hne : v.ownBlock ≠ some gr := fun e => by have := g3 gr e; omega
      refine ⟨e1, by omega, by omega, ?_, fun m hm hmk hpm => ?_, (e4.of (hkeep gr e3 hne)).congr hf⟩
      · rcases hloc with h5 | h5
        · intro e; rw [e] at hne; exact hne h5
        · omega
      · rw [if_neg hmk]
        obtain ⟨_, a', c', _, _, q5⟩ := g4 m (by omega)
        have := (q5 hpm).2.2.1; omega
    · obtain ⟨q1, a', c', q3, q4, q5⟩ := g4 k (by omega)
      refine ⟨q1, a', c', by rw [hcell k hk, List.getElem?_append_left (by omega)]; exact q3, q4, fun hp => ?_⟩
      simp only [if_neg he]
      obtain ⟨s1, s2, s3, s4, s5, s6⟩ := q5 hp
      refine ⟨s1, s2, by omega, ?_, fun m hm hmk hpm => ?_, s6.of (hkeep _ (by omega) s4)⟩
      · rcases hloc with h5 | h5
        · intro e; rw [e] at s4; exact s4 h5
        · omega
      · by_cases hmR : m = R
        · rw [if_pos hmR]
          subst hmR
          have := (hgr (by rw [← hW]; exact hpm)).2.1
          omega
        · rw [if_neg hmR]; exact s5 m (by omega) hmk hpm
theorem wpList_push {ops : Array Oper} {rest : List Oper} {o : Oper} {a : Act} {w0 w : World} {Q : Exit → Act → World → Prop} (hgd : o.guard = none) (s x : Operand)
    (ho : o.op = .call { callee := .builtin .append, args := #[s, x], argTypes := #[46, 46] }) (base : Nat) (v : Value) (R : Nat) (Wd : Nat → Nat) (f : El.M) (hs : a.eval s = v) (h : OW base v R Wd f w0) (hb : Below w0.heap.size w0 w) (hbase : base ≤ w0.heap.size) (r : Value) (l : List Nat)
    (hr : Owns 5 w0.heap.size r (U8s l).toList w) (hx : ∀ x ∈ l, x < 256) (hl : l.length ≤ 1000000) (hW : Wd R = l.length) (hf : ∀ j, j < l.length → f R j = l.getD j 0) (hR : R ≤ 1000000) (b c : Nat) (hxe : a.eval x = .slice (some ⟨b, 0, none⟩) 1 c) (hnews : Has w b #[r] 31)
    (hk : ∀ v' w', OW base v' (R + 1) Wd f w' → Below base w w' → wpList Try.prog ops Q rest (a.put o.dst v') w') : wpList Try.prog ops Q (o :: rest) a w := by
  obtain ⟨v', w', h1, h2, h3⟩ := h.push hb hbase hr hx hl hW hf hR hnews o.type (c := c)
  exact wpList_appRun hgd s x 46 46 ho (by rw [hs, hxe]; exact h1) (hk v' w' h2 h3)
/-- a new row, out of a row: its value written out -/
theorem wpList_appF {ops : Array Oper} {rest : List Oper} {o : Oper} {a : Act} {w : World} {Q : Exit → Act → World → Prop} (hgd : o.guard = none) (s x : Operand)
    (ho : o.op = .call { callee := .builtin .append, args := #[s, x], argTypes := #[31, 31] }) (base : Nat) (v xv : Value) (l : List Nat) (n : Nat) (hs : a.eval s = v) (hown : Owns 5 base v [] w) (hx : a.eval x = xv) (hr : Row8 w xv l)
    (hn : l.length = n) (hl : n ≤ 1000000) (hbase : base ≤ w.heap.size)
    (h : ∀ ax cx w', Owns 5 base (.slice ax n cx) (U8s l).toList w' → Below base w w' → wpList Try.prog ops Q rest (a.put o.dst (.slice ax n cx)) w') : wpList Try.prog ops Q (o :: rest) a w := by
  obtain ⟨v', w', h1, h2, h3, _, h5⟩ := app_row w o.type base v xv [] l hown hr (by simp; omega) hbase
  have hx8 : ∀ x ∈ l, x < 256 := hr.choose_spec.choose_spec.2.2.1
  rw [List.nil_append] at h2
  obtain ⟨ax, cx, rfl, _⟩ := h2.form hx8
  rw [hn] at h1 h2
  exact wpList_appRun hgd s x 31 31 ho (by rw [hs, hx]; exact h1) (h ax cx w' h2 h5)
theorem OW.newM {base : Nat} {v : Value} {R : Nat} {Wd : Nat → Nat} {f : El.M} {w : World} (h : OW base v R Wd f w) (hR : R ≤ 1000000) : NewM base w.heap.size w v (rowsOf R Wd f) := by
  refine ⟨by rw [rowsOf_length]; exact hR, ?_⟩
  rcases h with ⟨rfl, rfl⟩ | ⟨T, cap, cur, h1, h2, h3, h4⟩
  · exact .inl ⟨rfl, rfl⟩
  · exact .inr ⟨T, cap, Wd, f, by rw [rowsOf_length]; exact h1, by rw [rowsOf_length], by rw [rowsOf_length]; exact h4⟩
end Go.Proofs.Ytfbjpgcgdhhfnaa
