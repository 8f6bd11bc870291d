/- The document's put: the list, and rows that do not run into one another. -/
import Derived.Test.YtgdiaflikfdnaaaGreatR1
namespace Go.Proofs.YtgdiaflikfdnaaaGreat
open Go.RowKit Go.Maps
theorem ins_at (o : Ob) : ∀ (D : List Ob) (k : Nat), (∀ p ∈ D.take k, lt p.1 o.1 = true) → (∀ q, D[k]? = some q → lt q.1 o.1 = false) → k ≤ D.length → ins o D = D.take k ++ o :: D.drop k
  | [], 0, _, _, _ => rfl
  | [], k + 1, _, _, h => by simp at h
  | p :: r, 0, _, h2, _ => by
    unfold ins
    rw [h2 p rfl]
    rfl
  | p :: r, k + 1, h1, h2, h3 => by
    unfold ins
    rw [h1 p (by simp), if_pos rfl, ins_at o r k (fun q hq => h1 q (by simp [hq])) (fun q hq => h2 q (by simpa using hq)) (by simpa using h3)]
    rfl
/-- a row that an append made, or an empty one -/
def RowZ (Z : Nat) (W : World) (v : Value) (n : Nat) (xs : List Value) : Prop := W.ownsRow Z 35 2 v n xs ∧ ∃ g cap, v = .slice (some ⟨g, 0, none⟩) n cap
theorem RowZ.cur {Z : Nat} {W : World} {v : Value} {n : Nat} {xs : List Value} (h : RowZ Z W v n xs) : ∃ g cap cur, v = .slice (some ⟨g, 0, none⟩) n cap ∧ Z ≤ g ∧ g < W.heap.size ∧ W.heap[g]? = some (.cells cur 35) ∧ n ≤ cap ∧ cur.size = cap * 2 ∧ cur.toList.take (n * 2) = xs := by
  obtain ⟨h1, g, cap, rfl⟩ := h
  rcases h1.2 with ⟨e, _⟩ | ⟨g', cap', cur, e, h2, h3, h4, h5, h6, h7⟩
  · cases e
  · cases e
    exact ⟨g, cap, cur, rfl, h2, (Array.getElem?_eq_some_iff.1 h3).1, h3, h4, h6, h7⟩
theorem RowZ.below {Z : Nat} {W W' : World} {v : Value} {n : Nat} {xs : List Value} (h : RowZ Z W v n xs) (hb : Below W.heap.size W W') : RowZ Z W' v n xs := ⟨row_below h.1 hb, h.2⟩
/-- behind an append onto one row, another one stands as it stood -/
theorem RowZ.keep {Z g g' n n' cap cap' : Nat} {W W' : World} {xs xs' : List Value} (h : RowZ Z W (.slice (some ⟨g, 0, none⟩) n cap) n xs) (h' : RowZ Z W (.slice (some ⟨g', 0, none⟩) n' cap') n' xs') (hg : W.grownBy W' (some g)) (hk : W'.ownsRow Z 35 2 (.slice (some ⟨g, 0, none⟩) n cap) n xs) (hne : cap' = cap → n' = n ∧ xs' = xs) : RowZ Z W' (.slice (some ⟨g', 0, none⟩) n' cap') n' xs' := by
  obtain ⟨_, _, cur, e, _, hgl, hc, hn, hs, hxs⟩ := h.cur
  cases e
  obtain ⟨_, _, cur', e', _, hgl', hc', hn', hs', hxs'⟩ := h'.cur
  cases e'
  refine ⟨?_, g', cap', rfl⟩
  by_cases hgg : g' = g
  · subst hgg
    rw [hc] at hc'
    cases hc'
    have hcc : cap' = cap := by omega
    obtain ⟨h1, h2⟩ := hne hcc
    subst hcc h1 h2
    exact hk
  · refine row_block h'.1 fun k hk' hl => ?_
    have hk2 : k = g' := by simp [Value.ownBlock] at hk'; exact hk'.symm
    subst hk2
    exact hg.block _ hl fun e2 => hgg (by simpa using e2)
/-- a block of one object is no row's that has none, or another one, at its head -/
theorem RowZ.apart {Z g b n cap : Nat} {W : World} {xs : List Value} {nm d : ByteArray} (h : RowZ Z W (.slice (some ⟨g, 0, none⟩) n cap) n xs) (hb : Has W b #[.string nm, .string d] 35) (h0 : n = 0 → cap = 0) (h1 : n = 1 → xs[0]? ≠ some (.string nm)) : b ≠ g := by
  rintro rfl
  obtain ⟨_, _, cur, e, _, _, hc, hn, hs, hxs⟩ := h.cur
  cases e
  unfold Has at hb
  rw [hb] at hc
  cases hc
  have hcap : cap = 1 := by
    have : (2 : Nat) = cap * 2 := hs
    omega
  subst hcap
  have hn1 : n = 1 := by
    rcases Nat.lt_or_ge n 1 with h | h
    · have := h0 (by omega); omega
    · omega
  subst hn1
  exact h1 rfl (by rw [← hxs]; rfl)
theorem bytesLess_eq : ∀ (x y : List UInt8), Op.bytesLess x y = decide (x < y)
  | [], [] => by simp [Op.bytesLess]
  | _ :: _, [] => by simp [Op.bytesLess]
  | [], _ :: _ => by simp [Op.bytesLess]
  | a :: r, b :: s => by
    rw [Op.bytesLess, bytesLess_eq r s, Bool.eq_iff_iff]
    simp [List.cons_lt_cons_iff]
section
variable {ev : Operand → Value} {o : Oper} {w : World} {x y : Operand}
theorem rn_lss9 {u v : ByteArray} (ho : o.op = .binOp .lss 9 x y 9) (hx : ev x = .string u) (hy : ev y = .string v) : (execOp ev o).run Tryz.prog w = .ok (.value (.bool (lt u v))) w := by
  have h := bytesLess_eq u.data.toList v.data.toList
  unfold lt
  simp only [← h]
  simp [execOp, ho, hx, hy, go_sem, Lib.toList_data]
theorem rn_sl45a {g n c k : Nat} (ho : o.op = .slice 55 x none (some y) none) (hx : ev x = .slice (some ⟨g, 0, none⟩) n c) (hy : ev y = .int .i64 (k : Int)) (hk : k ≤ n) (hn : n ≤ c) : (execOp ev o).run Tryz.prog w = .ok (.value (.slice (some ⟨g, 0, none⟩) k c)) w := by
  have q : (k : Int) ≤ (c : Int) := by omega
  simp [execOp, ho, hx, hy, go_sem, q]
theorem rn_sl45b {g n c k : Nat} (ho : o.op = .slice 55 x (some y) none none) (hx : ev x = .slice (some ⟨g, 0, none⟩) n c) (hy : ev y = .int .i64 (k : Int)) (hk : k ≤ n) (hn : n ≤ c) : ∃ A, (execOp ev o).run Tryz.prog w = .ok (.value (.slice A (n - k) (c - k))) w ∧ (k < n → A = some ⟨g, k * 2, none⟩) := by
  have q : (k : Int) ≤ (n : Int) := by omega
  simp [execOp, ho, hx, hy, go_sem, q]
  omega
theorem rn_sl45n (ho : o.op = .slice 55 x none (some y) none) (hx : ev x = .slice none 0 0) (hy : ev y = .int .i64 0) : (execOp ev o).run Tryz.prog w = .ok (.value (.slice none 0 0)) w := by
  simp [execOp, ho, hx, hy, go_sem]
theorem rn_app0 {g n c cap : Nat} {A : Option Addr} {ty : TypeId} (hn : n ≤ cap) : (Builtin.append_ #[55, 55] ty #[.slice (some ⟨g, 0, none⟩) n cap, .slice A 0 c]).run Tryz.prog w = .ok (.slice (some ⟨g, 0, none⟩) n cap) w := by
  cases A <;> simp [Builtin.append_, go_sem, hn]
end
end Go.Proofs.YtgdiaflikfdnaaaGreat
