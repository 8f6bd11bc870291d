/- The document's put: its last region, operation by operation. -/
import Derived.Test.YtgdiaflikfdnaaaGreatRPut0
namespace Go.Proofs.YtgdiaflikfdnaaaGreat
open Go.RowKit Go.Maps
section
variable {ev : Operand → Value} {o : Oper} {w : World} {x y : Operand}
theorem rn_bs45z (ho : o.op = .buildSlice 55 0 #[]) : (execOp ev o).run Tryz.prog w = .ok (.value (.slice (some ⟨w.heap.size, 0, none⟩) 0 0)) (w.alloc (.cells #[] 35)) := by
  simp [execOp, ho, go_sem]
theorem rn_bs45 {n d : ByteArray} (ho : o.op = .buildSlice 55 1 #[(0, x)]) (hx : ev x = .agg #[.string n, .string d]) : (execOp ev o).run Tryz.prog w = .ok (.value (.slice (some ⟨w.heap.size, 0, none⟩) 1 1)) (w.alloc (.cells #[.string n, .string d] 35)) := by
  simp [execOp, ho, hx, go_sem]
theorem rn_app45 {w' : World} {u v r : Value} (ho : o.op = .call { callee := .builtin .append, args := #[x, y], argTypes := #[55, 55] }) (hx : ev x = u) (hy : ev y = v) (hr : (Builtin.append_ #[55, 55] o.type #[u, v]).run Tryz.prog w = .ok r w') : (execOp ev o).run Tryz.prog w = .ok (.value r) w' := by
  unfold execOp
  simp only [ho, resolve, invoke, builtin, Sem.run_bind, Sem.run_pure, Result.andThen_ok, List.map_toArray, List.map_cons, List.map_nil, hx, hy, hr]
end
/-- a part of a list, as it is cut out -/
structure Part (W0 : World) (v : Value) (m : Nat) (xs : List Value) : Prop where
  form : ∃ A c, v = .slice A m c
  cells : 0 < m → ∃ g o c, v = .slice (some ⟨g, o, none⟩) m c ∧ g < W0.heap.size ∧ ∀ j u, xs[j]? = some u → W0.cell? ⟨g, o + j, none⟩ = some u
  len : xs.length = m * 2
  plain : ∀ u ∈ xs, u.oneCell' = true
theorem objCells_plain (M : List Ob) : ∀ u ∈ objCells M, u.oneCell' = true := fun u hu => by
  unfold objCells at hu
  obtain ⟨p, _, hp⟩ := List.mem_flatMap.1 hu
  simp at hp
  rcases hp with rfl | rfl <;> rfl
/-- onto a row that lies apart, a part is put -/
theorem app_part {W0 W : World} {Z g n cap m : Nat} {xs ys : List Value} {v : Value} {ty : TypeId} (hZ : W0.heap.size = Z) (h : RowZ Z W (.slice (some ⟨g, 0, none⟩) n cap) n xs) (hp : Part W0 v m ys) (hb : Below Z W0 W) (hl : n + m ≤ 100000000) :
    ∃ g' cap' W', (Builtin.append_ #[55, 55] ty #[.slice (some ⟨g, 0, none⟩) n cap, v]).run Tryz.prog W = .ok (.slice (some ⟨g', 0, none⟩) (n + m) cap') W' ∧ RowZ Z W' (.slice (some ⟨g', 0, none⟩) (n + m) cap') (n + m) (xs ++ ys) ∧ W.grownBy W' (some g) ∧ RowZ Z W' (.slice (some ⟨g, 0, none⟩) n cap) n xs ∧ (m = 0 → cap' = cap) := by
  by_cases hm : m = 0
  · subst hm
    obtain ⟨A, c, rfl⟩ := hp.form
    have hxs : ys = [] := List.eq_nil_of_length_eq_zero (by rw [hp.len])
    subst hxs
    obtain ⟨_, _, _, e, _, _, _, hn, _⟩ := h.cur
    cases e
    exact ⟨g, cap, W, rn_app0 hn, by simpa using h, World.grownBy.refl _ _, h, fun _ => rfl⟩
  · obtain ⟨gp, op, c, rfl, hgp, hc⟩ := hp.cells (by omega)
    have hrow := h.1
    obtain ⟨g', cap', W', r1, r2, r3, r4, r5⟩ := run_app2 el28 W ty Z (.slice (some ⟨g, 0, none⟩) n cap) n xs hrow ⟨gp, op, none⟩ m c ys (by omega) hp.len (fun j u hu => by
      have e : (⟨gp, op, none⟩ : Addr).add j = ⟨gp, op + j, none⟩ := by unfold Addr.add; split <;> simp_all
      rw [e, hb.cell (p := ⟨gp, op + j, none⟩) (by rw [← hZ]; exact hgp)]
      exact hc j u hu) hp.plain hl (by rw [← hZ]; exact hb.size)
    exact ⟨g', cap', W', r1, ⟨r2, g', cap', rfl⟩, r3, ⟨r4, g, cap, rfl⟩, fun h0 => absurd h0 hm⟩
theorem below_grown {W0 W W' : World} {Z g : Nat} (hb : Below Z W0 W) (hg : W.grownBy W' (some g)) (hZ : Z ≤ g) (hs : Z ≤ W.heap.size) : Below Z W0 W' := hb.grown hg hs fun j hj => by cases hj; exact hZ
def rp5 (Z : Nat) (v5 sl1 sl2 : Value) (k : Nat) (X1 : List Value) (n d : ByteArray) (i : Nat) (v : Value) (W : World) : Prop := match i with
  | 27 => ∃ g, v = .slice (some ⟨g, 0, none⟩) 0 0 ∧ RowZ Z W (.slice (some ⟨g, 0, none⟩) 0 0) 0 []
  | 28 => v = v5
  | 29 => v = .int .i64 (k : Int)
  | 30 => v = sl1
  | 31 => ∃ g cap, v = .slice (some ⟨g, 0, none⟩) k cap ∧ RowZ Z W (.slice (some ⟨g, 0, none⟩) k cap) k X1 ∧ (k = 0 → cap = 0)
  | 32 => v = .agg #[.string n, .string d]
  | 33 => ∃ g, v = .slice (some ⟨g, 0, none⟩) 1 1 ∧ Z ≤ g ∧ Has W g #[.string n, .string d] 35
  | 34 => ∃ g cap, v = .slice (some ⟨g, 0, none⟩) (k + 1) cap ∧ RowZ Z W (.slice (some ⟨g, 0, none⟩) (k + 1) cap) (k + 1) (X1 ++ [.string n, .string d])
  | 35 => v = v5
  | 36 => v = .int .i64 (k : Int)
  | 37 => v = sl2
  | _ => True
theorem rp5_turn {Z : Nat} {v5 sl1 sl2 : Value} {k : Nat} {X1 : List Value} {n d : ByteArray} {i : Nat} {v : Value} {W W' : World} (h : rp5 Z v5 sl1 sl2 k X1 n d i v W)
    (h27 : i = 27 → ∀ g, RowZ Z W (.slice (some ⟨g, 0, none⟩) 0 0) 0 [] → RowZ Z W' (.slice (some ⟨g, 0, none⟩) 0 0) 0 [])
    (h31 : i = 31 → ∀ g cap, RowZ Z W (.slice (some ⟨g, 0, none⟩) k cap) k X1 → RowZ Z W' (.slice (some ⟨g, 0, none⟩) k cap) k X1)
    (h33 : i = 33 → ∀ g, Has W g #[.string n, .string d] 35 → Has W' g #[.string n, .string d] 35)
    (h34 : i = 34 → ∀ g cap, RowZ Z W (.slice (some ⟨g, 0, none⟩) (k + 1) cap) (k + 1) (X1 ++ [.string n, .string d]) → RowZ Z W' (.slice (some ⟨g, 0, none⟩) (k + 1) cap) (k + 1) (X1 ++ [.string n, .string d])) : rp5 Z v5 sl1 sl2 k X1 n d i v W' := by
  unfold rp5 at h ⊢
  split at h
  all_goals first
    | exact h
    | (obtain ⟨g, e1, e2⟩ := h; exact ⟨g, e1, h27 rfl g e2⟩)
    | (obtain ⟨g, cap, e1, e2, e3⟩ := h; exact ⟨g, cap, e1, h31 rfl g cap e2, e3⟩)
    | (obtain ⟨g, e1, e2, e3⟩ := h; exact ⟨g, e1, e2, h33 rfl g e3⟩)
    | (obtain ⟨g, cap, e1, e2⟩ := h; exact ⟨g, cap, e1, h34 rfl g cap e2⟩)
theorem rp5_below {Z : Nat} {v5 sl1 sl2 : Value} {k : Nat} {X1 : List Value} {n d : ByteArray} {i : Nat} {v : Value} {W W' : World} (h : rp5 Z v5 sl1 sl2 k X1 n d i v W) (hb : Below W.heap.size W W') : rp5 Z v5 sl1 sl2 k X1 n d i v W' :=
  rp5_turn h (fun _ _ hh => hh.below hb) (fun _ _ _ hh => hh.below hb) (fun _ _ hh => hh.below hb hh.lt) (fun _ _ _ hh => hh.below hb)
theorem has_grown {W W' : World} {b g : Nat} {cs : Array Value} {t : TypeId} (h : Has W b cs t) (hg : W.grownBy W' (some g)) (hne : b ≠ g) : Has W' b cs t := by
  have hl := h.lt
  unfold Has at h ⊢
  rw [hg.block b hl (fun e => hne (by simpa using e))]; exact h
theorem rp5_31 {Z : Nat} {v5 sl1 sl2 : Value} {k : Nat} {X1 : List Value} {n d : ByteArray} {i : Nat} {v : Value} {W W' : World} {g : Nat} (h : rp5 Z v5 sl1 sl2 k X1 n d i v W) (hi : i ≠ 31) (hr : RowZ Z W (.slice (some ⟨g, 0, none⟩) 0 0) 0 []) (hg : W.grownBy W' (some g)) (hr' : RowZ Z W' (.slice (some ⟨g, 0, none⟩) 0 0) 0 []) : rp5 Z v5 sl1 sl2 k X1 n d i v W' :=
  rp5_turn h (fun _ _ hh => hr.keep hh hg hr'.1 fun _ => ⟨rfl, rfl⟩) (fun e => absurd e hi) (fun _ b hh => has_grown hh hg (hr.apart hh (fun _ => rfl) (fun e => by cases e)))
    (fun _ g2 cap hh => hr.keep hh hg hr'.1 fun e => by
      obtain ⟨_, _, _, e2, _, _, _, hn, _⟩ := hh.cur
      cases e2; omega)
theorem rp5_34 {Z : Nat} {v5 sl1 sl2 : Value} {k : Nat} {X1 : List Value} {n d : ByteArray} {i : Nat} {v : Value} {W W' : World} {g cap : Nat} (h : rp5 Z v5 sl1 sl2 k X1 n d i v W) (hi : i ≠ 34) (hr : RowZ Z W (.slice (some ⟨g, 0, none⟩) k cap) k X1) (h0 : k = 0 → cap = 0) (hX : k = 1 → X1[0]? ≠ some (.string n)) (hg : W.grownBy W' (some g)) (hr' : RowZ Z W' (.slice (some ⟨g, 0, none⟩) k cap) k X1) : rp5 Z v5 sl1 sl2 k X1 n d i v W' :=
  rp5_turn h (fun _ g2 hh => hr.keep hh hg hr'.1 fun e => by
      obtain ⟨_, _, _, e2, _, _, _, hn, _, hxs⟩ := hr.cur
      cases e2
      have hk : k = 0 := by omega
      subst hk
      exact ⟨rfl, by rw [← hxs]; simp⟩) (fun _ g2 cap2 hh => hr.keep hh hg hr'.1 fun _ => ⟨rfl, rfl⟩) (fun _ b hh => has_grown hh hg (hr.apart hh h0 hX)) (fun e => absurd e hi)
theorem rowz_nil {Z : Nat} (W : World) (h : Z ≤ W.heap.size) : RowZ Z (W.alloc (.cells #[] 35)) (.slice (some ⟨W.heap.size, 0, none⟩) 0 0) 0 [] :=
  ⟨⟨rfl, .inr ⟨W.heap.size, 0, #[], rfl, h, Has.new W W.heap.size #[] 35 rfl, Nat.le_refl _, by unfold maxLen; omega, rfl, rfl⟩⟩, _, _, rfl⟩
theorem rn_sl45m {ev : Operand → Value} {o : Oper} {w : World} {x y : Operand} (ho : o.op = .slice 55 x (some y) none none) (hx : ev x = .slice none 0 0) (hy : ev y = .int .i64 0) : (execOp ev o).run Tryz.prog w = .ok (.value (.slice none 0 0)) w := by
  simp [execOp, ho, hx, hy, go_sem]
theorem rn_sl45c {ev : Operand → Value} {o : Oper} {w : World} {x y : Operand} {g n c k : Nat} (ho : o.op = .slice 55 x (some y) none none) (hx : ev x = .slice (some ⟨g, 0, none⟩) n c) (hy : ev y = .int .i64 (k : Int)) (hk : k ≤ n) : (execOp ev o).run Tryz.prog w = .ok (.value (.slice (if c = k then some ⟨g, 0, none⟩ else some ⟨g, k * 2, none⟩) (n - k) (c - k))) w := by
  have q : (k : Int) ≤ (n : Int) := by omega
  simp [execOp, ho, hx, hy, go_sem, q]
theorem objCells_take (D : List Ob) (k : Nat) : ∀ (j : Nat) u, (objCells (D.take k))[j]? = some u → (objCells D)[j]? = some u := fun j u h => by
  have e : objCells D = objCells (D.take k) ++ objCells (D.drop k) := by
    unfold objCells; rw [← List.flatMap_append, List.take_append_drop]
  rw [e, List.getElem?_append_left (List.getElem?_eq_some_iff.1 h).1]; exact h
theorem objCells_drop (D : List Ob) (k : Nat) (hk : k ≤ D.length) : ∀ (j : Nat) u, (objCells (D.drop k))[j]? = some u → (objCells D)[k * 2 + j]? = some u := fun j u h => by
  have e : objCells D = objCells (D.take k) ++ objCells (D.drop k) := by
    unfold objCells; rw [← List.flatMap_append, List.take_append_drop]
  have hl : (objCells (D.take k)).length = k * 2 := by rw [objCells_length, List.length_take]; omega
  rw [e, List.getElem?_append_right (by omega), hl]
  rw [Nat.add_sub_cancel_left]; exact h
theorem parts_of {W0 : World} {B L k : Nat} {v5 : Value} {D : List Ob} (h : W0.ownsRow B 35 2 v5 L (objCells D)) (hL : D.length = L) (hk : k ≤ L) : ∃ sl1 sl2,
    (∀ (ev : Operand → Value) (o : Oper) (w : World) (x y : Operand), o.op = .slice 55 x none (some y) none → ev x = v5 → ev y = .int .i64 (k : Int) → (execOp ev o).run Tryz.prog w = .ok (.value sl1) w) ∧
    (∀ (ev : Operand → Value) (o : Oper) (w : World) (x y : Operand), o.op = .slice 55 x (some y) none none → ev x = v5 → ev y = .int .i64 (k : Int) → (execOp ev o).run Tryz.prog w = .ok (.value sl2) w) ∧ Part W0 sl1 k (objCells (D.take k)) ∧ Part W0 sl2 (L - k) (objCells (D.drop k)) := by
  have hl1 : (objCells (D.take k)).length = k * 2 := by rw [objCells_length, List.length_take]; omega
  have hl2 : (objCells (D.drop k)).length = (L - k) * 2 := by rw [objCells_length, List.length_drop]; omega
  rcases row_form h with ⟨rfl, rfl, _⟩ | ⟨g, cap, rfl, hg, _, hn, _, hc⟩
  · have hk0 : k = 0 := by omega
    subst hk0
    exact ⟨_, _, fun _ _ _ _ _ ho hx hy => rn_sl45n ho hx hy, fun _ _ _ _ _ ho hx hy => rn_sl45m ho hx hy, ⟨⟨_, _, rfl⟩, fun h => absurd h (Nat.lt_irrefl _), hl1, objCells_plain _⟩, ⟨⟨_, _, rfl⟩, fun h => absurd h (Nat.lt_irrefl _), hl2, objCells_plain _⟩⟩
  · refine ⟨_, _, fun _ _ _ _ _ ho hx hy => rn_sl45a ho hx hy hk hn, fun _ _ _ _ _ ho hx hy => rn_sl45c ho hx hy hk, ⟨⟨_, _, rfl⟩, fun _ => ⟨g, 0, cap, rfl, hg, fun j u hu => ?_⟩, hl1, objCells_plain _⟩, ⟨⟨_, _, rfl⟩, fun hp => ⟨g, k * 2, cap - k, by rw [if_neg (by omega)], hg, fun j u hu => ?_⟩, hl2, objCells_plain _⟩⟩
    · rw [Nat.zero_add]; exact hc j u (objCells_take D k j u hu)
    · exact hc _ u (objCells_drop D k (by omega) j u hu)
end Go.Proofs.YtgdiaflikfdnaaaGreat
