/- Lists of rows that are made by append: what they hold; the laws of append for them. -/
import Derived.Test.YtnihohcdamhidaaOwn
namespace Go.Proofs.Ytnihohcdamhidaa
open Go.RowKit
theorem belowAlloc {B : Nat} {w w' : World} (h : Below B w w') (o : Obj) (hB : B ≤ w'.heap.size) : Below B w (w'.alloc o) := h.alloc hB o
theorem U8s_toList_length (l : List Nat) : (U8s l).toList.length = l.length := by simp [U8s]
theorem Owns.row {base : Nat} {v : Value} {l : List Nat} {w : World} (h : Owns 5 base v (U8s l).toList w) (hx : ∀ x ∈ l, x < 256) (hl : l.length ≤ 9223372036854775807) : Row8 w v l := by
  by_cases hp : 0 < l.length
  · obtain ⟨g, cap, hv, h1, h2, h3, h4, _⟩ := h.form (by rw [U8s_toList_length]; exact hp)
    subst hv
    rw [U8s_toList_length] at h h1 ⊢
    refine ⟨_, _, rfl, hl, hx, fun _ => ⟨g, 0, rfl, h4, fun j hj => ?_⟩⟩
    rw [Nat.zero_add, h.cell j (by rw [U8s_toList_length]; exact hj), Array.getElem?_toList, U8s_get _ _ hj]
  · have h0 : l = [] := List.eq_nil_of_length_eq_zero (by omega)
    subst h0
    obtain ⟨_, h2⟩ := h
    rcases h2 with ⟨rfl, _⟩ | ⟨g, cap, cur, rfl, _⟩
    · exact Row8.nil w
    · exact ⟨_, _, rfl, hl, hx, fun h => absurd h (by simp)⟩
theorem Owns.ofHas {base g : Nat} {l : List Nat} {w : World} (h : Has w g (U8s l) 5) (hg : base ≤ g) (hl : l.length ≤ 9223372036854775807) : Owns 5 base (.slice (some ⟨g, 0, none⟩) l.length l.length) (U8s l).toList w := by
  refine ⟨by simp, .inr ⟨g, l.length, U8s l, by rw [U8s_toList_length], hg, h, by rw [U8s_toList_length]; exact Nat.le_refl _, hl, by simp [U8s], ?_⟩⟩
  rw [List.take_of_length_le (by simp)]
def OutRows (base : Nat) (w : World) (v : Value) (rs : List (List Nat)) : Prop := ∃ vs : List Value, vs.length = rs.length ∧ Owns 32 base v vs w ∧ ∀ j, j < rs.length → Owns 5 base (vs.getD j (.bool false)) (U8s (rs.getD j [])).toList w ∧ ∀ x ∈ rs.getD j [], x < 256
theorem OutRows.nil (base : Nat) (w : World) : OutRows base w (.slice none 0 0) [] := ⟨[], rfl, Owns.nil _ _ _, fun j hj => absurd hj (by simp)⟩
theorem OutRows.below {base : Nat} {w w' : World} {v : Value} {rs : List (List Nat)} (h : OutRows base w v rs) (hb : Below w.heap.size w w') : OutRows base w' v rs := by
  obtain ⟨vs, h1, h2, h3⟩ := h
  exact ⟨vs, h1, h2.below hb, fun j hj => ⟨(h3 j hj).1.below hb, (h3 j hj).2⟩⟩
theorem OutRows.mat {base : Nat} {w : World} {v : Value} {rs : List (List Nat)} (h : OutRows base w v rs) (hl : rs.length ≤ 1000000) (hc : ∀ i, i < rs.length → (rs.getD i []).length ≤ 1000000) : Mat w v rs := by
  obtain ⟨vs, h1, h2, h3⟩ := h
  by_cases hp : 0 < rs.length
  · obtain ⟨g, cap, hv, k1, k2, k3, k4, _⟩ := h2.form (by omega)
    subst hv
    rw [h1] at h2 k1 ⊢
    refine ⟨_, _, rfl, by omega, fun _ => ⟨g, 0, rfl, k4, fun j hj => ⟨vs.getD j (.bool false), ?_, (h3 j hj).1.row (h3 j hj).2 (by have := hc j hj; omega)⟩⟩⟩
    rw [Nat.zero_add, h2.cell j (by omega), List.getD_eq_getElem?_getD, List.getElem?_eq_getElem (by omega)]; rfl
  · have h0 : rs = [] := List.eq_nil_of_length_eq_zero (by omega)
    subst h0
    have h00 : vs = [] := List.eq_nil_of_length_eq_zero h1
    subst h00
    obtain ⟨_, k2⟩ := h2
    rcases k2 with ⟨rfl, _⟩ | ⟨g, cap, cur, rfl, _⟩
    · exact Mat.nil w
    · exact ⟨_, _, rfl, by simp, fun h => absurd h (by simp)⟩
theorem own_apart {base : Nat} {v r : Value} {xs ys : List Value} {w : World} (h1 : Owns 32 base v xs w) (h2 : Owns 5 base r ys w) : r.ownBlock = none ∨ r.ownBlock ≠ v.ownBlock := by
  obtain ⟨_, h2⟩ := h2
  rcases h2 with ⟨rfl, _⟩ | ⟨g, cap, cur, rfl, _, hh, _⟩
  · exact .inl rfl
  · right
    obtain ⟨_, h1⟩ := h1
    rcases h1 with ⟨rfl, _⟩ | ⟨g', cap', cur', rfl, _, hh', _⟩
    · simp [Value.ownBlock]
    · simp only [Value.ownBlock, ne_eq, Option.some.injEq]
      rintro rfl
      rw [hh] at hh'
      simp at hh'
theorem U8s_app1 (l : List Nat) (y : Nat) : (U8s l).toList ++ #[Value.int .u8 (y : Int)].toList = (U8s (l ++ [y])).toList := by simp [U8s]
/-- one number more -/
theorem wpList_app8 {ops : Array Oper} {rest : List Oper} {o : Oper} {a : Act} {w : World} {Q : Exit → Act → World → Prop} (hgd : o.guard = none) (s x : Operand)
    (ho : o.op = .call { callee := .builtin .append, args := #[s, x], argTypes := #[32, 32] }) (base : Nat) (v : Value) (l : List Nat) (hs : a.eval s = v) (hown : Owns 5 base v (U8s l).toList w)
    (b c y : Nat) (hx : a.eval x = .slice (some ⟨b, 0, none⟩) 1 c) (hnews : Has w b #[.int .u8 (y : Int)] 5) (hl : l.length ≤ 1000000) (hbase : base ≤ w.heap.size)
    (h : ∀ v' w', Owns 5 base v' (U8s (l ++ [y])).toList w' → Below base w w' → wpList Try.prog ops Q rest (a.put o.dst v') w') : wpList Try.prog ops Q (o :: rest) a w := by
  refine wpList_app el5 hgd s x ho base v _ hs hown b c #[.int .u8 (y : Int)] hx hnews (by simp [Value.oneCell']) (by simp) (by rw [U8s_toList_length]; simp; omega) hbase ?_
  intro g cap w' h1 _ _ h4
  rw [U8s_app1] at h1
  exact h _ w' h1 h4
/-- one row more -/
theorem wpList_appRow {ops : Array Oper} {rest : List Oper} {o : Oper} {a : Act} {w : World} {Q : Exit → Act → World → Prop} (hgd : o.guard = none) (s x : Operand)
    (ho : o.op = .call { callee := .builtin .append, args := #[s, x], argTypes := #[23, 23] }) (base : Nat) (v r : Value) (rs : List (List Nat)) (l : List Nat) (hs : a.eval s = v) (hown : OutRows base w v rs)
    (b c : Nat) (hx : a.eval x = .slice (some ⟨b, 0, none⟩) 1 c) (hnews : Has w b #[r] 32) (hr : Owns 5 base r (U8s l).toList w) (hlt : ∀ x ∈ l, x < 256) (hl : rs.length ≤ 1000000) (hbase : base ≤ w.heap.size)
    (h : ∀ v' w', OutRows base w' v' (rs ++ [l]) → Below base w w' → wpList Try.prog ops Q rest (a.put o.dst v') w') : wpList Try.prog ops Q (o :: rest) a w := by
  obtain ⟨vs, k1, k2, k3⟩ := hown
  have hone : r.oneCell' = true := by
    obtain ⟨_, h2⟩ := hr
    rcases h2 with ⟨rfl, _⟩ | ⟨g, cap, cur, rfl, _⟩ <;> simp [Value.oneCell']
  refine wpList_app el32 hgd s x ho base v _ hs k2 b c #[r] hx hnews (by simpa using hone) (by simp) (by simp; omega) hbase ?_
  intro g cap w' h1 h2 _ h4
  refine h _ w' ⟨vs ++ [r], by simp; omega, h1, fun j hj => ?_⟩ h4
  simp only [List.length_append, List.length_cons, List.length_nil] at hj
  by_cases he : j < rs.length
  · rw [getD_app_old _ _ _ _ (by omega), getD_app_old _ _ _ _ he]
    exact ⟨World.ownsRow.kept (k3 j he).1 h2 (own_apart k2 (k3 j he).1), (k3 j he).2⟩
  · rw [getD_app_new _ _ _ _ (by omega), getD_app_new _ _ _ _ (by omega)]
    exact ⟨World.ownsRow.kept hr h2 (own_apart k2 hr), hlt⟩
end Go.Proofs.Ytnihohcdamhidaa
