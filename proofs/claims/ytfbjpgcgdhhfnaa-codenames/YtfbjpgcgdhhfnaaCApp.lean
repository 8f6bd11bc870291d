/- What is appended: a string's bytes to a row, a string to a list of strings. -/
import Derived.Test.YtfbjpgcgdhhfnaaCStr
import Derived.Test.YtfbjpgcgdhhfnaaCOps
namespace Go.Proofs.Ytfbjpgcgdhhfnaa
open Go.RowKit
theorem strCells_u8 (l : List Nat) (h : ∀ x ∈ l, x < 256) : Lib.strCells (ofBs l) = (U8s l).toList := by
  unfold Lib.strCells ofBs U8s
  simp only [List.map_map]
  apply List.map_congr_left
  intro x hx
  have := h x hx
  simp [Function.comp]
  omega
/-- a string's bytes behind a row -/
theorem app_bytes (w : World) (ty : TypeId) (base : Nat) (v : Value) (l0 l : List Nat) (hown : Owns 5 base v (U8s l0).toList w) (hl : ∀ x ∈ l, x < 256) (h63 : l0.length + l.length ≤ 1000000) (hp : 0 < l0.length) (hbase : base ≤ w.heap.size) :
    ∃ g cap w', (Builtin.append_ #[31, 9] ty #[v, .string (ofBs l)]).run Try.prog w = .ok (.slice (some ⟨g, 0, none⟩) (l0.length + l.length) cap) w' ∧ Owns 5 base (.slice (some ⟨g, 0, none⟩) (l0.length + l.length) cap) (U8s (l0 ++ l)).toList w' ∧ Below base w w' := by
  obtain ⟨i, hi, hz0, hz1, hz2⟩ := el5.info
  obtain ⟨v', w', h1, h2, h3, _⟩ := Lib.run_append_own_string (P := Try.prog) w base 31 9 ty 5 i el5.ht Try.underlying9 hi hz0 hz1 hz2 v _ _ hown (ofBs l) (by rw [U8s_toList_length, ofBs_size]; unfold maxLen; omega) (by rw [U8s_toList_length, ofBs_size]; omega) hbase
  rw [strCells_u8 l hl, U8s_app, U8s_toList_length, ofBs_size] at h2
  have h4 : Owns 5 base v' (U8s (l0 ++ l)).toList w' := by
    show w'.ownsRow base 5 1 v' (U8s (l0 ++ l)).toList.length _
    rw [U8s_toList_length, List.length_append]; exact h2
  obtain ⟨g, cap, rfl, _⟩ := h4.cut (by rw [List.length_append]; omega)
  rw [List.length_append] at h1 h4
  exact ⟨g, cap, w', h1, h4, (Below.refl base w).grown h3 hbase (fun k hk => (hown.base_le k hk).1)⟩
theorem wpList_appB {ops : Array Oper} {rest : List Oper} {o : Oper} {a : Act} {w : World} {Q : Exit → Act → World → Prop} (hgd : o.guard = none) (s x : Operand)
    (ho : o.op = .call { callee := .builtin .append, args := #[s, x], argTypes := #[31, 9] }) (base : Nat) (v : Value) (l0 l : List Nat) (n : Nat) (hs : a.eval s = v) (hown : Owns 5 base v (U8s l0).toList w) (hx : a.eval x = .string (ofBs l)) (hl : ∀ x ∈ l, x < 256)
    (hn : l0.length + l.length = n) (h63 : n ≤ 1000000) (hp : 0 < l0.length) (hbase : base ≤ w.heap.size)
    (h : ∀ g cap w', Owns 5 base (.slice (some ⟨g, 0, none⟩) n cap) (U8s (l0 ++ l)).toList w' → Below base w w' → wpList Try.prog ops Q rest (a.put o.dst (.slice (some ⟨g, 0, none⟩) n cap)) w') : wpList Try.prog ops Q (o :: rest) a w := by
  obtain ⟨g, cap, w', h1, h2, h3⟩ := app_bytes w o.type base v l0 l hown hl (by omega) hp hbase
  rw [hn] at h1 h2
  exact wpList_appRun hgd s x 31 9 ho (by rw [hs, hx]; exact h1) (h g cap w' h2 h3)
/-- a row behind a row: its value written out -/
theorem wpList_appW {ops : Array Oper} {rest : List Oper} {o : Oper} {a : Act} {w : World} {Q : Exit → Act → World → Prop} (hgd : o.guard = none) (s x : Operand)
    (ho : o.op = .call { callee := .builtin .append, args := #[s, x], argTypes := #[31, 31] }) (base : Nat) (v xv : Value) (l0 l : List Nat) (n : Nat) (hs : a.eval s = v) (hown : Owns 5 base v (U8s l0).toList w) (hx : a.eval x = xv) (hr : Row8 w xv l)
    (hn : l0.length + l.length = n) (h63 : n ≤ 1000000) (hp : 0 < n) (hbase : base ≤ w.heap.size)
    (h : ∀ g cap w', Owns 5 base (.slice (some ⟨g, 0, none⟩) n cap) (U8s (l0 ++ l)).toList w' → Below base w w' → wpList Try.prog ops Q rest (a.put o.dst (.slice (some ⟨g, 0, none⟩) n cap)) w') : wpList Try.prog ops Q (o :: rest) a w := by
  obtain ⟨v', w', h1, h2, h3, _, h5⟩ := app_row w o.type base v xv l0 l hown hr (by omega) hbase
  obtain ⟨g, cap, rfl, _⟩ := h2.cut (by rw [List.length_append]; omega)
  rw [List.length_append, hn] at h1 h2
  exact wpList_appRun hgd s x 31 31 ho (by rw [hs, hx]; exact h1) (h g cap w' h2 h5)
/-- strings, as cells -/
def SVs (ls : List (List Nat)) : List Value := ls.map fun l => .string (ofBs l)
theorem SVs_length (ls : List (List Nat)) : (SVs ls).length = ls.length := by simp [SVs]
/-- a string behind a list of strings -/
theorem wpList_appS {ops : Array Oper} {rest : List Oper} {o : Oper} {a : Act} {w : World} {Q : Exit → Act → World → Prop} (hgd : o.guard = none) (s x : Operand)
    (ho : o.op = .call { callee := .builtin .append, args := #[s, x], argTypes := #[28, 28] }) (base : Nat) (v : Value) (ls : List (List Nat)) (l : List Nat) (n : Nat) (hs : a.eval s = v) (hown : Owns 9 base v (SVs ls) w) (b c : Nat) (hx : a.eval x = .slice (some ⟨b, 0, none⟩) 1 c) (hnews : Has w b #[.string (ofBs l)] 9)
    (hn : ls.length + 1 = n) (h63 : n ≤ 1000000) (hbase : base ≤ w.heap.size)
    (h : ∀ g cap w', Owns 9 base (.slice (some ⟨g, 0, none⟩) n cap) (SVs (ls ++ [l])) w' → base ≤ g → Below base w w' → wpList Try.prog ops Q rest (a.put o.dst (.slice (some ⟨g, 0, none⟩) n cap)) w') : wpList Try.prog ops Q (o :: rest) a w := by
  obtain ⟨i, hi, hz0, hz1, hz2⟩ := el9.info
  obtain ⟨v', w', a1, a2, a3, _, a5⟩ := run_append_own_at (P := Try.prog) w base 28 o.type 9 i (.string ⟨#[]⟩) 1 16 el9.ht hi hz0 hz1 hz2 el9.hz (by decide) v _ _ hown ⟨b, 0, none⟩ 1 c [.string (ofBs l)] rfl (World.news_of_block hnews) (by intro u hu; simp at hu; subst hu; rfl) (by rw [SVs_length]; unfold maxLen; omega) (by rw [SVs_length]; omega) hbase
  have h2 : Owns 9 base v' (SVs (ls ++ [l])) w' := by
    show w'.ownsRow base 9 1 v' (SVs (ls ++ [l])).length _
    rw [SVs_length, List.length_append]
    rw [SVs_length] at a2
    have e : SVs (ls ++ [l]) = SVs ls ++ [.string (ofBs l)] := by simp [SVs]
    rw [e]; exact a2
  have h3 := h2
  obtain ⟨_, h4⟩ := h3
  rw [SVs_length, List.length_append] at h4
  rcases h4 with ⟨_, h0⟩ | ⟨g, cap, cur, rfl, hg, _⟩
  · simp at h0
  · have e1 : ls.length + [l].length = n := hn
    rw [e1] at h2 a1
    exact wpList_appRun hgd s x 28 28 ho (by rw [hs, hx]; exact a1) (h g cap w' h2 hg ((Below.refl base w).grown a3 hbase (fun k hk => (hown.base_le k hk).1)))
theorem Owns.strs {base : Nat} {v : Value} {ls : List (List Nat)} {w : World} (h : Owns 9 base v (SVs ls) w) (hx : ∀ i x, x ∈ ls.getD i [] → x < 256) (hl : ls.length ≤ 1000000) : Strs w v ls := by
  obtain ⟨h1, h2⟩ := h
  rw [SVs_length] at h2
  rcases h2 with ⟨rfl, h0⟩ | ⟨g, cap, cur, rfl, hg, hh, k1, k2, k3, k4⟩
  · have : ls = [] := List.eq_nil_of_length_eq_zero h0
    subst this; exact Strs.nil w
  · have hH : Has w g cur 9 := hh
    refine ⟨_, cap, rfl, by omega, hx, fun _ => ⟨g, 0, rfl, hH.lt, fun j hj => ?_⟩⟩
    rw [Nat.zero_add, hH.cell]
    have e : cur.toList[j]? = (SVs ls)[j]? := by
      rw [← k4, List.getElem?_take, if_pos (by omega)]
    rw [Array.getElem?_toList] at e
    rw [e]
    simp [SVs, List.getElem?_eq_getElem hj, List.getD_eq_getElem?_getD]
theorem Owns.at {base g n cap : Nat} {l : List Nat} {w : World} (h : Owns 5 base (.slice (some ⟨g, 0, none⟩) n cap) (U8s l).toList w) (hx : ∀ x ∈ l, x < 256) (hp : 0 < l.length) : base ≤ g ∧ g < w.heap.size ∧ ∀ j, j < l.length → w.cell? ⟨g, j, none⟩ = some (.int .u8 ((l.getD j 0 : Nat) : Int)) := by
  obtain ⟨a, c, e, _, h2⟩ := h.form hx
  obtain ⟨g', e', k1, k2, _, k3⟩ := h2 hp
  subst e'
  simp only [Value.slice.injEq, Option.some.injEq, Addr.mk.injEq] at e
  obtain ⟨⟨rfl, _, _⟩, _, _⟩ := e
  exact ⟨k1, k2, fun j hj => (k3 j hj).1⟩
theorem rn_mulI {ev : Operand → Value} {o : Oper} {w : World} {x y : Operand} {m n : Nat} (ho : o.op = .binOp .mul 3 x y 3) (hx : ev x = .int .i64 (m : Int)) (hy : ev y = .int .i64 (n : Int)) (h : m * n ≤ 1000000000) : (execOp ev o).run Try.prog w = .ok (.value (.int .i64 ((m * n : Nat) : Int))) w := by
  have e : IntKind.i64.wrap ((m : Int) * (n : Int)) = (m : Int) * (n : Int) := by
    have e0 : (m : Int) * (n : Int) = ((m * n : Nat) : Int) := by simp
    rw [e0]; exact wrap_i64_of (by omega) (by omega)
  simp [execOp, ho, hx, hy, go_sem, e]
theorem rn_addI {ev : Operand → Value} {o : Oper} {w : World} {x y : Operand} {m n : Nat} (ho : o.op = .binOp .add 3 x y 3) (hx : ev x = .int .i64 (m : Int)) (hy : ev y = .int .i64 (n : Int)) (h : m + n ≤ 1000000000) : (execOp ev o).run Try.prog w = .ok (.value (.int .i64 ((m + n : Nat) : Int))) w := by
  have e : IntKind.i64.wrap ((m : Int) + (n : Int)) = (m : Int) + (n : Int) := wrap_i64_of (by omega) (by omega)
  simp [execOp, ho, hx, hy, go_sem, e]
end Go.Proofs.Ytfbjpgcgdhhfnaa
