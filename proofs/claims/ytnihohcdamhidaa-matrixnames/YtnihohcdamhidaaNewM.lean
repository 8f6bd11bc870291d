/- Lists of rows that a call makes: the list in one block, each row in one of its own. -/
import Derived.Test.YtnihohcdamhidaaSpoil
import Derived.Test.YtnihohcdamhidaaConv
namespace Go.Proofs.Ytnihohcdamhidaa
open Go.RowKit
def tops (n : Nat) (B : Nat → Nat) (rs : List (List Nat)) : Array Value :=
  ((List.range n).map fun i => if i < rs.length then Value.slice (some ⟨B i, 0, none⟩) (rs.getD i []).length (rs.getD i []).length else .slice none 0 0).toArray
theorem tops_get (n : Nat) (B : Nat → Nat) (rs : List (List Nat)) (i : Nat) (hi : i < n) : (tops n B rs)[i]? = some (if i < rs.length then Value.slice (some ⟨B i, 0, none⟩) (rs.getD i []).length (rs.getD i []).length else .slice none 0 0) := by
  simp [tops, hi]
theorem tops_congr {n : Nat} {B B' : Nat → Nat} {rs rs' : List (List Nat)} (hl : rs.length = rs'.length) (h : ∀ i, i < rs.length → B i = B' i ∧ (rs.getD i []).length = (rs'.getD i []).length) : tops n B rs = tops n B' rs' := by
  unfold tops
  congr 1
  apply List.map_congr_left
  intro i _
  by_cases hi : i < rs.length
  · rw [if_pos hi, if_pos (by omega), (h i hi).1, (h i hi).2]
  · rw [if_neg hi, if_neg (by omega)]
/-- block T holds a list of n rows, of which the first are rs, each in a block of its own, all from base on -/
def RowsAt (base T n : Nat) (w : World) (rs : List (List Nat)) : Prop := rs.length ≤ n ∧ base ≤ T ∧ ∃ B : Nat → Nat, Has w T (tops n B rs) 32 ∧ ∀ i, i < rs.length → base ≤ B i ∧ B i ≠ T ∧ (∀ j, j < rs.length → j ≠ i → B j ≠ B i) ∧ Has w (B i) (U8s (rs.getD i [])) 5 ∧ (∀ x ∈ rs.getD i [], x < 256)
theorem RowsAt.below {base T n : Nat} {w w' : World} {rs : List (List Nat)} (h : RowsAt base T n w rs) (hb : Below w.heap.size w w') : RowsAt base T n w' rs := by
  obtain ⟨h1, h2, B, h3, h4⟩ := h
  refine ⟨h1, h2, B, h3.below hb h3.lt, fun i hi => ?_⟩
  obtain ⟨a, b, c, d, e⟩ := h4 i hi
  exact ⟨a, b, c, d.below hb d.lt, e⟩
theorem RowsAt.start {w : World} {base T n : Nat} (hT : T = w.heap.size) (hb : base ≤ T) : RowsAt base T n (w.alloc (.cells (tops n (fun _ => 0) []) 32)) [] :=
  ⟨Nat.zero_le _, hb, fun _ => 0, Has.new w T _ 32 hT, fun i hi => absurd hi (by simp)⟩
theorem tops_push (n : Nat) (B : Nat → Nat) (rs : List (List Nat)) (g : Nat) (r : List Nat) (hn : rs.length < n) :
    (tops n B rs).setIfInBounds rs.length (.slice (some ⟨g, 0, none⟩) r.length r.length) = tops n (fun i => if i = rs.length then g else B i) (rs ++ [r]) := by
  apply Array.ext_getElem?
  intro i
  rw [Array.getElem?_setIfInBounds]
  by_cases hin : i < n
  · rw [tops_get n _ _ i hin, tops_get n _ _ i hin]
    by_cases hi : rs.length = i
    · subst hi
      rw [if_pos rfl, if_pos (by simp [tops]; omega), if_pos (by simp), if_pos rfl]
      simp
    · rw [if_neg hi]
      by_cases hl : i < rs.length
      · rw [if_pos hl, if_pos (by simp; omega), if_neg (by omega)]
        have e : (rs ++ [r]).getD i [] = rs.getD i [] := by
          rw [List.getD_eq_getElem?_getD, List.getElem?_append_left hl, ← List.getD_eq_getElem?_getD]
        rw [e]
      · rw [if_neg hl, if_neg (by simp; omega)]
  · have e : ∀ (B : Nat → Nat) (rs : List (List Nat)), (tops n B rs)[i]? = none := fun B rs => by
      rw [Array.getElem?_eq_none]; simp [tops]; omega
    rw [e, e, if_neg (by omega)]
theorem getD_app_old {α : Type} (l : List α) (x d : α) (i : Nat) (h : i < l.length) : (l ++ [x]).getD i d = l.getD i d := by
  rw [List.getD_eq_getElem?_getD, List.getElem?_append_left h, ← List.getD_eq_getElem?_getD]
theorem getD_app_new {α : Type} (l : List α) (x d : α) (i : Nat) (h : i = l.length) : (l ++ [x]).getD i d = x := by
  subst h; simp
/-- one more row, which a call has made meanwhile -/
theorem RowsAt.push {base T n : Nat} {w0 w1 : World} {rs : List (List Nat)} (h : RowsAt base T n w0 rs) (hb : Below w0.heap.size w0 w1) {g : Nat} {r : List Nat} (hg : w0.heap.size ≤ g) (hbg : base ≤ g) (hh : Has w1 g (U8s r) 5) (hr : ∀ x ∈ r, x < 256) (hn : rs.length < n) :
    RowsAt base T n (w1.setCell ⟨T, rs.length, none⟩ (.slice (some ⟨g, 0, none⟩) r.length r.length)) (rs ++ [r]) := by
  obtain ⟨h1, h2, B, h3, h4⟩ := h
  have hT := h3.lt
  refine ⟨by simp; omega, h2, fun i => if i = rs.length then g else B i, ?_, fun i hi => ?_⟩
  · rw [← tops_push n B rs g r hn]
    exact (h3.below hb h3.lt).set _ _
  · simp only [List.length_append, List.length_cons, List.length_nil] at hi
    have hBi : ∀ j, j < rs.length → B j < w0.heap.size := fun j hj => (h4 j hj).2.2.2.1.lt
    by_cases he : i = rs.length
    · simp only [if_pos he]
      refine ⟨hbg, by omega, fun j hj hji => ?_, ?_, ?_⟩
      · simp only [List.length_append, List.length_cons, List.length_nil] at hj
        rw [if_neg (by omega)]
        have := hBi j (by omega); omega
      · rw [getD_app_new _ _ _ _ he]; exact hh.other _ _ (by show g ≠ T; omega)
      · rw [getD_app_new _ _ _ _ he]; exact hr
    · simp only [if_neg he]
      have hi' : i < rs.length := by omega
      obtain ⟨a, b, c, d, e⟩ := h4 i hi'
      refine ⟨a, b, fun j hj hji => ?_, ?_, ?_⟩
      · simp only [List.length_append, List.length_cons, List.length_nil] at hj
        by_cases hj' : j = rs.length
        · rw [if_pos hj']; have := hBi i hi'; omega
        · rw [if_neg hj']; exact c j (by omega) hji
      · rw [getD_app_old _ _ _ _ hi']; exact (d.below hb d.lt).other _ _ b
      · rw [getD_app_old _ _ _ _ hi']; exact e
theorem getD_set_same {α : Type} (l : List α) (x d : α) (i : Nat) (h : i < l.length) : (l.set i x).getD i d = x := by
  simp [List.getD_eq_getElem?_getD, h]
theorem getD_set_other {α : Type} (l : List α) (x d : α) (i j : Nat) (h : j ≠ i) : (l.set i x).getD j d = l.getD j d := by
  rw [List.getD_eq_getElem?_getD, List.getElem?_set_ne (by omega), ← List.getD_eq_getElem?_getD]
/-- a row of it, and what becomes of it when it is written -/
theorem RowsAt.row {base T n : Nat} {w : World} {rs : List (List Nat)} (h : RowsAt base T n w rs) (i : Nat) (hi : i < rs.length) :
    ∃ g, w.cell? ⟨T, i, none⟩ = some (.slice (some ⟨g, 0, none⟩) (rs.getD i []).length (rs.getD i []).length) ∧ base ≤ g ∧ g ≠ T ∧ Has w g (U8s (rs.getD i [])) 5 ∧ (∀ x ∈ rs.getD i [], x < 256) ∧
      (∀ W l, Has W g (U8s l) 5 → l.length = (rs.getD i []).length → (∀ x ∈ l, x < 256) → (∀ b, b ≠ g → W.heap[b]? = w.heap[b]?) → RowsAt base T n W (rs.set i l)) := by
  obtain ⟨h1, h2, B, h3, h4⟩ := h
  obtain ⟨a, b, c, d, e⟩ := h4 i hi
  refine ⟨B i, ?_, a, b, d, e, fun W l hW hl hx hk => ?_⟩
  · rw [h3.cell, tops_get _ _ _ _ (by omega), if_pos hi]
  · refine ⟨by simpa using h1, h2, B, ?_, fun j hj => ?_⟩
    · have e1 : tops n B (rs.set i l) = tops n B rs := tops_congr (by simp) fun j hj => by
        refine ⟨rfl, ?_⟩
        by_cases hji : j = i
        · subst hji; rw [getD_set_same _ _ _ _ hi, hl]
        · rw [getD_set_other _ _ _ _ _ hji]
      rw [e1]
      unfold Has at h3 ⊢
      rw [hk T (Ne.symm b)]; exact h3
    · simp only [List.length_set] at hj
      obtain ⟨a', b', c', d', e'⟩ := h4 j hj
      refine ⟨a', b', fun k hk' hkj => c' k (by simpa using hk') hkj, ?_, ?_⟩
      · by_cases hji : j = i
        · subst hji; rw [getD_set_same _ _ _ _ hj]; exact hW
        · rw [getD_set_other _ _ _ _ _ hji]
          unfold Has at d' ⊢
          rw [hk (B j) (c j hj hji)]; exact d'
      · by_cases hji : j = i
        · subst hji; rw [getD_set_same _ _ _ _ hj]; exact hx
        · rw [getD_set_other _ _ _ _ _ hji]; exact e'
theorem set_lt {l : List Nat} (h : ∀ x ∈ l, x < 256) (j x : Nat) (hx : x < 256) : ∀ y ∈ l.set j x, y < 256 := fun y hy => by
  rcases List.mem_or_eq_of_mem_set hy with hy | rfl
  · exact h y hy
  · exact hx
/-- one number of a row is written -/
theorem RowsAt.write {base T n : Nat} {w : World} {rs : List (List Nat)} (h : RowsAt base T n w rs) (i : Nat) (hi : i < rs.length) :
    ∃ g, w.cell? ⟨T, i, none⟩ = some (.slice (some ⟨g, 0, none⟩) (rs.getD i []).length (rs.getD i []).length) ∧ base ≤ g ∧ g ≠ T ∧
      (∀ j, j < (rs.getD i []).length → w.cell? ⟨g, j, none⟩ = some (.int .u8 (((rs.getD i []).getD j 0 : Nat) : Int)) ∧ w.frozen? ⟨g, j, none⟩ = false) ∧
      ∀ j (x : Nat), x < 256 → RowsAt base T n (w.setCell ⟨g, j, none⟩ (.int .u8 (x : Int))) (rs.set i ((rs.getD i []).set j x)) := by
  obtain ⟨g, h1, h2, h3, h4, h5, h6⟩ := h.row i hi
  refine ⟨g, h1, h2, h3, fun j hj => ⟨by rw [h4.cell, U8s_get _ _ hj], h4.frozen j⟩, fun j x hx => h6 _ _ ?_ (by simp) (set_lt h5 j x hx) fun b hb => Below.heap_setCell _ _ _ _ hb⟩
  rw [← U8s_set]; exact h4.set _ _
theorem RowsAt.mat {base T : Nat} {w : World} {rs : List (List Nat)} (h : RowsAt base T rs.length w rs) (hl : rs.length ≤ 1000000) (hc : ∀ i, i < rs.length → (rs.getD i []).length ≤ 1000000) : Mat w (.slice (some ⟨T, 0, none⟩) rs.length rs.length) rs := by
  have hT : T < w.heap.size := by obtain ⟨_, _, B, h3, _⟩ := h; exact h3.lt
  refine ⟨_, _, rfl, by omega, fun hp => ⟨T, 0, rfl, hT, fun j hj => ?_⟩⟩
  obtain ⟨g, h1, h2, h3, h4, h5, _⟩ := h.row j hj
  refine ⟨_, by rw [Nat.zero_add]; exact h1, _, _, rfl, by have := hc j hj; omega, h5, fun hp => ⟨g, 0, rfl, h4.lt, fun i hi => ?_⟩⟩
  rw [Nat.zero_add, h4.cell, U8s_get _ _ hi]
theorem RowsAt.wr {base T : Nat} {w : World} {rs : List (List Nat)} (h : RowsAt base T rs.length w rs) (hl : rs.length ≤ 1000000) (hc : ∀ i, i < rs.length → (rs.getD i []).length ≤ 1000000) : Wr base w.heap.size w (.slice (some ⟨T, 0, none⟩) rs.length rs.length) := by
  have hT : base ≤ T ∧ T < w.heap.size := by obtain ⟨_, h2, B, h3, _⟩ := h; exact ⟨h2, h3.lt⟩
  refine ⟨_, _, _, rfl, by omega, fun hp => ⟨T, 0, rfl, hT.1, hT.2, fun j hj => ?_⟩⟩
  obtain ⟨g, h1, h2, h3, h4, h5, _⟩ := h.row j hj
  refine ⟨_, _, _, by rw [Nat.zero_add]; exact h1, by have := hc j hj; omega, fun hp => ⟨g, 0, rfl, h2, h4.lt, h3, fun i hi => ⟨⟨(rs.getD j []).getD i 0, getD_lt h5 i, ?_⟩, h4.frozen _⟩⟩⟩
  rw [Nat.zero_add, h4.cell, U8s_get _ _ hi]
end Go.Proofs.Ytnihohcdamhidaa
