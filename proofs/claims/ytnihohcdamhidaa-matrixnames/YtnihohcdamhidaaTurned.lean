/- A matrix with columns as rows; matrices that are handed out. -/
import Derived.Test.YtnihohcdamhidaaRVec
namespace Go.Proofs.Ytnihohcdamhidaa
open Go.RowKit
/-- a row in new memory -/
def NewRow (base : Nat) (w : World) (v : Value) (l : List Nat) : Prop := (∀ x ∈ l, x < 256) ∧ l.length ≤ 1000000 ∧ ((v = .slice none 0 0 ∧ l = []) ∨ ∃ g, v = .slice (some ⟨g, 0, none⟩) l.length l.length ∧ base ≤ g ∧ Has w g (U8s l) 5)
theorem NewRow.below {base : Nat} {w w' : World} {v : Value} {l : List Nat} (h : NewRow base w v l) (hb : Below w.heap.size w w') : NewRow base w' v l := by
  obtain ⟨h1, h2, h3⟩ := h
  refine ⟨h1, h2, h3.imp id ?_⟩
  rintro ⟨g, e, k1, k2⟩
  exact ⟨g, e, k1, k2.below hb k2.lt⟩
theorem NewRow.row {base : Nat} {w : World} {v : Value} {l : List Nat} (h : NewRow base w v l) : Row8 w v l := by
  obtain ⟨h1, h2, h3⟩ := h
  rcases h3 with ⟨rfl, rfl⟩ | ⟨g, rfl, k1, k2⟩
  · exact Row8.nil w
  · exact ⟨_, _, rfl, by omega, h1, fun _ => ⟨g, 0, rfl, k2.lt, fun j hj => by rw [Nat.zero_add, k2.cell, U8s_get _ _ hj]⟩⟩
/-- a list of rows in new memory -/
def NewMat (base : Nat) (w : World) (v : Value) (m : List (List Nat)) : Prop := m.length ≤ 1000000 ∧ (∀ i, i < m.length → (m.getD i []).length ≤ 1000000) ∧ ((v = .slice none 0 0 ∧ m = []) ∨ ∃ T, v = .slice (some ⟨T, 0, none⟩) m.length m.length ∧ RowsAt base T m.length w m)
theorem NewMat.below {base : Nat} {w w' : World} {v : Value} {m : List (List Nat)} (h : NewMat base w v m) (hb : Below w.heap.size w w') : NewMat base w' v m := by
  obtain ⟨h1, h2, h3⟩ := h
  refine ⟨h1, h2, h3.imp id ?_⟩
  rintro ⟨T, e, k1⟩
  exact ⟨T, e, k1.below hb⟩
theorem NewMat.mat {base : Nat} {w : World} {v : Value} {m : List (List Nat)} (h : NewMat base w v m) : Mat w v m := by
  obtain ⟨h1, h2, h3⟩ := h
  rcases h3 with ⟨rfl, rfl⟩ | ⟨T, rfl, k⟩
  · exact Mat.nil w
  · exact k.mat h1 h2
theorem NewMat.wr {base : Nat} {w : World} {v : Value} {m : List (List Nat)} (h : NewMat base w v m) : Wr base w.heap.size w v := by
  obtain ⟨h1, h2, h3⟩ := h
  rcases h3 with ⟨rfl, rfl⟩ | ⟨T, rfl, k⟩
  · exact Wr.nil base _ w
  · exact k.wr h1 h2
theorem NewMat.nil (base : Nat) (w : World) : NewMat base w (.slice none 0 0) [] := ⟨by simp, by simp, .inl ⟨rfl, rfl⟩⟩
theorem NewRow.nil (base : Nat) (w : World) : NewRow base w (.slice none 0 0) [] := ⟨by simp, by simp, .inl ⟨rfl, rfl⟩⟩
def grid (c n : Nat) (f : Nat → Nat → Nat) : List (List Nat) := (List.range c).map fun j => (List.range n).map fun i => f j i
theorem grid_length (c n : Nat) (f : Nat → Nat → Nat) : (grid c n f).length = c := by simp [grid]
theorem grid_row (c n : Nat) (f : Nat → Nat → Nat) (j : Nat) (hj : j < c) : (grid c n f).getD j [] = (List.range n).map fun i => f j i := by
  simp [grid, List.getD_eq_getElem?_getD, hj]
theorem grid_row_length (c n : Nat) (f : Nat → Nat → Nat) (j : Nat) (hj : j < c) : ((grid c n f).getD j []).length = n := by
  rw [grid_row _ _ _ _ hj]; simp
theorem grid_congr {c n : Nat} {f f' : Nat → Nat → Nat} (h : ∀ j i, j < c → i < n → f j i = f' j i) : grid c n f = grid c n f' := by
  unfold grid
  apply List.map_congr_left
  intro j hj
  apply List.map_congr_left
  intro i hi
  exact h j i (List.mem_range.1 hj) (List.mem_range.1 hi)
theorem grid_set (c n : Nat) (f : Nat → Nat → Nat) (j i x : Nat) (hj : j < c) : (grid c n f).set j (((grid c n f).getD j []).set i x) = grid c n (fun a b => if a = j ∧ b = i then x else f a b) := by
  apply ext_getD []
  · simp [grid]
  · intro a ha
    simp only [List.length_set, grid_length] at ha
    rw [grid_row c n _ a ha]
    by_cases haj : a = j
    · subst haj
      rw [getD_set_same _ _ _ _ (by rw [grid_length]; exact ha), grid_row c n f a ha]
      apply ext_getD 0
      · simp
      · intro b hb
        simp only [List.length_set, List.length_map, List.length_range] at hb
        by_cases hbi : b = i
        · subst hbi
          rw [getD_set_same _ _ _ _ (by simp; exact hb)]
          simp [List.getD_eq_getElem?_getD, hb]
        · rw [getD_set_other _ _ _ _ _ hbi]
          simp [List.getD_eq_getElem?_getD, hb, hbi]
    · rw [getD_set_other _ _ _ _ _ haj, grid_row c n f a ha]
      apply List.map_congr_left
      intro b _
      simp [haj]
theorem grid_zero (c n : Nat) : List.replicate c (List.replicate n 0) = grid c n (fun _ _ => 0) := by
  unfold grid
  rw [List.map_const', List.map_const']; simp
def col (b : List (List Nat)) (j : Nat) : List Nat := b.map fun r => r.getD j 0
def transp (b : List (List Nat)) : List (List Nat) := (List.range (b.getD 0 []).length).map (col b)
theorem transp_grid (b : List (List Nat)) : transp b = grid (b.getD 0 []).length b.length (fun j i => (b.getD i []).getD j 0) := by
  unfold transp grid
  apply List.map_congr_left
  intro j _
  apply ext_getD 0
  · simp [col]
  · intro i hi
    simp only [col, List.length_map] at hi
    simp [col, List.getD_eq_getElem?_getD, hi]
set_option maxRecDepth 20000 in
theorem turned_any (v : Value) (m : List (List Nat)) (w : World) (h1 : Mat w v m) (hm : mayM m = true) :
    Calls Try.prog 36 #[v] w fun e w' => e = .returned (.slice (some ⟨w.heap.size, 0, none⟩) (m.getD 0 []).length (m.getD 0 []).length) ∧ RowsAt w.heap.size w.heap.size (m.getD 0 []).length w' (transp m) ∧ Below w.heap.size w w' := by
  obtain ⟨f1, f2, f3, f4, f5⟩ := mayM_facts hm
  obtain ⟨g, o, cap, rfl, hg, hrows⟩ := h1.may hm
  obtain ⟨g0, o0, c0, hg0, k0, _⟩ := hrows 0 (by omega)
  simp only [Nat.add_zero] at k0
  rw [transp_grid]
  generalize hcc : (m.getD 0 []).length = c at *
  generalize hn : m.length = n at *
  clear f5 h1 hcc hn hm
  have bn : (0 : Int) < (n : Int) := by omega
  go_enter Try.func36, Try.ntmps36
  go_wp2_with fail
  refine (noughts_any c n (by omega) (by omega) w).mono ?_
  rintro e w1 ⟨rfl, hR, b1⟩
  rw [grid_zero] at hR
  go_wp2_with fail
  clear k0
  go_loopw [17] (fun vi wr => ∃ k : Nat, k ≤ n ∧ vi = .int .i64 (k : Int) ∧ Hid (RowsAt w.heap.size w.heap.size c wr (grid c n fun j i => if i < k then (m.getD i []).getD j 0 else 0)) ∧ Below w.heap.size w wr) (fun vi _ => n - (intOf vi).toNat)
  case atStart => exact ⟨0, by omega, rfl, by rw [grid_congr (f' := fun _ _ => 0) (fun j i _ _ => by simp)]; exact hR, b1⟩
  case round =>
    obtain ⟨k, hk, rfl, hr, hb⟩ := hrel
    obtain ⟨wo, hwo⟩ : ∃ wo, wo = wr := ⟨_, rfl⟩
    subst hwo
    clear hR
    by_cases hlt : k < n
    · obtain ⟨gr, q, cr, hgr, kr, hcells⟩ := hrows k hlt
      have kr1 := cell_below hb hg kr
      have d0 : (k : Int) < (n : Int) := by omega
      go_wp2_with fail
      go_loopw [24] (fun vj W => ∃ j : Nat, j ≤ c ∧ vj = .int .i64 (j : Int) ∧ Hid (RowsAt w.heap.size w.heap.size c W (grid c n fun jj i => if i < k ∨ (i = k ∧ jj < j) then (m.getD i []).getD jj 0 else 0)) ∧ Below w.heap.size w W) (fun vj _ => c - (intOf vj).toNat)
      case atStart => exact ⟨0, by omega, rfl, by unfold Hid; rw [grid_congr (f' := fun j i => if i < k then (m.getD i []).getD j 0 else 0) (fun j i _ _ => by simp)]; exact hr.out, hb⟩
      case round =>
        obtain ⟨j, hj, rfl, hW, hbW⟩ := hrel
        by_cases hjl : j < c
        · have q2 := cell_below hbW hgr (hcells j hjl).1
          have p1 := (hcells j hjl).2
          obtain ⟨gw, a1, a2, a3, a4, a5⟩ := hW.out.write j (by rw [grid_length]; exact hjl)
          rw [grid_row_length _ _ _ _ hjl] at a1 a4
          obtain ⟨a6, a7⟩ := a4 k hlt
          have HA : Hid (RowsAt w.heap.size w.heap.size c (wr.setCell ⟨gw, k, none⟩ (.int .u8 (((m.getD k []).getD j 0 : Nat) : Int))) (grid c n fun jj i => if i < k ∨ (i = k ∧ jj < j + 1) then (m.getD i []).getD jj 0 else 0)) := by
            have := a5 k _ p1
            rw [grid_set _ _ _ _ _ _ hjl] at this
            unfold Hid
            rw [grid_congr (f' := fun a b => if a = j ∧ b = k then (m.getD k []).getD j 0 else if b < k ∨ (b = k ∧ a < j) then (m.getD b []).getD a 0 else 0)]
            · exact this
            · intro jj i _ _
              by_cases e1 : jj = j ∧ i = k
              · rw [if_pos e1, if_pos (by omega), e1.1, e1.2]
              · rw [if_neg e1]
                by_cases e2 : i < k ∨ (i = k ∧ jj < j)
                · rw [if_pos e2, if_pos (by omega)]
                · rw [if_neg e2, if_neg (by omega)]
          have hfin : Below w.heap.size w (wr.setCell ⟨gw, k, none⟩ (.int .u8 (((m.getD k []).getD j 0 : Nat) : Int))) := hbW.setCell a2 _
          generalize (m.getD k []).getD j 0 = x1 at *
          clear a4 a5 hW
          have d1 : (j : Int) < (c : Int) := by omega
          go_wp2_with fail
          exact ⟨⟨j + 1, by omega, rfl, HA, hfin⟩, by simp [intOf]; omega⟩
        · obtain rfl : j = c := by omega
          go_wp2_with fail
          exact ⟨⟨k + 1, by omega, rfl, by
            unfold Hid
            rw [grid_congr (f' := fun jj i => if i < k ∨ (i = k ∧ jj < j) then (m.getD i []).getD jj 0 else 0) (fun jj i h1 h2 => by
              by_cases e : i < k + 1
              · rw [if_pos e, if_pos (by omega)]
              · rw [if_neg e, if_neg (by omega)])]
            exact hW.out, hbW⟩, by simp [intOf]; omega⟩
    · obtain rfl : k = n := by omega
      go_wp2_with fail
      go_ret
      refine ⟨rfl, ?_, hb⟩
      rw [grid_congr (f' := fun j i => if i < k then (m.getD i []).getD j 0 else 0) (fun j i _ hi => by rw [if_pos hi])]
      exact hr.out
end Go.Proofs.Ytnihohcdamhidaa
