/- A row of bytes that a string was made into; and what Read refuses, over bytes alone. -/
import Derived.Test.YtnepfllbfagfnaaDoorSAwake
namespace Go.Proofs.YtnepfllbfagfnaaDoor
open Go.RowKit
/-- block g begins by these bytes, and they may be written -/
def BRow (W : World) (g : Nat) (l : List Nat) : Prop := ∃ cs t fr, W.heap[g]? = some (.cells cs t fr) ∧ (∀ j, j < l.length → cs[j]? = some (.int .u8 ((l.getD j 0 : Nat) : Int))) ∧ l.length ≤ fr.1
theorem BRow.lt {W : World} {g : Nat} {l : List Nat} (h : BRow W g l) : g < W.heap.size := by
  obtain ⟨cs, t, fr, h, _⟩ := h; exact (Array.getElem?_eq_some_iff.1 h).1
theorem BRow.cell {W : World} {g : Nat} {l : List Nat} (h : BRow W g l) (j : Nat) (hj : j < l.length) : W.cell? ⟨g, j, none⟩ = some (.int .u8 ((l.getD j 0 : Nat) : Int)) := by
  obtain ⟨cs, t, fr, h, hc, _⟩ := h
  simp [World.cell?, h, hc j hj]
theorem BRow.frozen {W : World} {g : Nat} {l : List Nat} (h : BRow W g l) (j : Nat) (hj : j < l.length) : W.frozen? ⟨g, j, none⟩ = false := by
  obtain ⟨cs, t, fr, h, _, hf⟩ := h
  simp [World.frozen?, h]
  omega
theorem BRow.below {W W' : World} {g : Nat} {l : List Nat} (h : BRow W g l) (hb : Below W.heap.size W W') : BRow W' g l := by
  have hl := h.lt
  obtain ⟨cs, t, fr, h, r⟩ := h
  exact ⟨cs, t, fr, by rw [hb.block g hl]; exact h, r⟩
theorem BRow.alloc {W : World} {g : Nat} {l : List Nat} (h : BRow W g l) (o : Obj) : BRow (W.alloc o) g l := h.below ((Below.refl _ _).alloc (Nat.le_refl _) o)
theorem BRow.set {W : World} {g : Nat} {l : List Nat} (h : BRow W g l) (k y : Nat) (z : Int) (hz : z = (y : Int)) (hk : k < l.length) : BRow (W.setCell ⟨g, k, none⟩ (.int .u8 z)) g (l.set k y) := by
  subst hz
  obtain ⟨cs, t, fr, h, hc, hf⟩ := h
  refine ⟨cs.setIfInBounds k (.int .u8 (y : Int)), t, fr, ?_, fun j hj => ?_, by simpa using hf⟩
  · simp [World.setCell, Array.getElem?_modify, h]
  · rw [List.length_set] at hj
    have hcs := hc j hj
    have hsz : j < cs.size := (Array.getElem?_eq_some_iff.1 hcs).1
    rw [List.getD_eq_getElem?_getD, List.getElem?_set]
    by_cases hkj : k = j
    · subst hkj
      rw [if_pos rfl, if_pos hk]
      simp [hsz]
    · rw [if_neg hkj, ← List.getD_eq_getElem?_getD, Array.getElem?_setIfInBounds_ne hkj]
      exact hcs
theorem brow_new (w : World) (s : ByteArray) : BRow (Lib.bytesWorld w 5 s) w.heap.size (bs s) := by
  refine ⟨_, _, _, Lib.bytesWorld_at_new w 5 s, fun j hj => ?_, ?_⟩
  · rw [bs_length] at hj
    have h := Lib.bytesWorld_cell w 5 s j hj
    rw [World.cell?, Lib.bytesWorld_at_new] at h
    have h' : (Lib.bytesCells w 5 s)[j]? = some (Value.int .u8 ((s.data.toList.getD j 0).toNat : Int)) := h
    rw [h']
    congr 3
    simp [bs, List.getD_eq_getElem?_getD, hj]
  · have hge := grownCap_ge w s.size 0 5
    rw [bs_length]
    simp [Lib.bytesCells]
/-- the string of the first n of them -/
theorem BRow.conv {W : World} {g : Nat} {l : List Nat} (h : BRow W g l) (n c : Nat) (hn : n ≤ l.length) : (convert 32 9 (.slice (some ⟨g, 0, none⟩) n c)).run Tryd.prog W = .ok (.string (ofBs (l.take n))) W := by
  rw [run_convert_bytes_string W 32 9 5 _ _ _ Tryd.underlying32 Tryd.underlying5 Tryd.underlying9]
  have hl : (loadCells ⟨g, 0, none⟩ n).run Tryd.prog W = .ok (((l.take n).map fun x : Nat => (x : Int)).map (Value.int .u8)).toArray W := by
    have h2 := run_loadCells_list (P := Tryd.prog) W ⟨g, 0, none⟩ (U8s (l.take n)).toList (fun j v hv => by
      have hj : j < (l.take n).length := by
        have := (List.getElem?_eq_some_iff.1 hv).1
        simpa [U8s] using this
      have hj' : j < l.length := by rw [List.length_take] at hj; omega
      rw [Addr.add_mid, Nat.zero_add, h.cell j hj', ← hv]
      have := U8s_get (l.take n) j hj
      rw [Array.getElem?_toList, this]
      congr 3
      rw [List.getD_eq_getElem?_getD, List.getD_eq_getElem?_getD, List.getElem?_take_of_lt (by rw [List.length_take] at hj; omega)])
    rw [Array.length_toList, U8s_size, List.length_take, Nat.min_eq_left hn] at h2
    rw [h2]
    simp [U8s]
    rfl
  rw [run_bytesToString W _ _ _ _ hl, fold_push]
  simp [ofBs]
theorem bs_append (a b : ByteArray) : bs (a ++ b) = bs a ++ bs b := by
  unfold bs; rw [ByteArray.data_append]; simp
theorem set_getD {l : List Nat} {k y : Nat} (hk : k < l.length) (h : l.set k y = l) : l.getD k 0 = y := by
  have := congrArg (fun m : List Nat => m.getD k 0) h
  simp only [List.getD_eq_getElem?_getD, List.getElem?_set, if_pos hk] at this
  rw [List.getD_eq_getElem?_getD, ← this]; simp
end Go.Proofs.YtnepfllbfagfnaaDoor
