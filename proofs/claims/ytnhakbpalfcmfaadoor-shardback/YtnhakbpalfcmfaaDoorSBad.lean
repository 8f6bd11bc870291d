/- A row of bytes that a string was made into; and what Read refuses, over bytes alone. -/
import Derived.Test.YtnhakbpalfcmfaaDoorSAwake
namespace Go.Proofs.YtnhakbpalfcmfaaDoor
open Go.RowKit
/-- block g begins by these bytes, and they may be written -/
def BRow (W : World) (g : Nat) (l : List Nat) : Prop := ∃ cs t fr, W.heap[g]? = some (.cells cs t fr) ∧ (∀ j, j < l.length → cs[j]? = some (.int .u8 ((l.getD j 0 : Nat) : Int))) ∧ l.length ≤ fr.1
theorem BRow.lt {W : World} {g : Nat} {l : List Nat} (h : BRow W g l) : g < W.heap.size := by
  obtain ⟨cs, t, fr, h, _⟩ := h; exact (Array.getElem?_eq_some_iff.1 h).1
theorem BRow.cell {W : World} {g : Nat} {l : List Nat} (h : BRow W g l) (j : Nat) (hj : j < l.length) : W.cell? ⟨g, j, none⟩ = some (.int .u8 ((l.getD j 0 : Nat) : Int)) := by
  obtain ⟨cs, t, fr, h, hc, _⟩ := h
  simp [World.cell?, h, hc j hj]
theorem BRow.frozen {W : World} {g : Nat} {l : List Nat} (h : BRow W g l) (j : Nat) (hj : j < l.length) : W.frozen? ⟨g, j, none⟩ = false := by
  obtain ⟨cs, t, fr, h, _, hf⟩ := h
  simp [World.frozen?, h]
  omega
theorem BRow.below {W W' : World} {g : Nat} {l : List Nat} (h : BRow W g l) (hb : Below W.heap.size W W') : BRow W' g l := by
  have hl := h.lt
  obtain ⟨cs, t, fr, h, r⟩ := h
  exact ⟨cs, t, fr, by rw [hb.block g hl]; exact h, r⟩
theorem BRow.alloc {W : World} {g : Nat} {l : List Nat} (h : BRow W g l) (o : Obj) : BRow (W.alloc o) g l := h.below ((Below.refl _ _).alloc (Nat.le_refl _) o)
theorem BRow.set {W : World} {g : Nat} {l : List Nat} (h : BRow W g l) (k y : Nat) (z : Int) (hz : z = (y : Int)) (hk : k < l.length) : BRow (W.setCell ⟨g, k, none⟩ (.int .u8 z)) g (l.set k y) := by
  subst hz
  obtain ⟨cs, t, fr, h, hc, hf⟩ := h
  refine ⟨cs.setIfInBounds k (.int .u8 (y : Int)), t, fr, ?_, fun j hj => ?_, by simpa using hf⟩
  · simp [World.setCell, Array.getElem?_modify, h]
  · rw [List.length_set] at hj
    have hcs := hc j hj
    have hsz : j < cs.size := (Array.getElem?_eq_some_iff.1 hcs).1
    rw [List.getD_eq_getElem?_getD, List.getElem?_set]
    by_cases hkj : k = j
    · subst hkj
      rw [if_pos rfl, if_pos hk]
      simp [hsz]
    · rw [if_neg hkj, ← List.getD_eq_getElem?_getD, Array.getElem?_setIfInBounds_ne hkj]
      exact hcs
theorem brow_new (w : World) (s : ByteArray) : BRow (Lib.bytesWorld w 5 s) w.heap.size (bs s) := by
  refine ⟨_, _, _, Lib.bytesWorld_at_new w 5 s, fun j hj => ?_, ?_⟩
  · rw [bs_length] at hj
    have h := Lib.bytesWorld_cell w 5 s j hj
    rw [World.cell?, Lib.bytesWorld_at_new] at h
    have h' : (Lib.bytesCells w 5 s)[j]? = some (Value.int .u8 ((s.data.toList.getD j 0).toNat : Int)) := h
    rw [h']
    congr 3
    simp [bs, List.getD_eq_getElem?_getD, hj]
  · have hge := grownCap_ge w s.size 0 5
    rw [bs_length]
    simp [Lib.bytesCells]
/-- the string of the first n of them -/
theorem BRow.conv {W : World} {g : Nat} {l : List Nat} (h : BRow W g l) (n c : Nat) (hn : n ≤ l.length) : (convert 43 9 (.slice (some ⟨g, 0, none⟩) n c)).run Tryd.prog W = .ok (.string (ofBs (l.take n))) W := by
  rw [run_convert_bytes_string W 43 9 5 _ _ _ Tryd.underlying43 Tryd.underlying5 Tryd.underlying9]
  have hl : (loadCells ⟨g, 0, none⟩ n).run Tryd.prog W = .ok (((l.take n).map fun x : Nat => (x : Int)).map (Value.int .u8)).toArray W := by
    have h2 := run_loadCells_list (P := Tryd.prog) W ⟨g, 0, none⟩ (U8s (l.take n)).toList (fun j v hv => by
      have hj : j < (l.take n).length := by
        have := (List.getElem?_eq_some_iff.1 hv).1
        simpa [U8s] using this
      have hj' : j < l.length := by rw [List.length_take] at hj; omega
      rw [Addr.add_mid, Nat.zero_add, h.cell j hj', ← hv]
      have := U8s_get (l.take n) j hj
      rw [Array.getElem?_toList, this]
      congr 3
      rw [List.getD_eq_getElem?_getD, List.getD_eq_getElem?_getD, List.getElem?_take_of_lt (by rw [List.length_take] at hj; omega)])
    rw [Array.length_toList, U8s_size, List.length_take, Nat.min_eq_left hn] at h2
    rw [h2]
    simp [U8s]
    rfl
  rw [run_bytesToString W _ _ _ _ hl, fold_push]
  simp [ofBs]
/-! what Read refuses -/
theorem rd_same_len {a s : ByteArray} (h : rdOk a s = true) : ((bs s).take 11).drop 7 = be4 (s.size - 75) ∧ 75 ≤ s.size ∧ s.size - 75 ≤ 65461 := by
  obtain ⟨hI, hp⟩ := rd_isD h
  have hz := hI.size
  have e : (fP s).size = s.size - 75 := by omega
  rw [e] at hp
  have := hI.count
  rw [e] at this
  exact ⟨this, by omega, hp⟩
theorem be4_inj {m n : Nat} (hm : m ≤ 65461) (hn : n ≤ 65461) (h : be4 m = be4 n) : m = n := by
  unfold be4 at h
  simp only [List.cons.injEq, and_true] at h
  omega
theorem rd_cut {a a' s t : ByteArray} (h : rdOk a s = true) (ht : (bs t).take 11 = (bs s).take 11) (hne : t.size ≠ s.size) : rdOk a' t = false := by
  cases hq : rdOk a' t with
  | false => rfl
  | true =>
    exfalso
    obtain ⟨h1, h2, h3⟩ := rd_same_len h
    obtain ⟨g1, g2, g3⟩ := rd_same_len hq
    rw [ht, h1] at g1
    have := be4_inj h3 g3 g1
    omega
theorem rd_short {a s : ByteArray} (h : rdOk a s = true) (k : Nat) (hk : k < s.size) : rdOk a (s.extract 0 k) = false := by
  have hz : (s.extract 0 k).size = k := by rw [ByteArray.size_extract]; omega
  cases hq : rdOk a (s.extract 0 k) with
  | false => rfl
  | true =>
    exfalso
    have h75 := (rd_same_len hq).2.1
    have := rd_cut (a' := a) h (t := s.extract 0 k) (by rw [bs_extract, List.drop_zero, List.take_take, Nat.min_eq_left (by omega)]) (by omega)
    rw [hq] at this; cases this
theorem bs_append (a b : ByteArray) : bs (a ++ b) = bs a ++ bs b := by
  unfold bs; rw [ByteArray.data_append]; simp
theorem rd_long {a s : ByteArray} (h : rdOk a s = true) (t : ByteArray) (ht : t.size = 1) : rdOk a (s ++ t) = false := by
  have h75 := (rd_same_len h).2.1
  refine rd_cut h ?_ (by rw [ByteArray.size_append]; omega)
  rw [bs_append, List.take_append_of_le_length (by rw [bs_length]; omega)]
theorem rd_name {a s : ByteArray} (h : rdOk a s = true) (t : ByteArray) (ht : t.size = 1) : rdOk (a ++ t) s = false := by
  cases hq : rdOk (a ++ t) s with
  | false => rfl
  | true =>
    exfalso
    have h1 := (rd_is h).2.1
    have h2 := (rd_is hq).2.1
    rw [h1] at h2
    have := congrArg ByteArray.size h2
    rw [ByteArray.size_append] at this
    omega
theorem set_getD {l : List Nat} {k y : Nat} (hk : k < l.length) (h : l.set k y = l) : l.getD k 0 = y := by
  have := congrArg (fun m : List Nat => m.getD k 0) h
  simp only [List.getD_eq_getElem?_getD, List.getElem?_set, if_pos hk] at this
  rw [List.getD_eq_getElem?_getD, ← this]; simp
/-- another byte in the place of one of the first 4, or of the last 32 -/
theorem rd_bent {a s t : ByteArray} (h : rdOk a s = true) (k y : Nat) (hk : k < s.size) (ht : bs t = (bs s).set k y) (hne : (bs s).getD k 0 ≠ y) (hq : rdOk a t = true) :
    4 ≤ k ∧ k < s.size - 32 ∧ Sha.digest ((bs s).take (s.size - 32)) = Sha.digest ((bs t).take (s.size - 32)) := by
  have hts : t.size = s.size := by rw [← bs_length, ht, List.length_set, bs_length]
  have hkl : k < (bs s).length := by rw [bs_length]; exact hk
  obtain ⟨hI, _⟩ := rd_isD h
  obtain ⟨hJ, _⟩ := rd_isD hq
  have sI := hI.sum
  have sJ := hJ.sum
  rw [hts] at sJ
  have h4 : 4 ≤ k := by
    rcases Nat.lt_or_ge k 4 with h4 | h4
    · exfalso
      have e : (bs t).take 4 = (bs s).take 4 := by rw [hI.mark, hJ.mark]
      have := congrArg (fun m : List Nat => m.getD k 0) e
      simp only [List.getD_eq_getElem?_getD, List.getElem?_take_of_lt h4] at this
      rw [ht, List.getElem?_set, if_pos rfl, if_pos hkl] at this
      apply hne
      rw [List.getD_eq_getElem?_getD, ← this]; rfl
    · exact h4
  have hend : k < s.size - 32 := by
    rcases Nat.lt_or_ge k (s.size - 32) with h5 | h5
    · exact h5
    · exfalso
      have e1 : (bs t).take (s.size - 32) = (bs s).take (s.size - 32) := by rw [ht, List.take_set_of_le h5]
      have e2 : (bs t).drop (s.size - 32) = (bs s).drop (s.size - 32) := by rw [sI, sJ, e1]
      have e3 : bs t = bs s := by
        rw [← List.take_append_drop (s.size - 32) (bs t), e1, e2, List.take_append_drop]
      rw [ht] at e3
      exact hne (set_getD hkl e3)
  refine ⟨h4, hend, ?_⟩
  rw [← sI, ← sJ, ht, List.drop_set_of_lt hend]
end Go.Proofs.YtnhakbpalfcmfaaDoor
