/- What follows, as mathematics: what is added is found, what is dropped is not; all else stands where it stood. -/
import Derived.Test.YtknddbmnciodaaaGreatZOps
namespace Go.Proofs.YtknddbmnciodaaaGreat
open Go.RowKit
open Ix
set_option linter.unusedVariables false
theorem zip_maps {α β : Type} : ∀ L : List (α × β), (L.map Prod.fst).zip (L.map Prod.snd) = L
  | [] => rfl
  | x :: r => by rw [List.map_cons, List.map_cons, List.zip_cons_cons, zip_maps r]
theorem addR_ok {C : List ByteArray} {P : List Pl} {D : List ByteArray} {Q : List Pl} (h : addR C P D Q = 0) : Adds C P D Q ∧ comN ((addL C P D Q).map Prod.snd) (addL C P D Q).length = false := by
  unfold addR at h
  by_cases h0 : adE C P D Q = 0
  · rw [if_pos h0] at h
    refine ⟨adE_ok h0, ?_⟩
    by_cases hc : comN ((addL C P D Q).map Prod.snd) (addL C P D Q).length = true
    · rw [if_pos hc] at h; cases h
    · simpa using hc
  · rw [if_neg h0] at h; exact absurd h h0
theorem Adds.keys {C : List ByteArray} {P : List Pl} {D : List ByteArray} {Q : List Pl} (h : Adds C P D Q) : ∀ o ∈ D.zip Q, o.1.size = 32 := fun o ho => h.size _ (List.of_mem_zip ho).1
theorem Adds.pls {C : List ByteArray} {P : List Pl} {D : List ByteArray} {Q : List Pl} (h : Adds C P D Q) : ∀ o ∈ D.zip Q, mayP o.2 := fun o ho => h.places _ (List.of_mem_zip ho).2
theorem Adds.mayL {C : List ByteArray} {P : List Pl} {D : List ByteArray} {Q : List Pl} (h : Adds C P D Q) (hc : comN ((addL C P D Q).map Prod.snd) (addL C P D Q).length = false) : May (addL C P D Q) :=
  h.may.adds h.fresh h.keys h.pls (by rw [List.length_zip, List.length_zip, ← h.l1, ← h.l2]; have := h.most; omega) hc
/-- the state with chunks more -/
structure Added (s t : St) (D : List ByteArray) (Q : List Pl) : Prop where
  may : mayS t.C t.P = true
  ee : t.C.length = t.P.length
  len : t.C.length = s.C.length + D.length
  lD : D.length = Q.length
  most : t.C.length ≤ 400
  sn : t.sn = s.sn
  back : droE t.C t.P D = 0
  was : droS t D = s
  found : ∀ i, i < D.length → findV t.C t.P (D.getD i ⟨#[]⟩) = (Q.getD i default, 0)
  stays : ∀ i, i < s.C.length → findV t.C t.P (s.C.getD i ⟨#[]⟩) = (s.P.getD i default, 0)
theorem look_find {t : St} (h : mayS t.C t.P = true) {d : ByteArray} {p : Pl} (hl : Ix.look d (t.C.zip t.P) = some p) : findV t.C t.P d = (p, 0) := by
  unfold findV; rw [if_pos h, hl]
theorem look_none_find {t : St} (h : mayS t.C t.P = true) {d : ByteArray} (hl : Ix.look d (t.C.zip t.P) = none) : findV t.C t.P d = (⟨⟨#[]⟩, 0, 0⟩, 5) := by
  unfold findV; rw [if_pos h, hl]
theorem addS_ok {s : St} {D : List ByteArray} {Q : List Pl} (h : addR s.C s.P D Q = 0) : Added s (addS s D Q) D Q := by
  obtain ⟨ha, hc⟩ := addR_ok h
  have hM := ha.mayL hc
  have hz : (addS s D Q).C.zip (addS s D Q).P = addL s.C s.P D Q := zip_maps _
  have hlen : (addS s D Q).C.length = s.C.length + D.length := by
    show ((addL s.C s.P D Q).map Prod.fst).length = _
    rw [List.length_map]; exact ha.len
  have hlp : (addS s D Q).C.length = (addS s D Q).P.length := by
    show ((addL s.C s.P D Q).map Prod.fst).length = ((addL s.C s.P D Q).map Prod.snd).length
    rw [List.length_map, List.length_map]
  have hmay : mayS (addS s D Q).C (addS s D Q).P = true := mayS_iff.2 ⟨hlp, by rw [hz]; exact hM⟩
  have hzC := zip_fst ha.l1
  have hzP := zip_snd ha.l1
  have hzD := zip_fst ha.l2
  refine ⟨hmay, hlp, hlen, ha.l2, by rw [hlen]; exact ha.most, rfl, ?_, ?_, fun i hi => look_find hmay ?_, fun i hi => look_find hmay ?_⟩
  · unfold droE
    rw [if_pos hmay, if_pos]
    refine List.all_eq_true.2 fun d hd => ?_
    rw [← Bool.not_eq_false]
    intro hn
    refine inC_false.1 hn ?_
    show d ∈ (addL s.C s.P D Q).map Prod.fst
    rw [← hzD] at hd
    obtain ⟨o, ho, rfl⟩ := List.mem_map.1 hd
    exact List.mem_map_of_mem (mem_adds.2 (.inl ho))
  · unfold droS droL
    rw [hz]
    have e : drops D (addL s.C s.P D Q) = s.C.zip s.P := by
      have := drops_adds ha.may.rise ha.fresh
      rw [hzD] at this
      exact this
    rw [e, hzC, hzP]
    rfl
  · rw [hz]
    have hg := zip_get (C := D) (P := Q) hi (by have := ha.l2; omega)
    exact find_added ha.may ha.fresh (o := (D.getD i ⟨#[]⟩, Q.getD i default)) (List.mem_of_getElem? hg)
  · rw [hz]
    have hg := zip_get (C := s.C) (P := s.P) hi (by have := ha.l1; omega)
    exact find_stays ha.may ha.fresh (e := (s.C.getD i ⟨#[]⟩, s.P.getD i default)) (List.mem_of_getElem? hg)
/-- the state with chunks less -/
structure Dropped (s u : St) (D : List ByteArray) : Prop where
  may : mayS u.C u.P = true
  stays : ∀ i, i < s.C.length → findV u.C u.P (s.C.getD i ⟨#[]⟩) = if (D.any fun d => decide (d = s.C.getD i ⟨#[]⟩)) = true then (⟨⟨#[]⟩, 0, 0⟩, 5) else (s.P.getD i default, 0)
theorem droS_ok {s : St} {D : List ByteArray} (h : mayS s.C s.P = true) : Dropped s (droS s D) D := by
  obtain ⟨hl, hM⟩ := mayS_iff.1 h
  have hz : (droS s D).C.zip (droS s D).P = drops D (s.C.zip s.P) := zip_maps _
  have hlp : (droS s D).C.length = (droS s D).P.length := by
    show ((droL s.C s.P D).map Prod.fst).length = ((droL s.C s.P D).map Prod.snd).length
    rw [List.length_map, List.length_map]
  have hmay : mayS (droS s D).C (droS s D).P = true := mayS_iff.2 ⟨hlp, by rw [hz]; exact hM.drops D⟩
  refine ⟨hmay, fun i hi => ?_⟩
  have hg := zip_get (C := s.C) (P := s.P) hi (by omega)
  have := find_dropped hM D (e := (s.C.getD i ⟨#[]⟩, s.P.getD i default)) (List.mem_of_getElem? hg)
  simp only at this
  by_cases hd : (D.any fun d => decide (d = s.C.getD i ⟨#[]⟩)) = true
  · rw [if_pos hd] at this ⊢
    exact look_none_find hmay (by rw [hz]; exact this)
  · rw [if_neg hd] at this ⊢
    exact look_find hmay (by rw [hz]; exact this)
theorem droS_len (s : St) (D : List ByteArray) : (droS s D).C.length ≤ s.C.length ∧ (droS s D).C.length = (droS s D).P.length := by
  unfold droS droL
  rw [List.length_map, List.length_map]
  have h1 : (drops D (s.C.zip s.P)).length ≤ (s.C.zip s.P).length := by unfold drops; exact List.length_filter_le _ _
  rw [List.length_zip] at h1
  exact ⟨by omega, rfl⟩
/-- is it among the first ones? -/
def goneK (D : List ByteArray) (x : ByteArray) (k : Nat) : Bool := (D.take k).any fun d => decide (d = x)
theorem gone_zero (D : List ByteArray) (x : ByteArray) : goneK D x 0 = false := by simp [goneK]
theorem gone_succ {D : List ByteArray} {x : ByteArray} {k : Nat} (h : k < D.length) : goneK D x (k + 1) = (goneK D x k || decide (D.getD k ⟨#[]⟩ = x)) := by
  unfold goneK
  rw [take_snoc (get_of ⟨#[]⟩ h), List.any_append]; simp
theorem gone_all (D : List ByteArray) (x : ByteArray) : goneK D x D.length = D.any fun d => decide (d = x) := by unfold goneK; rw [List.take_length]
end Go.Proofs.YtknddbmnciodaaaGreat
