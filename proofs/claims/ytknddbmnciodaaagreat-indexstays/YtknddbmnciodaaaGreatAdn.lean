/- What it takes that chunks may be added: said two ways. -/
import Derived.Test.YtknddbmnciodaaaGreatAddable
namespace Go.Proofs.YtknddbmnciodaaaGreat
open Go.RowKit
open Ix
set_option linter.unusedVariables false
theorem inC_false {C : List ByteArray} {d : ByteArray} : inC C d = false ↔ d ∉ C := by rw [← Bool.not_eq_true, inC_iff]
theorem frN_iff {C D : List ByteArray} : ∀ {n : Nat}, n ≤ D.length → (frN C D n = true ↔ (D.take n).Nodup ∧ ∀ d ∈ D.take n, d ∉ C)
  | 0, _ => by simp [frN]
  | n + 1, h => by
    have ih := frN_iff (C := C) (D := D) (n := n) (by omega)
    have hg : D[n]? = some (D.getD n ⟨#[]⟩) := get_of ⟨#[]⟩ h
    rw [frN, Bool.and_eq_true, ih, take_snoc hg]
    generalize D.getD n ⟨#[]⟩ = d
    simp only [Bool.and_eq_true, Bool.not_eq_true', inC_false, List.nodup_append, List.mem_append, List.mem_singleton]
    constructor
    · rintro ⟨⟨h1, h2⟩, h3, h4⟩
      refine ⟨⟨h1, by simp, ?_⟩, ?_⟩
      · rintro a ha b rfl rfl
        exact h4 ha
      · rintro x (hx | rfl)
        · exact h2 x hx
        · exact h3
    · rintro ⟨⟨h1, _, h3⟩, h4⟩
      exact ⟨⟨h1, fun x hx => h4 x (.inl hx)⟩, h4 d (.inr rfl), fun hd => h3 d hd d rfl rfl⟩
theorem frN_fresh {C D : List ByteArray} {P Q : List Pl} (h1 : C.length = P.length) (h2 : D.length = Q.length) : frN C D D.length = true ↔ Fresh (C.zip P) (D.zip Q) := by
  rw [frN_iff (Nat.le_refl _), List.take_of_length_le (Nat.le_refl _)]
  have eC : ∀ d, d ∉ C ↔ ∀ p ∈ C.zip P, p.1 ≠ d := fun d => by
    have := zip_fst h1
    constructor
    · intro h p hp e
      apply h
      rw [← this, ← e]
      exact List.mem_map_of_mem hp
    · intro h hd
      rw [← this] at hd
      obtain ⟨p, hp, e⟩ := List.mem_map.1 hd
      exact h p hp e
  have eD := zip_fst h2
  constructor
  · rintro ⟨h3, h4⟩
    refine ⟨by rw [eD]; exact h3, fun o ho => (eC o.1).1 (h4 _ (by rw [← eD]; exact List.mem_map_of_mem ho))⟩
  · rintro ⟨h3, h4⟩
    rw [eD] at h3
    refine ⟨h3, fun d hd => (eC d).2 ?_⟩
    rw [← eD] at hd
    obtain ⟨o, ho, rfl⟩ := List.mem_map.1 hd
    exact h4 o ho
theorem badA_no {D : List ByteArray} {Q : List Pl} : badA D Q = false ↔ D.length = Q.length ∧ 0 < D.length ∧ (∀ d ∈ D, d.size = 32) ∧ ∀ p ∈ Q, mayP p := by
  unfold badA
  simp only [Bool.or_eq_false_iff, decide_eq_false_iff_not, List.any_eq_false, decide_eq_true_eq, Bool.not_eq_true']
  constructor
  · rintro ⟨a, b, c, d⟩
    exact ⟨by omega, by omega, fun x hx => by have := c x hx; omega, fun p hp => by have := d p hp; simpa using this⟩
  · rintro ⟨a, b, c, d⟩
    exact ⟨by omega, by omega, fun x hx => by have := c x hx; omega, fun p hp => by have := d p hp; simpa using this⟩
/-- what is known where chunks may be added but for the places that are there -/
structure Adds (C : List ByteArray) (P : List Pl) (D : List ByteArray) (Q : List Pl) : Prop where
  l1 : C.length = P.length
  l2 : D.length = Q.length
  may : May (C.zip P)
  pos : 0 < D.length
  size : ∀ d ∈ D, d.size = 32
  places : ∀ p ∈ Q, mayP p
  fresh : Fresh (C.zip P) (D.zip Q)
  most : C.length + D.length ≤ 400
theorem adE_ok {C : List ByteArray} {P : List Pl} {D : List ByteArray} {Q : List Pl} (h : adE C P D Q = 0) : Adds C P D Q := by
  unfold adE at h
  split at h
  next h1 =>
    split at h
    next => omega
    next h2 =>
      rw [Bool.not_eq_true, badA_no] at h2
      split at h
      next h3 =>
        split at h
        next => omega
        next h4 =>
          have h1' := mayS_iff.1 h1
          exact ⟨h1'.1, h2.1, h1'.2, h2.2.1, h2.2.2.1, h2.2.2.2, (frN_fresh h1'.1 h2.1).1 h3, by omega⟩
      next => omega
  next => omega
/-- all the chunks behind it -/
def addL (C : List ByteArray) (P : List Pl) (D : List ByteArray) (Q : List Pl) : List En := adds (C.zip P) (D.zip Q)
/-- the error, whole -/
def addR (C : List ByteArray) (P : List Pl) (D : List ByteArray) (Q : List Pl) : Int := if adE C P D Q = 0 then (if comN ((addL C P D Q).map Prod.snd) (addL C P D Q).length = true then 1 else 0) else adE C P D Q
theorem Adds.len {C : List ByteArray} {P : List Pl} {D : List ByteArray} {Q : List Pl} (h : Adds C P D Q) : (addL C P D Q).length = C.length + D.length := by
  unfold addL
  rw [length_adds, List.length_zip, List.length_zip, h.l1, h.l2]; omega
theorem Adds.mem {C : List ByteArray} {P : List Pl} {D : List ByteArray} {Q : List Pl} (h : Adds C P D Q) : ∀ e ∈ addL C P D Q, e.1.size = 32 ∧ mayP e.2 := by
  intro e he
  rcases mem_adds.1 he with he | he
  · exact ⟨h.size _ (List.of_mem_zip he).1, h.places _ (List.of_mem_zip he).2⟩
  · exact ⟨h.may.keys e he, h.may.places e he⟩
end Go.Proofs.YtknddbmnciodaaaGreat

