/- What PackerOnce goes by: what was met, packs beside one another, a chunk's part of the blob. No program in it. -/
import Derived.Test.YtjhjolnflkekoaaDoorGather
namespace Go.Proofs.YtjhjolnflkekoaaDoor
open Go.RowKit Go.Maps
open Pk
set_option linter.unusedVariables false
theorem firsts_app : ∀ (a b s : List ByteArray), Gt.firsts s (a ++ b) = Gt.firsts s a ++ Gt.firsts (s ++ Gt.firsts s a) b
  | [], b, s => by simp [Gt.firsts]
  | x :: r, b, s => by
    by_cases h : x ∈ s
    · rw [List.cons_append, Gt.firsts_met h, Gt.firsts_met h, firsts_app r b s]
    · rw [List.cons_append, Gt.firsts_new h, Gt.firsts_new h, firsts_app r b (s ++ [x])]; simp
theorem firsts_all : ∀ (a s : List ByteArray) (x : ByteArray), x ∈ a → x ∈ s ++ Gt.firsts s a
  | [], s, x, h => by cases h
  | y :: r, s, x, h => by
    by_cases hy : y ∈ s
    · rw [Gt.firsts_met hy]
      rcases List.mem_cons.1 h with rfl | h
      · exact List.mem_append_left _ hy
      · exact firsts_all r s x h
    · rw [Gt.firsts_new hy]
      rcases List.mem_cons.1 h with rfl | h
      · simp
      · have := firsts_all r (s ++ [y]) x h
        simpa using this
theorem mem_firsts (a : List ByteArray) (x : ByteArray) : x ∈ Gt.firsts [] a ↔ x ∈ a :=
  ⟨fun h => (Gt.firsts_mem _ _ _ h).1, fun h => by simpa using firsts_all a [] x h⟩
/-- the first ones of one more -/
theorem firsts_next {c : List ByteArray} {k : Nat} (h : k < c.length) : Gt.firsts [] (c.take (k + 1)) = Gt.firsts [] (c.take k) ++ (if inB (c.take k) (c.getD k ⟨#[]⟩) = true then [] else [c.getD k ⟨#[]⟩]) := by
  rw [take_next c k h, firsts_app, List.nil_append]
  congr 1
  by_cases hm : inB (c.take k) (c.getD k ⟨#[]⟩) = true
  · rw [if_pos hm, Gt.firsts_met ((mem_firsts _ _).2 ((inB_mem _ _).1 hm))]; simp [Gt.firsts]
  · rw [if_neg hm, Gt.firsts_new (fun e => hm ((inB_mem _ _).2 ((mem_firsts _ _).1 e)))]; simp [Gt.firsts]
theorem firsts_pre (c : List ByteArray) (k : Nat) : Gt.firsts [] (c.take k) <+: Gt.firsts [] c := by
  have := firsts_app (c.take k) (c.drop k) []
  rw [List.take_append_drop, List.nil_append] at this
  exact ⟨_, this.symm⟩
theorem inB_next {c : List ByteArray} {k : Nat} (h : k < c.length) (s : ByteArray) : inB (c.take (k + 1)) s = (inB (c.take k) s || decide (c.getD k ⟨#[]⟩ = s)) := by
  rw [Bool.eq_iff_iff, Bool.or_eq_true, inB_mem, inB_mem, take_next c k h, List.mem_append, List.mem_singleton, decide_eq_true_eq]
  exact ⟨fun h => h.imp id Eq.symm, fun h => h.imp id Eq.symm⟩
/-- a chunk that is new stands at its place among all -/
theorem firsts_at {c : List ByteArray} {k : Nat} (h : k < c.length) (hm : inB (c.take k) (c.getD k ⟨#[]⟩) = false) : (Gt.firsts [] (c.take k)).length < (Gt.firsts [] c).length ∧ (Gt.firsts [] c).getD (Gt.firsts [] (c.take k)).length ⟨#[]⟩ = c.getD k ⟨#[]⟩ ∧ (Gt.firsts [] (c.take (k + 1))).length = (Gt.firsts [] (c.take k)).length + 1 := by
  have h1 := firsts_next h
  rw [hm, if_neg (by decide)] at h1
  obtain ⟨t, ht⟩ := firsts_pre c (k + 1)
  rw [h1] at ht
  refine ⟨by rw [← ht]; simp, ?_, by rw [h1, List.length_append]; rfl⟩
  rw [← ht, List.append_assoc, List.getD_eq_getElem?_getD, List.getElem?_append_right (Nat.le_refl _), Nat.sub_self]
  simp
theorem firsts_met' {c : List ByteArray} {k : Nat} (h : k < c.length) (hm : inB (c.take k) (c.getD k ⟨#[]⟩) = true) : Gt.firsts [] (c.take (k + 1)) = Gt.firsts [] (c.take k) := by
  rw [firsts_next h, if_pos hm, List.append_nil]
/-- packs beside one another -/
theorem tight_get : ∀ {P : List (List ByteArray)} {i : Nat} {p q : List ByteArray}, Gt.Tight P → P[i]? = some p → P[i + 1]? = some q → q ≠ [] → 4096 < tot p + (q.getD 0 ⟨#[]⟩).size
  | [], i, p, q, _, h, _, _ => by simp at h
  | [a], 0, p, q, _, _, h, _ => by simp at h
  | [a], i + 1, p, q, _, h, _, _ => by simp at h
  | a :: b :: r, 0, p, q, ht, h1, h2, hq => by
    simp at h1 h2
    subst h1 h2
    match b, hq, ht with
    | x :: t, _, ht => exact ht.1 x t rfl
  | a :: b :: r, i + 1, p, q, ht, h1, h2, hq => tight_get (P := b :: r) ht.2 (by simpa using h1) (by simpa using h2) hq
theorem back_blob {p : List ByteArray} (hM : May (p.map bs)) : toldS (pb p) = p := by
  have h := told_blob hM (bs_ofBs _ (blob_lt p))
  have : ∀ {a b : List ByteArray}, a.map bs = b.map bs → a = b := fun {a} {b} e => by
    induction a generalizing b with
    | nil => cases b <;> simp at e <;> rfl
    | cons x r ih =>
      cases b with
      | nil => simp at e
      | cons y s =>
        simp at e
        rw [bs_inj e.1, ih e.2]
  exact this h
theorem back_part {p : List ByteArray} (k : Nat) (h : k < p.length) : (pb p).extract (pat p k) (pat p k + (p.getD k ⟨#[]⟩).size) = p.getD k ⟨#[]⟩ := by
  apply bs_inj
  have h1 := blob_chunk (p.map bs) k (by rw [List.length_map]; exact h)
  have e1 : total ((p.map bs).take k) = tot (p.take k) := by unfold tot; rw [List.map_take]
  have e2 : (p.map bs)[k]'(by rw [List.length_map]; exact h) = bs (p.getD k ⟨#[]⟩) := by
    rw [List.getElem_map, List.getD_eq_getElem?_getD, List.getElem?_eq_getElem h]; rfl
  rw [e1, e2, List.length_map, bs_length] at h1
  unfold pb pat
  rw [bs_extract, bs_ofBs _ (blob_lt _), List.drop_take, Nat.add_sub_cancel_left]
  exact h1
theorem pat_le {p : List ByteArray} (k : Nat) (h : k < p.length) : pat p k + (p.getD k ⟨#[]⟩).size ≤ (pb p).size := by
  have h1 := tot_take p k h
  have h2 := tot_take_le p (k + 1)
  rw [pb_size]; unfold pat; omega
/-- what may be a pack: its chunks are gathered into it again -/
theorem may_nobad {p : List ByteArray} (hM : May (p.map bs)) : badB p = false := by
  unfold badB
  rw [List.any_eq_false]
  intro x hx
  have := hM.each (bs x) (List.mem_map.2 ⟨x, hx, rfl⟩)
  rw [bs_length] at this
  rw [(mc_iff x).2 this]; simp
theorem may_packs {p : List ByteArray} (hM : May (p.map bs)) : Gt.packs p = [p] := by
  have hnd : p.Nodup := by
    have := hM.apart
    exact List.Pairwise.of_map bs (fun a b hab e => hab (congrArg bs e)) this
  have h1 := hM.one
  rw [List.length_map] at h1
  have hr := hM.room
  rw [List.length_map] at hr
  unfold Gt.packs
  rw [Gt.firsts_id p [] hnd (by simp)]
  have := Gt.go_again p [] (by rw [List.nil_append]; intro e; subst e; simp at h1) (by rw [List.nil_append]; exact hr)
  rw [this, List.nil_append]
theorem may_size {p : List ByteArray} (hM : May (p.map bs)) (k : Nat) (h : k < p.length) : 1 ≤ (p.getD k ⟨#[]⟩).size := by
  have := (hM.each (bs (p.getD k ⟨#[]⟩)) (List.mem_map.2 ⟨_, getD_mem h, rfl⟩)).1
  rwa [bs_length] at this
end Go.Proofs.YtjhjolnflkekoaaDoor
