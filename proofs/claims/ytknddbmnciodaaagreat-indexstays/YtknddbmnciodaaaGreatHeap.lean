/- Small facts on blocks of memory: what a block holds, and that it holds it still. No program in it. -/
import Derived.WalkKit
import Derived.WalkSpells
import Derived.WalkLawsBesides
namespace Go.Proofs.YtknddbmnciodaaaGreat
open Go.RowKit

/-- block b holds these cells, all of which may be written -/
def Has (w : World) (b : Nat) (cs : Array Value) (t : TypeId) : Prop := w.heap[b]? = some (.cells cs t (0, 0))

theorem Has.lt {w : World} {b : Nat} {cs : Array Value} {t : TypeId} (h : Has w b cs t) : b < w.heap.size := by
  unfold Has at h; exact (Array.getElem?_eq_some_iff.1 h).1
theorem Has.cell {w : World} {b : Nat} {cs : Array Value} {t : TypeId} (h : Has w b cs t) (i : Nat) : w.cell? ⟨b, i, none⟩ = cs[i]? := by
  unfold Has at h
  simp [World.cell?, h]
theorem Has.frozen {w : World} {b : Nat} {cs : Array Value} {t : TypeId} (h : Has w b cs t) (i : Nat) : w.frozen? ⟨b, i, none⟩ = false := by
  unfold Has at h
  simp [World.frozen?, h]
theorem Has.set {w : World} {b : Nat} {cs : Array Value} {t : TypeId} (h : Has w b cs t) (i : Nat) (v : Value) : Has (w.setCell ⟨b, i, none⟩ v) b (cs.setIfInBounds i v) t := by
  have hl := h.lt
  unfold Has at h ⊢
  simp [World.setCell, Array.getElem?_modify, h]
theorem Has.other {w : World} {b : Nat} {cs : Array Value} {t : TypeId} (h : Has w b cs t) (a : Addr) (v : Value) (hne : b ≠ a.block) : Has (w.setCell a v) b cs t := by
  unfold Has at h ⊢
  rw [Below.heap_setCell _ _ _ _ hne]; exact h
theorem Has.alloc {w : World} {b : Nat} {cs : Array Value} {t : TypeId} (h : Has w b cs t) (o : Obj) : Has (w.alloc o) b cs t := by
  have hl := h.lt
  unfold Has at h ⊢
  rw [Below.heap_alloc _ _ _ hl]; exact h
theorem Has.new (w : World) (b : Nat) (cs : Array Value) (t : TypeId) (hb : b = w.heap.size) : Has (w.alloc (.cells cs t)) b cs t := by
  subst hb
  unfold Has World.alloc; simp
theorem Has.drew {w : World} {b : Nat} {cs : Array Value} {t : TypeId} (h : Has w b cs t) : Has w.drew b cs t := h
theorem Has.drewN {w : World} {b : Nat} {cs : Array Value} {t : TypeId} (h : Has w b cs t) (n : Nat) : Has (w.drewN n) b cs t := h
theorem Has.below {w w' : World} {B b : Nat} {cs : Array Value} {t : TypeId} (h : Has w b cs t) (hb : Below B w w') (hl : b < B) : Has w' b cs t := by
  unfold Has at h ⊢; rw [hb.block b hl]; exact h
theorem below_setCells {B b : Nat} {a : World} (hb : B ≤ b) : ∀ (vs : List Value) (o : Nat) {w : World}, Below B a w → Below B a (w.setCells b o vs)
  | [], _, _, h => h
  | v :: r, o, _, h => by
    rw [World.setCells]
    exact below_setCells hb r (o + 1) (h.setCell hb v)
theorem has_setCells_other {b b' : Nat} {cs : Array Value} {t : TypeId} (hne : b ≠ b') : ∀ (vs : List Value) (o : Nat) {w : World}, Has w b cs t → Has (w.setCells b' o vs) b cs t
  | [], _, _, h => h
  | v :: r, o, _, h => by
    rw [World.setCells]
    exact has_setCells_other hne r (o + 1) (h.other _ _ hne)
theorem has_setCells_mid {b : Nat} {t : TypeId} : ∀ (vs : List Value) (o : Nat) (cs : List Value) {w : World}, Has w b cs.toArray t → o + vs.length ≤ cs.length → Has (w.setCells b o vs) b (cs.take o ++ vs ++ cs.drop (o + vs.length)).toArray t
  | [], o, cs, w, h, _ => by simpa [World.setCells] using h
  | v :: r, o, cs, w, h, hl => by
    rw [World.setCells]
    have h1 := h.set o v
    rw [List.setIfInBounds_toArray] at h1
    have h2 := has_setCells_mid r (o + 1) (cs.set o v) h1 (by simp at hl ⊢; omega)
    have e : (cs.set o v).take (o + 1) ++ r ++ (cs.set o v).drop (o + 1 + r.length) = cs.take o ++ (v :: r) ++ cs.drop (o + (v :: r).length) := by
      have ho : o < cs.length := by simp at hl; omega
      have e1 : (cs.set o v).take (o + 1) = cs.take o ++ [v] := by
        rw [List.take_succ_eq_append_getElem (by simpa using ho), List.take_set_of_le (Nat.le_refl _)]
        simp
      have e2 : (cs.set o v).drop (o + 1 + r.length) = cs.drop (o + (v :: r).length) := by
        rw [List.drop_set_of_lt (by omega)]; congr 1; simp; omega
      rw [e1, e2]; simp
    rw [e] at h2; exact h2
theorem has_setRow {b : Nat} {t : TypeId} {w : World} {cs vs : Array Value} (h : Has w b cs t) (hl : vs.size = cs.size) : Has (w.setCells b 0 vs.toList) b vs t := by
  have h1 := has_setCells_mid vs.toList 0 cs.toList (by simpa using h) (by simp [hl])
  have e : List.take 0 cs.toList ++ vs.toList ++ List.drop (0 + vs.toList.length) cs.toList = vs.toList := by
    rw [List.take_zero, List.drop_eq_nil_of_le (by simp [hl])]; simp
  rw [e] at h1; simpa using h1
/-- the world under a new name, with what is known of it -/
theorem gen_world {F G : World → Prop} {W : World} (h : F W) (k : ∀ W, F W → G W) : G W := k W h
/-- block b holds these cells, whatever may be written of them -/
def HasC (w : World) (b : Nat) (cs : Array Value) : Prop := ∃ t fr, w.heap[b]? = some (.cells cs t fr)
theorem HasC.lt {w : World} {b : Nat} {cs : Array Value} (h : HasC w b cs) : b < w.heap.size := by
  obtain ⟨t, fr, h⟩ := h; exact (Array.getElem?_eq_some_iff.1 h).1
theorem HasC.cell {w : World} {b : Nat} {cs : Array Value} (h : HasC w b cs) (i : Nat) : w.cell? ⟨b, i, none⟩ = cs[i]? := by
  obtain ⟨t, fr, h⟩ := h; simp [World.cell?, h]
theorem HasC.other {w : World} {b : Nat} {cs : Array Value} (h : HasC w b cs) (a : Addr) (v : Value) (hne : b ≠ a.block) : HasC (w.setCell a v) b cs := by
  obtain ⟨t, fr, h⟩ := h
  exact ⟨t, fr, by rw [Below.heap_setCell _ _ _ _ hne]; exact h⟩
theorem HasC.alloc {w : World} {b : Nat} {cs : Array Value} (h : HasC w b cs) (o : Obj) : HasC (w.alloc o) b cs := by
  have hl := h.lt
  obtain ⟨t, fr, h⟩ := h
  exact ⟨t, fr, by rw [Below.heap_alloc _ _ _ hl]; exact h⟩
theorem HasC.below {w w' : World} {B b : Nat} {cs : Array Value} (h : HasC w b cs) (hb : Below B w w') (hl : b < B) : HasC w' b cs := by
  obtain ⟨t, fr, h⟩ := h
  exact ⟨t, fr, by rw [hb.block b hl]; exact h⟩
theorem hasC_setCells_other {b b' : Nat} {cs : Array Value} (hne : b ≠ b') : ∀ (vs : List Value) (o : Nat) {w : World}, HasC w b cs → HasC (w.setCells b' o vs) b cs
  | [], _, _, h => h
  | v :: r, o, _, h => by
    rw [World.setCells]
    exact hasC_setCells_other hne r (o + 1) (h.other _ _ hne)
theorem below_draws {B : Nat} {w w' : World} (h : Below B w w') (n : Nat) : Below B w (w'.drewN n) := ⟨h.os, h.tape, h.output, h.size, h.block⟩
end Go.Proofs.YtknddbmnciodaaaGreat
