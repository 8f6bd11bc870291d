/- Rows of some cells each that may be written over: as the library's sort asks them and leaves them. -/
import Derived.Test.YtknddbmnciodaaaGreatLib
import Derived.Test.YtknddbmnciodaaaGreatMk
namespace Go.Proofs.YtknddbmnciodaaaGreat
open Go.RowKit Go.Lib Go.Sort
open Ix
set_option linter.unusedVariables false
/-- from a row's first cell on these stand, and may be written over -/
def Rw {α : Type} (f : α → List Value) (m : Nat) (W : World) (b : Nat) (L : List α) : Prop := ∀ k x, L[k]? = some x → ∀ i u, (f x)[i]? = some u → W.cell? ⟨b, k * m + i, none⟩ = some u ∧ W.frozen? ⟨b, k * m + i, none⟩ = false
theorem Rw.below {α : Type} {f : α → List Value} {m : Nat} {W W' : World} {b B : Nat} {L : List α} (h : Rw f m W b L) (hb : RowKit.Below B W W') (hB : b < B) : Rw f m W' b L := fun k x hx i u hu => by
  obtain ⟨h1, h2⟩ := h k x hx i u hu
  refine ⟨by rw [hb.cell (p := ⟨b, k * m + i, none⟩) hB]; exact h1, ?_⟩
  have := hb.block b hB
  unfold World.frozen? at *
  rw [this]; exact h2
theorem has_rw {α : Type} {f : α → List Value} {m : Nat} (hm : ∀ x, (f x).length = m) {W : World} {b : Nat} {L : List α} {t : TypeId} (h : Has W b (L.flatMap f).toArray t) : Rw f m W b L := fun k x hx i u hu => by
  refine ⟨?_, h.frozen _⟩
  rw [h.cell, List.getElem?_toArray]
  exact flat_get f m hm L k x hx i u hu
theorem own_rw {α : Type} {f : α → List Value} {m : Nat} (hm : ∀ x, (f x).length = m) {W : World} {lo n g cap : Nat} {e : TypeId} {L : List α} (h : W.ownsRow lo e m (.slice (some ⟨g, 0, none⟩) n cap) n (L.flatMap f)) : Rw f m W g L := fun k x hx i u hu => by
  have h1 := h.cells (g := g) rfl (k * m + i) u (flat_get f m hm L k x hx i u hu)
  have hadd : (⟨g, 0, none⟩ : Addr).add (k * m + i) = ⟨g, k * m + i, none⟩ := by unfold Addr.add; split <;> simp_all
  rw [hadd] at h1
  refine ⟨h1, ?_⟩
  rcases h.2 with ⟨h1, _⟩ | ⟨g', cap', cur, hv, _, hh, _⟩
  · cases h1
  · cases hv
    simp [World.frozen?, hh]
theorem get_bang {α : Type} [Inhabited α] {L : List α} {k : Nat} (h : k < L.length) : L[k]? = some L.toArray[k]! := by
  rw [List.getElem?_eq_getElem h, getElem!_pos _ _ (by simpa using h)]; rfl
theorem rw_holds {α : Type} [Inhabited α] {f : α → List Value} {m : Nat} (hm : ∀ x, (f x).length = m) {W : World} {b : Nat} {L : List α} (h : Rw f m W b L) : HoldsK f m W b 0 L.toArray := fun t ht => by
  rw [size_flatK, List.size_toArray] at ht
  have h0 : 0 < m := by
    rcases Nat.eq_zero_or_pos m with e | e
    · subst e; simp at ht
    · exact e
  have hq : t / m < L.length := (Nat.div_lt_iff_lt_mul h0).2 ht
  rw [get_flatK f m L.toArray t (by rw [List.size_toArray]; exact ht), Nat.zero_add]
  have hg := get_bang hq
  generalize L.toArray[t / m]! = x at *
  have hr : t % m < (f x).length := by rw [hm]; exact Nat.mod_lt _ h0
  have := h (t / m) x hg (t % m) _ (List.getElem?_eq_getElem hr)
  rw [show t / m * m + t % m = t by rw [Nat.mul_comm]; exact Nat.div_add_mod t m] at this
  rw [getElem!_pos (f x) (t % m) hr]
  exact this
theorem holds_rw {α : Type} [Inhabited α] {f : α → List Value} {m : Nat} (hm : ∀ x, (f x).length = m) {W : World} {b : Nat} {d : Array α} (h : HoldsK f m W b 0 d) : Rw f m W b d.toList := fun k x hx i u hu => by
  have hk : k < d.size := by have := (List.getElem?_eq_some_iff.1 hx).1; simpa using this
  have hi : i < m := by have := (List.getElem?_eq_some_iff.1 hu).1; rwa [hm] at this
  have hlt : k * m + i < d.size * m := by
    have := Nat.mul_le_mul_right m hk
    rw [Nat.succ_mul] at this
    omega
  have h1 := h (k * m + i) (by rw [size_flatK]; exact hlt)
  rw [get_flatK f m d _ hlt, Nat.zero_add] at h1
  have e1 : (k * m + i) / m = k := Nat.div_eq_of_lt_le (by omega) (by rw [Nat.add_mul, Nat.one_mul]; omega)
  have e2 : (k * m + i) % m = i := by
    have := Nat.div_add_mod (k * m + i) m
    rw [e1, Nat.mul_comm] at this; omega
  rw [e1, e2] at h1
  have ex : d[k]! = x := by
    rw [getElem!_pos d k hk]
    have := (List.getElem?_eq_some_iff.1 hx).2
    simpa using this
  rw [ex, getElem!_pos _ _ (by rw [hm]; exact hi)] at h1
  have eu : (f x)[i]'(by rw [hm]; exact hi) = u := (List.getElem?_eq_some_iff.1 hu).2
  rw [eu] at h1
  exact h1
/-- block b alone is turned -/
structure Onl (b : Nat) (w W : World) : Prop where
  os : W.os = w.os
  tape : W.tape = w.tape
  output : W.output = w.output
  size : w.heap.size ≤ W.heap.size
  block : ∀ j, j < w.heap.size → j ≠ b → W.heap[j]? = w.heap[j]?
theorem Onl.refl (b : Nat) (w : World) : Onl b w w := ⟨rfl, rfl, rfl, Nat.le_refl _, fun _ _ _ => rfl⟩
theorem Onl.trans {b : Nat} {u v w : World} (h : Onl b u v) (h' : Onl b v w) : Onl b u w :=
  ⟨h'.os.trans h.os, h'.tape.trans h.tape, h'.output.trans h.output, Nat.le_trans h.size h'.size, fun j hj hn => (h'.block j (Nat.lt_of_lt_of_le hj h.size) hn).trans (h.block j hj hn)⟩
theorem Onl.of {b B : Nat} {w W : World} (h : RowKit.Below B w W) (hB : w.heap.size ≤ B) : Onl b w W := ⟨h.os, h.tape, h.output, h.size, fun j hj _ => h.block j (Nat.lt_of_lt_of_le hj hB)⟩
theorem Onl.below {b B : Nat} {w W : World} (h : Onl b w W) (hB : B ≤ b) (hw : B ≤ w.heap.size) : RowKit.Below B w W := ⟨h.os, h.tape, h.output, h.size, fun j hj => h.block j (Nat.lt_of_lt_of_le hj hw) (by omega)⟩
theorem Onl.has {b g : Nat} {w W : World} (h : Onl b w W) {cs : Array Value} {t : TypeId} (hh : Has w g cs t) (hn : g ≠ b) : Has W g cs t := by
  have := h.block g hh.lt hn
  unfold Has at *; rw [this]; exact hh
theorem Onl.set (b o : Nat) (v : Value) (w : World) : Onl b w (w.setCell ⟨b, o, none⟩ v) :=
  ⟨rfl, rfl, rfl, by simp, fun j _ hn => Below.heap_setCell _ _ _ _ hn⟩
theorem Onl.sets (b : Nat) : ∀ (vs : List Value) (o : Nat) (w : World), Onl b w (w.setCells b o vs)
  | [], _, w => Onl.refl _ _
  | v :: r, o, w => by
    rw [World.setCells]
    exact (Onl.set b o v w).trans (Onl.sets b r (o + 1) _)
theorem Onl.drew {b : Nat} {w W : World} (h : Onl b w W) : Onl b w W.drew := ⟨h.os, h.tape, h.output, h.size, h.block⟩
theorem onl_sort {α : Type} [Inhabited α] (f : α → List Value) (m : Nat) (w : World) (b n : Nat) (d : Array α) (os : Array Obj) (hb : b < w.heap.size) : Onl b w (sortWorldK f m w b 0 n d os) := by
  refine ⟨rfl, rfl, rfl, size_sortWorldK_c f m w b 0 n d os, fun j hj hn => ?_⟩
  unfold sortWorldK
  show ((putRowK f m (Sort.ahead w n) b 0 d).heap ++ os)[j]? = _
  rw [Array.getElem?_append_left (by rw [size_putRowK]; exact hj)]
  unfold putRowK putRow mapBlock
  show (w.heap.modify b _)[j]? = _
  rw [Array.getElem?_modify, if_neg (fun e => hn e.symm)]
/-- what a sort leaves -/
theorem perm_list {α : Type} [Inhabited α] {lt : α → α → Bool} {L : List α} {d' : Array α} (hp : PermIn 0 L.toArray.size L.toArray d') (hs : SortedIn lt 0 L.toArray.size d') : d'.toList.Perm L ∧ d'.toList.Pairwise (fun x y => lt y x = false) := by
  obtain ⟨h1, _, h3⟩ := hp
  have e1 : d'.extract 0 L.toArray.size = d' := by rw [← h1]; simp
  have e2 : L.toArray.extract 0 L.toArray.size = L.toArray := by simp
  rw [e1, e2] at h3
  refine ⟨by simpa using h3, ?_⟩
  rw [List.pairwise_iff_getElem]
  intro i j hi hj hij
  rw [Array.length_toList] at hi hj
  have := hs i j (Nat.zero_le _) hij (by rw [← h1]; exact hj)
  rw [getElem!_pos d' i hi, getElem!_pos d' j hj] at this
  simpa using this
end Go.Proofs.YtknddbmnciodaaaGreat

