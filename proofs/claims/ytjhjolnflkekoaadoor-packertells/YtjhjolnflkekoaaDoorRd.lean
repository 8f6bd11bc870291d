/- Texts by their bytes; rows of texts and of numbers that can be read; a set of texts that a call made itself. -/
import Derived.Test.YtjhjolnflkekoaaDoorHeap
import Derived.Test.YtjhjolnflkekoaaDoorNum
import Derived.Test.YtjhjolnflkekoaaDoorProg
import Derived.Maps.OwnSet
import Derived.Laws.BytesString
import Derived.Laws.Strings
import Derived.KernelRfl
namespace Go.Proofs.YtjhjolnflkekoaaDoor
open Go.RowKit Go.Maps
open Pk
set_option linter.unusedVariables false
theorem hid {p : Prop} (h : p) : Hid p := h
def bs (s : ByteArray) : List Nat := s.data.toList.map fun x => x.toNat
theorem bs_length (s : ByteArray) : (bs s).length = s.size := by unfold bs; rw [List.length_map]; rfl
theorem bs_lt (s : ByteArray) : ∀ x ∈ bs s, x < 256 := by
  intro x hx
  simp only [bs, List.mem_map] at hx
  obtain ⟨b, _, rfl⟩ := hx
  exact b.toNat_lt
/-- a text of these bytes -/
def ofBs (l : List Nat) : ByteArray := ⟨(l.map fun x => x.toUInt8).toArray⟩
theorem ofBs_size (l : List Nat) : (ofBs l).size = l.length := by
  show (l.map fun x => x.toUInt8).toArray.size = _
  simp
theorem bs_ofBs (l : List Nat) (h : ∀ x ∈ l, x < 256) : bs (ofBs l) = l := by
  unfold bs ofBs
  simp only [List.map_map]
  conv => rhs; rw [← List.map_id l]
  apply List.map_congr_left
  intro x hx
  have := h x hx
  show x % 256 = x
  omega
theorem ofBs_bs (s : ByteArray) : ofBs (bs s) = s := by
  have e : (bs s).map (fun x => x.toUInt8) = s.data.toList := by
    unfold bs
    rw [List.map_map]
    have : List.map ((fun x : Nat => x.toUInt8) ∘ fun x : UInt8 => x.toNat) s.data.toList = List.map id s.data.toList := by
      apply List.map_congr_left
      intro x _
      simp [Function.comp]
    rw [this, List.map_id]
  unfold ofBs
  rw [e]
theorem bs_inj {a b : ByteArray} (h : bs a = bs b) : a = b := by rw [← ofBs_bs a, ← ofBs_bs b, h]
theorem bs_extract (s : ByteArray) (a b : Nat) : bs (s.extract a b) = ((bs s).take b).drop a := by
  have e : (s.extract a b).data.toList = (s.data.toList.take b).drop a := by
    rw [ByteArray.data_extract, Array.toList_extract, List.extract_eq_take_drop, List.drop_take]
  unfold bs; rw [e, List.map_drop, List.map_take]
theorem bs_append (a b : ByteArray) : bs (a ++ b) = bs a ++ bs b := by
  unfold bs; rw [ByteArray.data_append, Array.toList_append, List.map_append]
theorem ofBs_append (a b : List Nat) : ofBs (a ++ b) = ofBs a ++ ofBs b := by
  unfold ofBs
  apply ByteArray.ext
  rw [ByteArray.data_append]
  simp
theorem bs_get (s : ByteArray) (k : Nat) (h : k < s.size) : (bs s).getD k 0 = s[k].toNat := by
  rw [List.getD_eq_getElem?_getD, List.getElem?_eq_getElem (by rw [bs_length]; exact h)]
  simp [bs]
  rfl
/-- all bytes of some texts -/
def tot (l : List ByteArray) : Nat := total (l.map bs)
theorem tot_cons (s : ByteArray) (l : List ByteArray) : tot (s :: l) = s.size + tot l := by unfold tot; rw [List.map_cons, total_cons, bs_length]
theorem tot_snoc (l : List ByteArray) (s : ByteArray) : tot (l ++ [s]) = tot l + s.size := by
  unfold tot; rw [List.map_append, total_app]; simp [total, bs_length]
theorem tot_le {l : List ByteArray} {s : ByteArray} (h : s ∈ l) : s.size ≤ tot l := by
  induction l with
  | nil => cases h
  | cons x r ih =>
    rw [tot_cons]
    rcases List.mem_cons.1 h with rfl | h
    · omega
    · have := ih h; omega
theorem tot_take (l : List ByteArray) (k : Nat) (h : k < l.length) : tot (l.take (k + 1)) = tot (l.take k) + (l.getD k ⟨#[]⟩).size := by
  rw [List.take_succ_eq_append_getElem h, tot_snoc, List.getD_eq_getElem?_getD, List.getElem?_eq_getElem h]; rfl
theorem tot_take_le (l : List ByteArray) (k : Nat) : tot (l.take k) ≤ tot l := by
  have h1 := total_take_le (l.map bs) k
  unfold tot; rw [List.map_take]; exact h1
theorem getD_mem {l : List ByteArray} {k : Nat} (h : k < l.length) : l.getD k ⟨#[]⟩ ∈ l := by
  rw [List.getD_eq_getElem?_getD, List.getElem?_eq_getElem h]; exact List.getElem_mem h
theorem take_next (l : List ByteArray) (k : Nat) (h : k < l.length) : l.take (k + 1) = l.take k ++ [l.getD k ⟨#[]⟩] := by
  rw [List.take_succ_eq_append_getElem h, List.getD_eq_getElem?_getD, List.getElem?_eq_getElem h]; rfl
/-- at A these texts stand, one a cell -/
def Tx (w : World) (A : Option Addr) (l : List ByteArray) : Prop := ∀ j, j < l.length → ∃ g o, A = some ⟨g, o, none⟩ ∧ g < w.heap.size ∧ w.cell? ⟨g, o + j, none⟩ = some (.string (l.getD j ⟨#[]⟩))
/-- at A these numbers stand, one a cell -/
def Is (w : World) (A : Option Addr) (z : List Nat) : Prop := ∀ j, j < z.length → ∃ g o, A = some ⟨g, o, none⟩ ∧ g < w.heap.size ∧ w.cell? ⟨g, o + j, none⟩ = some (.int .i64 ((z.getD j 0 : Nat) : Int))
theorem Tx.below {w w' : World} {A : Option Addr} {l : List ByteArray} (h : Tx w A l) (hb : Below w.heap.size w w') : Tx w' A l := by
  intro j hj
  obtain ⟨g, o, e, hg, hc⟩ := h j hj
  exact ⟨g, o, e, Nat.lt_of_lt_of_le hg hb.size, by rw [hb.cell (p := ⟨g, o + j, none⟩) hg]; exact hc⟩
theorem Is.below {w w' : World} {A : Option Addr} {l : List Nat} (h : Is w A l) (hb : Below w.heap.size w w') : Is w' A l := by
  intro j hj
  obtain ⟨g, o, e, hg, hc⟩ := h j hj
  exact ⟨g, o, e, Nat.lt_of_lt_of_le hg hb.size, by rw [hb.cell (p := ⟨g, o + j, none⟩) hg]; exact hc⟩
theorem Tx.nil (w : World) (A : Option Addr) : Tx w A [] := fun j hj => absurd hj (by simp)
theorem Is.nil (w : World) (A : Option Addr) : Is w A [] := fun j hj => absurd hj (by simp)
/-- a row of single cells is written out -/
theorem row_form {W : World} {b : Nat} {e : TypeId} {v : Value} {n : Nat} {xs : List Value} (h : W.ownsRow b e 1 v n xs) : ∃ A cap, v = .slice A n cap ∧ n ≤ cap ∧ xs.length = n ∧ ∀ j, j < n → ∃ g, A = some ⟨g, 0, none⟩ ∧ b ≤ g ∧ g < W.heap.size ∧ W.cell? ⟨g, j, none⟩ = xs[j]? := by
  rcases h.2 with ⟨h1, h2⟩ | ⟨g, cap, cur, hv, hbg, hh, h1, h2, h3, h4⟩
  · exact ⟨none, 0, by rw [h1, h2], by omega, by have := h.1; omega, fun j hj => by omega⟩
  · refine ⟨some ⟨g, 0, none⟩, cap, hv, h1, by have := h.1; omega, fun j hj => ⟨g, rfl, hbg, (Array.getElem?_eq_some_iff.1 hh).1, ?_⟩⟩
    rw [← h4, Nat.mul_one, List.getElem?_take_of_lt hj]
    simp [World.cell?, hh]
theorem row_tx {W : World} {b n : Nat} {e : TypeId} {v : Value} {l : List ByteArray} (h : W.ownsRow b e 1 v n (l.map Value.string)) : ∃ A cap, v = .slice A l.length cap ∧ l.length ≤ cap ∧ n = l.length ∧ Tx W A l := by
  obtain ⟨A, cap, rfl, hc, hl, ht⟩ := row_form h
  rw [List.length_map] at hl
  subst hl
  refine ⟨A, cap, rfl, hc, rfl, fun j hj => ?_⟩
  obtain ⟨g, rfl, _, hg, h1⟩ := ht j hj
  refine ⟨g, 0, rfl, hg, ?_⟩
  rw [Nat.zero_add, h1, List.getElem?_map, List.getD_eq_getElem?_getD, List.getElem?_eq_getElem hj]; rfl
def nI (n : Nat) : Value := .int .i64 (n : Int)
theorem row_is {W : World} {b n : Nat} {e : TypeId} {v : Value} {l : List Nat} (h : W.ownsRow b e 1 v n (l.map nI)) : ∃ A cap, v = .slice A l.length cap ∧ n = l.length ∧ Is W A l := by
  obtain ⟨A, cap, rfl, _, hl, ht⟩ := row_form h
  rw [List.length_map] at hl
  subst hl
  refine ⟨A, cap, rfl, rfl, fun j hj => ?_⟩
  obtain ⟨g, rfl, _, hg, h1⟩ := ht j hj
  refine ⟨g, 0, rfl, hg, ?_⟩
  rw [Nat.zero_add, h1, List.getElem?_map, List.getD_eq_getElem?_getD, List.getElem?_eq_getElem hj]; rfl
theorem tx_cell {w wr : World} {A : Option Addr} {l : List ByteArray} (h : Tx w A l) (hb : Below w.heap.size w wr) {j : Nat} (hj : j < l.length) : ∃ g o, A = some ⟨g, o, none⟩ ∧ g < w.heap.size ∧ wr.cell? ⟨g, o + j, none⟩ = some (.string (l.getD j ⟨#[]⟩)) := by
  obtain ⟨g, o, e, hg, hc⟩ := h j hj
  exact ⟨g, o, e, hg, by rw [hb.cell (p := ⟨g, o + j, none⟩) hg]; exact hc⟩
theorem is_cell {w wr : World} {A : Option Addr} {l : List Nat} (h : Is w A l) (hb : Below w.heap.size w wr) {j : Nat} (hj : j < l.length) : ∃ g o, A = some ⟨g, o, none⟩ ∧ g < w.heap.size ∧ wr.cell? ⟨g, o + j, none⟩ = some (.int .i64 ((l.getD j 0 : Nat) : Int)) := by
  obtain ⟨g, o, e, hg, hc⟩ := h j hj
  exact ⟨g, o, e, hg, by rw [hb.cell (p := ⟨g, o + j, none⟩) hg]; exact hc⟩
/-! a set of texts -/
theorem key9 : Go.Maps.Keyed Tryd.prog 9 := Go.Maps.string_keyed Tryd.underlying9
theorem keyOf9 {n : ByteArray} (hn : n.size ≤ maxLen) : keyOf Tryd.prog 9 (.string n) = some (.string n.data.toList) := by
  have h9 := Tryd.underlying9
  simp [keyOf, h9, mapKey, hn]
theorem zero43 (w : World) : (zeroValue 62).run Tryd.prog w = .ok (.agg #[]) w := by kernel_rfl
/-- is the text among them? -/
def inB (l : List ByteArray) (s : ByteArray) : Bool := (l.map bs).contains (bs s)
theorem inB_iff (l : List ByteArray) (s : ByteArray) : inB l s = true ↔ bs s ∈ l.map bs := by unfold inB; rw [List.contains_iff_mem]
/-- block b is a map whose keys are these texts -/
def SMap (w : World) (b : Nat) (l : List ByteArray) : Prop := ∃ D : DataW Unit, w.ownsMap Tryd.prog 9 unitElem b l.length D ∧ Go.Maps.IsMap D ∧ ∀ s : ByteArray, Go.Maps.has D (.string s.data.toList) = inB l s
theorem SMap.lt {w : World} {b : Nat} {l : List ByteArray} (h : SMap w b l) : b < w.heap.size := by
  obtain ⟨D, h1, _⟩ := h
  exact h1.lt
theorem SMap.below {w w' : World} {b : Nat} {l : List ByteArray} (h : SMap w b l) (hb : Below w.heap.size w w') : SMap w' b l := by
  have hl := h.lt
  obtain ⟨D, ⟨es, clock, h1, h2⟩, h3⟩ := h
  exact ⟨D, ⟨es, clock, by rw [hb.block b hl]; exact h1, h2⟩, h3⟩
theorem SMap.made (w : World) : SMap (w.alloc (.map #[] 0)) w.heap.size [] :=
  ⟨.map [], World.ownsMap_made _ _ _ _, ⟨_, rfl⟩, fun s => by simp [Go.Maps.has, inB]⟩
theorem SMap.look {w : World} {b : Nat} {l : List ByteArray} (h : SMap w b l) (s : ByteArray) (hs : s.size ≤ maxLen) : (Instr.lookup 61 (.map (some b)) (.string s) true).run Tryd.prog w = .ok (.tuple #[.agg #[], .bool (inB l s)]) w := by
  obtain ⟨D, h1, h2, h3⟩ := h
  obtain ⟨v, ps, hrun, hv⟩ := h1.look_ok key9 Tryd.underlying61 (zero43 _) unitElem_mk (keyOf9 hs)
  obtain ⟨rfl, _⟩ := unitElem_inv hv
  rw [hrun, h3]
theorem SMap.put {w : World} {b : Nat} {l : List ByteArray} (h : SMap w b l) (hl : l.length < maxLen) (s : ByteArray) (hs : s.size ≤ maxLen) : ∃ w', (Instr.mapUpdate 61 (.map (some b)) (.string s) (.agg #[])).run Tryd.prog w = .ok () w' ∧ SMap w' b (l ++ [s]) ∧ w.grownBy w' (some b) := by
  obtain ⟨D, h1, h2, h3⟩ := h
  obtain ⟨w', hrun, r1, r2⟩ := h1.update key9 Tryd.underlying61 hl (keyOf9 hs) unitElem_mk
  have hkl : WideAt.IsKeyLit (.string s.data.toList) := trivial
  refine ⟨w', hrun, ⟨_, by rw [List.length_append]; exact r1, h2.put _ _, fun t => ?_⟩, r2⟩
  by_cases e : t = s
  · subst e
    rw [Go.Maps.has_put_same h2 hkl]; exact ((inB_iff _ _).2 (by simp)).symm
  · have hne : (Lit.string t.data.toList) ≠ .string s.data.toList := fun hh => e (by
      have h4 : t.data.toList = s.data.toList := by simpa using hh
      exact ByteArray.ext (Array.toList_inj.1 h4))
    rw [Go.Maps.has_put_other hne, h3, Bool.eq_iff_iff, inB_iff, inB_iff, List.map_append, List.mem_append]
    refine ⟨.inl, fun h => h.elim id fun h => ?_⟩
    exact absurd (bs_inj (by simpa using h)) e
end Go.Proofs.YtjhjolnflkekoaaDoor
