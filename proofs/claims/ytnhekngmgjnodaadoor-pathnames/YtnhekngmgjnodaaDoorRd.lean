/- Texts by their bytes; rows of texts, of numbers and of files that can be read. -/
import Derived.Test.YtnhekngmgjnodaaDoorHeap
import Derived.Test.YtnhekngmgjnodaaDoorNum
import Derived.Test.YtnhekngmgjnodaaDoorProg
import Derived.Maps.OwnSet
import Derived.Laws.BytesString
import Derived.Laws.Strings
import Derived.KernelRfl
namespace Go.Proofs.YtnhekngmgjnodaaDoor
open Go.RowKit Go.Maps
open Pa
set_option linter.unusedVariables false
theorem hid {p : Prop} (h : p) : Hid p := h
def bs (s : ByteArray) : List Nat := s.data.toList.map fun x => x.toNat
theorem bs_length (s : ByteArray) : (bs s).length = s.size := by unfold bs; rw [List.length_map]; rfl
theorem bs_lt (s : ByteArray) : ∀ x ∈ bs s, x < 256 := by
  intro x hx
  simp only [bs, List.mem_map] at hx
  obtain ⟨b, _, rfl⟩ := hx
  exact b.toNat_lt
/-- a text of these bytes -/
def ofBs (l : List Nat) : ByteArray := ⟨(l.map fun x => x.toUInt8).toArray⟩
theorem ofBs_size (l : List Nat) : (ofBs l).size = l.length := by
  show (l.map fun x => x.toUInt8).toArray.size = _
  simp
theorem bs_ofBs (l : List Nat) (h : ∀ x ∈ l, x < 256) : bs (ofBs l) = l := by
  unfold bs ofBs
  simp only [List.map_map]
  conv => rhs; rw [← List.map_id l]
  apply List.map_congr_left
  intro x hx
  have := h x hx
  show x % 256 = x
  omega
theorem ofBs_bs (s : ByteArray) : ofBs (bs s) = s := by
  have e : (bs s).map (fun x => x.toUInt8) = s.data.toList := by
    unfold bs
    rw [List.map_map]
    have : List.map ((fun x : Nat => x.toUInt8) ∘ fun x : UInt8 => x.toNat) s.data.toList = List.map id s.data.toList := by
      apply List.map_congr_left
      intro x _
      simp [Function.comp]
    rw [this, List.map_id]
  unfold ofBs
  rw [e]
theorem bs_inj {a b : ByteArray} (h : bs a = bs b) : a = b := by rw [← ofBs_bs a, ← ofBs_bs b, h]
theorem bs_extract (s : ByteArray) (a b : Nat) : bs (s.extract a b) = ((bs s).take b).drop a := by
  have e : (s.extract a b).data.toList = (s.data.toList.take b).drop a := by
    rw [ByteArray.data_extract, Array.toList_extract, List.extract_eq_take_drop, List.drop_take]
  unfold bs; rw [e, List.map_drop, List.map_take]
theorem bs_append (a b : ByteArray) : bs (a ++ b) = bs a ++ bs b := by
  unfold bs; rw [ByteArray.data_append, Array.toList_append, List.map_append]
theorem ofBs_append (a b : List Nat) : ofBs (a ++ b) = ofBs a ++ ofBs b := by
  unfold ofBs
  apply ByteArray.ext
  rw [ByteArray.data_append]
  simp
theorem bs_get (s : ByteArray) (k : Nat) (h : k < s.size) : (bs s).getD k 0 = s[k].toNat := by
  rw [List.getD_eq_getElem?_getD, List.getElem?_eq_getElem (by rw [bs_length]; exact h)]
  simp [bs]
  rfl
theorem getD_mem {l : List ByteArray} {k : Nat} (h : k < l.length) : l.getD k ⟨#[]⟩ ∈ l := by
  rw [List.getD_eq_getElem?_getD, List.getElem?_eq_getElem h]; exact List.getElem_mem h
/-- at A these texts stand, one a cell -/
def Tx (w : World) (A : Option Addr) (l : List ByteArray) : Prop := ∀ j, j < l.length → ∃ g o, A = some ⟨g, o, none⟩ ∧ g < w.heap.size ∧ w.cell? ⟨g, o + j, none⟩ = some (.string (l.getD j ⟨#[]⟩))
/-- at A these numbers stand, one a cell -/
def Is (w : World) (A : Option Addr) (z : List Nat) : Prop := ∀ j, j < z.length → ∃ g o, A = some ⟨g, o, none⟩ ∧ g < w.heap.size ∧ w.cell? ⟨g, o + j, none⟩ = some (.int .i64 ((z.getD j 0 : Nat) : Int))
theorem Tx.below {w w' : World} {A : Option Addr} {l : List ByteArray} (h : Tx w A l) (hb : Below w.heap.size w w') : Tx w' A l := by
  intro j hj
  obtain ⟨g, o, e, hg, hc⟩ := h j hj
  exact ⟨g, o, e, Nat.lt_of_lt_of_le hg hb.size, by rw [hb.cell (p := ⟨g, o + j, none⟩) hg]; exact hc⟩
theorem Is.below {w w' : World} {A : Option Addr} {l : List Nat} (h : Is w A l) (hb : Below w.heap.size w w') : Is w' A l := by
  intro j hj
  obtain ⟨g, o, e, hg, hc⟩ := h j hj
  exact ⟨g, o, e, Nat.lt_of_lt_of_le hg hb.size, by rw [hb.cell (p := ⟨g, o + j, none⟩) hg]; exact hc⟩
theorem Tx.nil (w : World) (A : Option Addr) : Tx w A [] := fun j hj => absurd hj (by simp)
theorem Is.nil (w : World) (A : Option Addr) : Is w A [] := fun j hj => absurd hj (by simp)
/-- a row of single cells is written out -/
theorem row_form {W : World} {b : Nat} {e : TypeId} {v : Value} {n : Nat} {xs : List Value} (h : W.ownsRow b e 1 v n xs) : ∃ A cap, v = .slice A n cap ∧ n ≤ cap ∧ xs.length = n ∧ ∀ j, j < n → ∃ g, A = some ⟨g, 0, none⟩ ∧ b ≤ g ∧ g < W.heap.size ∧ W.cell? ⟨g, j, none⟩ = xs[j]? := by
  rcases h.2 with ⟨h1, h2⟩ | ⟨g, cap, cur, hv, hbg, hh, h1, h2, h3, h4⟩
  · exact ⟨none, 0, by rw [h1, h2], by omega, by have := h.1; omega, fun j hj => by omega⟩
  · refine ⟨some ⟨g, 0, none⟩, cap, hv, h1, by have := h.1; omega, fun j hj => ⟨g, rfl, hbg, (Array.getElem?_eq_some_iff.1 hh).1, ?_⟩⟩
    rw [← h4, Nat.mul_one, List.getElem?_take_of_lt hj]
    simp [World.cell?, hh]
theorem row_tx {W : World} {b n : Nat} {e : TypeId} {v : Value} {l : List ByteArray} (h : W.ownsRow b e 1 v n (l.map Value.string)) : ∃ A cap, v = .slice A l.length cap ∧ l.length ≤ cap ∧ n = l.length ∧ Tx W A l := by
  obtain ⟨A, cap, rfl, hc, hl, ht⟩ := row_form h
  rw [List.length_map] at hl
  subst hl
  refine ⟨A, cap, rfl, hc, rfl, fun j hj => ?_⟩
  obtain ⟨g, rfl, _, hg, h1⟩ := ht j hj
  refine ⟨g, 0, rfl, hg, ?_⟩
  rw [Nat.zero_add, h1, List.getElem?_map, List.getD_eq_getElem?_getD, List.getElem?_eq_getElem hj]; rfl
def nI (n : Nat) : Value := .int .i64 (n : Int)
theorem row_is {W : World} {b n : Nat} {e : TypeId} {v : Value} {l : List Nat} (h : W.ownsRow b e 1 v n (l.map nI)) : ∃ A cap, v = .slice A l.length cap ∧ n = l.length ∧ Is W A l := by
  obtain ⟨A, cap, rfl, _, hl, ht⟩ := row_form h
  rw [List.length_map] at hl
  subst hl
  refine ⟨A, cap, rfl, rfl, fun j hj => ?_⟩
  obtain ⟨g, rfl, _, hg, h1⟩ := ht j hj
  refine ⟨g, 0, rfl, hg, ?_⟩
  rw [Nat.zero_add, h1, List.getElem?_map, List.getD_eq_getElem?_getD, List.getElem?_eq_getElem hj]; rfl
theorem tx_cell {w wr : World} {A : Option Addr} {l : List ByteArray} (h : Tx w A l) (hb : Below w.heap.size w wr) {j : Nat} (hj : j < l.length) : ∃ g o, A = some ⟨g, o, none⟩ ∧ g < w.heap.size ∧ wr.cell? ⟨g, o + j, none⟩ = some (.string (l.getD j ⟨#[]⟩)) := by
  obtain ⟨g, o, e, hg, hc⟩ := h j hj
  exact ⟨g, o, e, hg, by rw [hb.cell (p := ⟨g, o + j, none⟩) hg]; exact hc⟩
theorem is_cell {w wr : World} {A : Option Addr} {l : List Nat} (h : Is w A l) (hb : Below w.heap.size w wr) {j : Nat} (hj : j < l.length) : ∃ g o, A = some ⟨g, o, none⟩ ∧ g < w.heap.size ∧ wr.cell? ⟨g, o + j, none⟩ = some (.int .i64 ((l.getD j 0 : Nat) : Int)) := by
  obtain ⟨g, o, e, hg, hc⟩ := h j hj
  exact ⟨g, o, e, hg, by rw [hb.cell (p := ⟨g, o + j, none⟩) hg]; exact hc⟩
/-! a set of texts -/
theorem key9 : Go.Maps.Keyed Tryd.prog 9 := Go.Maps.string_keyed Tryd.underlying9
theorem keyOf9 {n : ByteArray} (hn : n.size ≤ maxLen) : keyOf Tryd.prog 9 (.string n) = some (.string n.data.toList) := by
  have h9 := Tryd.underlying9
  simp [keyOf, h9, mapKey, hn]
theorem get_of {α : Type} {l : List α} {k : Nat} (d : α) (h : k < l.length) : l[k]? = some (l.getD k d) := by
  rw [List.getD_eq_getElem?_getD, List.getElem?_eq_getElem h]; rfl
theorem take_next {α : Type} (l : List α) (d : α) (k : Nat) (h : k < l.length) : l.take (k + 1) = l.take k ++ [l.getD k d] := by
  rw [List.take_succ_eq_append_getElem h, List.getD_eq_getElem?_getD, List.getElem?_eq_getElem h]; rfl
/-! rows of some cells each -/
theorem flat_len {α : Type} (f : α → List Value) (m : Nat) (hm : ∀ x, (f x).length = m) : ∀ l : List α, (l.flatMap f).length = l.length * m
  | [] => by simp
  | x :: r => by rw [List.flatMap_cons, List.length_append, hm, flat_len f m hm r, List.length_cons, Nat.succ_mul, Nat.add_comm]
theorem flat_get {α : Type} (f : α → List Value) (m : Nat) (hm : ∀ x, (f x).length = m) : ∀ (l : List α) (k : Nat) (x : α), l[k]? = some x → ∀ i u, (f x)[i]? = some u → (l.flatMap f)[k * m + i]? = some u
  | [], k, x, h => by simp at h
  | y :: r, 0, x, h => fun i u hu => by
    simp at h; subst h
    have hj : i < (f y).length := (List.getElem?_eq_some_iff.1 hu).1
    rw [List.flatMap_cons, Nat.zero_mul, Nat.zero_add, List.getElem?_append_left hj]; exact hu
  | y :: r, k + 1, x, h => fun i u hu => by
    have hr := flat_get f m hm r k x (by simpa using h) i u hu
    rw [List.flatMap_cons, List.getElem?_append_right (by rw [hm, Nat.succ_mul]; omega), hm, Nat.succ_mul, show k * m + m + i - m = k * m + i by omega]
    exact hr
/-! rows that are grown by append -/
theorem own_below {w w' : World} {B lo : Nat} {e : TypeId} {m n : Nat} {v : Value} {xs : List Value} (h : w.ownsRow lo e m v n xs) (hb : Below B w w') (hB : w.heap.size ≤ B) : w'.ownsRow lo e m v n xs := by
  refine ⟨h.1, ?_⟩
  rcases h.2 with hn | ⟨g, cap, cur, rfl, h1, h2, rest⟩
  · exact .inl hn
  · refine .inr ⟨g, cap, cur, rfl, h1, ?_, rest⟩
    rw [hb.block g (Nat.lt_of_lt_of_le (Array.getElem?_eq_some_iff.1 h2).1 hB)]
    exact h2
theorem own_mono {w : World} {lo lo' : Nat} {e : TypeId} {m n : Nat} {v : Value} {xs : List Value} (h : w.ownsRow lo e m v n xs) (hl : lo' ≤ lo) : w.ownsRow lo' e m v n xs := by
  refine ⟨h.1, ?_⟩
  rcases h.2 with hn | ⟨g, cap, cur, rfl, h1, rest⟩
  · exact .inl hn
  · exact .inr ⟨g, cap, cur, rfl, Nat.le_trans hl h1, rest⟩
theorem own_has {w : World} {lo : Nat} {e : TypeId} {m n : Nat} {v : Value} {xs : List Value} (h : w.ownsRow lo e m v n xs) {g : Nat} {cs : Array Value} {t : TypeId} (hg : Has w g cs t) (ht : t ≠ e) : v.ownBlock ≠ some g := by
  intro he
  rcases h.2 with ⟨rfl, _⟩ | ⟨g', cap, cur, rfl, _, hh, _⟩
  · simp [Value.ownBlock] at he
  · simp [Value.ownBlock] at he
    subst he
    unfold Has at hg
    rw [hh] at hg
    have := Option.some.inj hg
    simp at this
    exact ht this.2.symm
theorem Has.grown {w w' : World} {b : Nat} {cs : Array Value} {t : TypeId} {r : Option Nat} (h : Has w b cs t) (hg : w.grownBy w' r) (hr : r ≠ some b) : Has w' b cs t := by
  have hl := h.lt
  unfold Has at h ⊢
  rw [hg.block b hl (fun e => hr e.symm)]; exact h
/-- a row of texts that was grown -/
theorem own_tx {W : World} {b n : Nat} {e : TypeId} {v : Value} {l : List ByteArray} (h : W.ownsRow b e 1 v n (l.map Value.string)) : ∃ A cap, v = .slice A l.length cap ∧ n = l.length ∧ Tx W A l := by
  have hn : n = l.length := by have := h.1; simp at this; omega
  subst hn
  rcases h.2 with ⟨h1, h2⟩ | ⟨g, cap, cur, hv, hbg, hh, h1, h2, h3, h4⟩
  · have : l = [] := List.length_eq_zero_iff.1 h2
    subst this
    exact ⟨none, 0, h1, rfl, Tx.nil _ _⟩
  · refine ⟨_, cap, hv, rfl, fun j hj => ⟨g, 0, rfl, (Array.getElem?_eq_some_iff.1 hh).1, ?_⟩⟩
    have := h.cells (g := g) (by rw [hv]; rfl) j (.string (l.getD j ⟨#[]⟩)) (by rw [List.getElem?_map, get_of ⟨#[]⟩ hj]; rfl)
    rw [Nat.zero_add]
    have hadd : (⟨g, 0, none⟩ : Addr).add j = ⟨g, j, none⟩ := by unfold Addr.add; split <;> simp_all
    rwa [hadd] at this
/-- a file, or a directory, as it lies -/
structure Fl where
  path : ByteArray
  dir : Bool
  data : ByteArray
instance : Inhabited Fl := ⟨⟨⟨#[]⟩, false, ⟨#[]⟩⟩⟩
def fl3 (x : Fl) : List Value := [.string x.path, .bool x.dir, .string x.data]
/-- at A these files stand, three cells each -/
def Fs (w : World) (A : Option Addr) (l : List Fl) : Prop := ∀ j, j < l.length → ∃ g o, A = some ⟨g, o, none⟩ ∧ g < w.heap.size ∧ w.cell? ⟨g, o + j * 3, none⟩ = some (.string (l.getD j default).path) ∧ w.cell? ⟨g, o + j * 3 + 1, none⟩ = some (.bool (l.getD j default).dir) ∧ w.cell? ⟨g, o + j * 3 + 2, none⟩ = some (.string (l.getD j default).data)
theorem Fs.below {w w' : World} {A : Option Addr} {l : List Fl} (h : Fs w A l) (hb : Below w.heap.size w w') : Fs w' A l := by
  intro j hj
  obtain ⟨g, o, e, hg, h1, h2, h3⟩ := h j hj
  exact ⟨g, o, e, Nat.lt_of_lt_of_le hg hb.size, by rw [hb.cell (p := ⟨g, o + j * 3, none⟩) hg]; exact h1, by rw [hb.cell (p := ⟨g, o + j * 3 + 1, none⟩) hg]; exact h2, by rw [hb.cell (p := ⟨g, o + j * 3 + 2, none⟩) hg]; exact h3⟩
theorem Fs.nil (w : World) (A : Option Addr) : Fs w A [] := fun j hj => absurd hj (by simp)
theorem fs_cell {w wr : World} {A : Option Addr} {l : List Fl} (h : Fs w A l) (hb : Below w.heap.size w wr) {j : Nat} (hj : j < l.length) : ∃ g o, A = some ⟨g, o, none⟩ ∧ g < w.heap.size ∧ wr.cell? ⟨g, o + j * 3, none⟩ = some (.string (l.getD j default).path) ∧ wr.cell? ⟨g, o + j * 3 + 1, none⟩ = some (.bool (l.getD j default).dir) ∧ wr.cell? ⟨g, o + j * 3 + 2, none⟩ = some (.string (l.getD j default).data) := by
  obtain ⟨g, o, e, hg, h1, h2, h3⟩ := h j hj
  exact ⟨g, o, e, hg, by rw [hb.cell (p := ⟨g, o + j * 3, none⟩) hg]; exact h1, by rw [hb.cell (p := ⟨g, o + j * 3 + 1, none⟩) hg]; exact h2, by rw [hb.cell (p := ⟨g, o + j * 3 + 2, none⟩) hg]; exact h3⟩
/-- files as a whole block -/
theorem has_fs {w : World} {b : Nat} {l : List Fl} {t : TypeId} (h : Has w b (l.flatMap fl3).toArray t) : Fs w (some ⟨b, 0, none⟩) l := fun j hj => by
  have f := flat_get fl3 3 (fun _ => rfl) l j _ (get_of default hj)
  have c : ∀ i u, (fl3 (l.getD j default))[i]? = some u → w.cell? ⟨b, 0 + j * 3 + i, none⟩ = some u := fun i u hu => by
    rw [Nat.zero_add, h.cell, List.getElem?_toArray]
    exact f i u hu
  exact ⟨b, 0, rfl, h.lt, c 0 _ rfl, c 1 _ rfl, c 2 _ rfl⟩
/-- a file of the mathematics -/
def fi (x : Fl) : Fi := ⟨bs x.path, bs x.data, x.dir⟩
end Go.Proofs.YtnhekngmgjnodaaDoor
