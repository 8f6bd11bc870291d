/- Rows of texts, of places and of snapshots that can be read; rows of some cells each. -/
import Derived.Test.YtknddbmnciodaaaGreatHeap
import Derived.Test.YtknddbmnciodaaaGreatNum
import Derived.Test.YtknddbmnciodaaaGreatProg
import Derived.Maps.OwnSet
import Derived.Laws.BytesString
import Derived.Laws.Strings
import Derived.KernelRfl
namespace Go.Proofs.YtknddbmnciodaaaGreat
open Go.RowKit Go.Maps
open Ix
set_option linter.unusedVariables false
theorem hid {p : Prop} (h : p) : Hid p := h
theorem getD_mem {l : List ByteArray} {k : Nat} (h : k < l.length) : l.getD k ⟨#[]⟩ ∈ l := by
  rw [List.getD_eq_getElem?_getD, List.getElem?_eq_getElem h]; exact List.getElem_mem h
theorem getP_mem {l : List Pl} {k : Nat} (h : k < l.length) : l.getD k default ∈ l := by
  rw [List.getD_eq_getElem?_getD, List.getElem?_eq_getElem h]; exact List.getElem_mem h
theorem get_of {α : Type} {l : List α} {k : Nat} (d : α) (h : k < l.length) : l[k]? = some (l.getD k d) := by
  rw [List.getD_eq_getElem?_getD, List.getElem?_eq_getElem h]; rfl
theorem take_next {α : Type} (l : List α) (d : α) (k : Nat) (h : k < l.length) : l.take (k + 1) = l.take k ++ [l.getD k d] := by
  rw [List.take_succ_eq_append_getElem h, List.getD_eq_getElem?_getD, List.getElem?_eq_getElem h]; rfl
/-- a snapshot -/
structure Snp where
  id : Int
  time : Int
  root : ByteArray
instance : Inhabited Snp := ⟨⟨0, 0, ⟨#[]⟩⟩⟩
/-- a state -/
structure St where
  k : Int
  n : Int
  nx : Int
  sn : List Snp
  C : List ByteArray
  P : List Pl
/-- at A these texts stand, one a cell -/
def Tx (w : World) (A : Option Addr) (l : List ByteArray) : Prop := ∀ j, j < l.length → ∃ g o, A = some ⟨g, o, none⟩ ∧ g < w.heap.size ∧ w.cell? ⟨g, o + j, none⟩ = some (.string (l.getD j ⟨#[]⟩))
/-- at A these places stand, three cells each -/
def Ps (w : World) (A : Option Addr) (l : List Pl) : Prop := ∀ j, j < l.length → ∃ g o, A = some ⟨g, o, none⟩ ∧ g < w.heap.size ∧ w.cell? ⟨g, o + j * 3, none⟩ = some (.string (l.getD j default).pack) ∧ w.cell? ⟨g, o + j * 3 + 1, none⟩ = some (.int .i64 (l.getD j default).at_) ∧ w.cell? ⟨g, o + j * 3 + 2, none⟩ = some (.int .i64 (l.getD j default).len)
/-- at A these snapshots stand -/
def Sn (w : World) (A : Option Addr) (l : List Snp) : Prop := ∀ j, j < l.length → ∃ g o, A = some ⟨g, o, none⟩ ∧ g < w.heap.size ∧ w.cell? ⟨g, o + j * 3, none⟩ = some (.int .i64 (l.getD j default).id) ∧ w.cell? ⟨g, o + j * 3 + 1, none⟩ = some (.int .i64 (l.getD j default).time) ∧ w.cell? ⟨g, o + j * 3 + 2, none⟩ = some (.string (l.getD j default).root)
theorem Tx.below {w w' : World} {A : Option Addr} {l : List ByteArray} (h : Tx w A l) (hb : Below w.heap.size w w') : Tx w' A l := by
  intro j hj
  obtain ⟨g, o, e, hg, hc⟩ := h j hj
  exact ⟨g, o, e, Nat.lt_of_lt_of_le hg hb.size, by rw [hb.cell (p := ⟨g, o + j, none⟩) hg]; exact hc⟩
theorem Ps.below {w w' : World} {A : Option Addr} {l : List Pl} (h : Ps w A l) (hb : Below w.heap.size w w') : Ps w' A l := by
  intro j hj
  obtain ⟨g, o, e, hg, h1, h2, h3⟩ := h j hj
  exact ⟨g, o, e, Nat.lt_of_lt_of_le hg hb.size, by rw [hb.cell (p := ⟨g, o + j * 3, none⟩) hg]; exact h1, by rw [hb.cell (p := ⟨g, o + j * 3 + 1, none⟩) hg]; exact h2, by rw [hb.cell (p := ⟨g, o + j * 3 + 2, none⟩) hg]; exact h3⟩
theorem Sn.below {w w' : World} {A : Option Addr} {l : List Snp} (h : Sn w A l) (hb : Below w.heap.size w w') : Sn w' A l := by
  intro j hj
  obtain ⟨g, o, e, hg, h1, h2, h3⟩ := h j hj
  exact ⟨g, o, e, Nat.lt_of_lt_of_le hg hb.size, by rw [hb.cell (p := ⟨g, o + j * 3, none⟩) hg]; exact h1, by rw [hb.cell (p := ⟨g, o + j * 3 + 1, none⟩) hg]; exact h2, by rw [hb.cell (p := ⟨g, o + j * 3 + 2, none⟩) hg]; exact h3⟩
theorem Tx.nil (w : World) (A : Option Addr) : Tx w A [] := fun j hj => absurd hj (by simp)
theorem Ps.nil (w : World) (A : Option Addr) : Ps w A [] := fun j hj => absurd hj (by simp)
theorem Sn.nil (w : World) (A : Option Addr) : Sn w A [] := fun j hj => absurd hj (by simp)
/-- what is read in a later world -/
theorem tx_cell {w wr : World} {A : Option Addr} {l : List ByteArray} (h : Tx w A l) (hb : Below w.heap.size w wr) {j : Nat} (hj : j < l.length) : ∃ g o, A = some ⟨g, o, none⟩ ∧ g < w.heap.size ∧ wr.cell? ⟨g, o + j, none⟩ = some (.string (l.getD j ⟨#[]⟩)) := by
  obtain ⟨g, o, e, hg, hc⟩ := h j hj
  exact ⟨g, o, e, hg, by rw [hb.cell (p := ⟨g, o + j, none⟩) hg]; exact hc⟩
theorem ps_cell {w wr : World} {A : Option Addr} {l : List Pl} (h : Ps w A l) (hb : Below w.heap.size w wr) {j : Nat} (hj : j < l.length) : ∃ g o, A = some ⟨g, o, none⟩ ∧ g < w.heap.size ∧ wr.cell? ⟨g, o + j * 3, none⟩ = some (.string (l.getD j default).pack) ∧ wr.cell? ⟨g, o + j * 3 + 1, none⟩ = some (.int .i64 (l.getD j default).at_) ∧ wr.cell? ⟨g, o + j * 3 + 2, none⟩ = some (.int .i64 (l.getD j default).len) := by
  obtain ⟨g, o, e, hg, h1, h2, h3⟩ := h j hj
  exact ⟨g, o, e, hg, by rw [hb.cell (p := ⟨g, o + j * 3, none⟩) hg]; exact h1, by rw [hb.cell (p := ⟨g, o + j * 3 + 1, none⟩) hg]; exact h2, by rw [hb.cell (p := ⟨g, o + j * 3 + 2, none⟩) hg]; exact h3⟩
theorem sn_cell {w wr : World} {A : Option Addr} {l : List Snp} (h : Sn w A l) (hb : Below w.heap.size w wr) {j : Nat} (hj : j < l.length) : ∃ g o, A = some ⟨g, o, none⟩ ∧ g < w.heap.size ∧ wr.cell? ⟨g, o + j * 3, none⟩ = some (.int .i64 (l.getD j default).id) ∧ wr.cell? ⟨g, o + j * 3 + 1, none⟩ = some (.int .i64 (l.getD j default).time) ∧ wr.cell? ⟨g, o + j * 3 + 2, none⟩ = some (.string (l.getD j default).root) := by
  obtain ⟨g, o, e, hg, h1, h2, h3⟩ := h j hj
  exact ⟨g, o, e, hg, by rw [hb.cell (p := ⟨g, o + j * 3, none⟩) hg]; exact h1, by rw [hb.cell (p := ⟨g, o + j * 3 + 1, none⟩) hg]; exact h2, by rw [hb.cell (p := ⟨g, o + j * 3 + 2, none⟩) hg]; exact h3⟩
/-! rows of some cells each -/
theorem flat_len {α : Type} (f : α → List Value) (m : Nat) (hm : ∀ x, (f x).length = m) : ∀ l : List α, (l.flatMap f).length = l.length * m
  | [] => by simp
  | x :: r => by rw [List.flatMap_cons, List.length_append, hm, flat_len f m hm r, List.length_cons, Nat.succ_mul, Nat.add_comm]
theorem flat_get {α : Type} (f : α → List Value) (m : Nat) (hm : ∀ x, (f x).length = m) : ∀ (l : List α) (k : Nat) (x : α), l[k]? = some x → ∀ i u, (f x)[i]? = some u → (l.flatMap f)[k * m + i]? = some u
  | [], k, x, h => by simp at h
  | y :: r, 0, x, h => fun i u hu => by
    simp at h; subst h
    have hj : i < (f y).length := (List.getElem?_eq_some_iff.1 hu).1
    rw [List.flatMap_cons, Nat.zero_mul, Nat.zero_add, List.getElem?_append_left hj]; exact hu
  | y :: r, k + 1, x, h => fun i u hu => by
    have hr := flat_get f m hm r k x (by simpa using h) i u hu
    rw [List.flatMap_cons, List.getElem?_append_right (by rw [hm, Nat.succ_mul]; omega), hm, Nat.succ_mul, show k * m + m + i - m = k * m + i by omega]
    exact hr
theorem flat_set {α : Type} (f : α → List Value) (m : Nat) (hm : ∀ x, (f x).length = m) (y : α) : ∀ (l : List α) (k : Nat), k < l.length → (l.flatMap f).take (k * m) ++ f y ++ (l.flatMap f).drop (k * m + m) = (l.set k y).flatMap f
  | [], k, h => by simp at h
  | x :: r, 0, _ => by
    rw [List.set_cons_zero, List.flatMap_cons, List.flatMap_cons, Nat.zero_mul, List.take_zero, List.nil_append, Nat.zero_add, List.drop_append, hm, Nat.sub_self, List.drop_zero, List.drop_eq_nil_of_le (by rw [hm]; exact Nat.le_refl _), List.nil_append]
  | x :: r, k + 1, h => by
    have hr := flat_set f m hm y r k (by simpa using h)
    rw [List.set_cons_succ, List.flatMap_cons, List.flatMap_cons, ← hr, Nat.succ_mul, List.take_append, List.drop_append, hm, List.take_of_length_le (by rw [hm]; omega), List.drop_eq_nil_of_le (by rw [hm]; omega), List.nil_append, show k * m + m - m = k * m by omega, show k * m + m + m - m = k * m + m by omega]
    simp only [List.append_assoc]
def pl3 (x : Pl) : List Value := [.string x.pack, .int .i64 x.at_, .int .i64 x.len]
def sn3 (x : Snp) : List Value := [.int .i64 x.id, .int .i64 x.time, .string x.root]
def ck4 (x : En) : List Value := [.string x.1, .string x.2.pack, .int .i64 x.2.at_, .int .i64 x.2.len]
def sTx (l : List ByteArray) : Array Value := (l.map Value.string).toArray
def pC (l : List Pl) : Array Value := (l.flatMap pl3).toArray
def nC (l : List Snp) : Array Value := (l.flatMap sn3).toArray
def kC (l : List En) : Array Value := (l.flatMap ck4).toArray
theorem sTx_size (l : List ByteArray) : (sTx l).size = l.length := by unfold sTx; simp
theorem pC_size (l : List Pl) : (pC l).size = l.length * 3 := by unfold pC; rw [List.size_toArray, flat_len pl3 3 (fun _ => rfl)]
theorem nC_size (l : List Snp) : (nC l).size = l.length * 3 := by unfold nC; rw [List.size_toArray, flat_len sn3 3 (fun _ => rfl)]
theorem kC_size (l : List En) : (kC l).size = l.length * 4 := by unfold kC; rw [List.size_toArray, flat_len ck4 4 (fun _ => rfl)]
/-- whole blocks of such -/
theorem has_tx {w : World} {b : Nat} {l : List ByteArray} {t : TypeId} (h : Has w b (sTx l) t) : Tx w (some ⟨b, 0, none⟩) l := fun j hj => by
  refine ⟨b, 0, rfl, h.lt, ?_⟩
  rw [h.cell, Nat.zero_add]; unfold sTx
  rw [List.getElem?_toArray, List.getElem?_map, get_of ⟨#[]⟩ hj]; rfl
theorem has_ps {w : World} {b : Nat} {l : List Pl} {t : TypeId} (h : Has w b (pC l) t) : Ps w (some ⟨b, 0, none⟩) l := fun j hj => by
  have f := flat_get pl3 3 (fun _ => rfl) l j _ (get_of default hj)
  refine ⟨b, 0, rfl, h.lt, ?_, ?_, ?_⟩
  · rw [h.cell, Nat.zero_add]; unfold pC; rw [List.getElem?_toArray]; exact f 0 _ rfl
  · rw [h.cell, Nat.zero_add]; unfold pC; rw [List.getElem?_toArray]; exact f 1 _ rfl
  · rw [h.cell, Nat.zero_add]; unfold pC; rw [List.getElem?_toArray]; exact f 2 _ rfl
theorem has_sn {w : World} {b : Nat} {l : List Snp} {t : TypeId} (h : Has w b (nC l) t) : Sn w (some ⟨b, 0, none⟩) l := fun j hj => by
  have f := flat_get sn3 3 (fun _ => rfl) l j _ (get_of default hj)
  refine ⟨b, 0, rfl, h.lt, ?_, ?_, ?_⟩
  · rw [h.cell, Nat.zero_add]; unfold nC; rw [List.getElem?_toArray]; exact f 0 _ rfl
  · rw [h.cell, Nat.zero_add]; unfold nC; rw [List.getElem?_toArray]; exact f 1 _ rfl
  · rw [h.cell, Nat.zero_add]; unfold nC; rw [List.getElem?_toArray]; exact f 2 _ rfl
/-! rows that are grown by append -/
theorem own_below {w w' : World} {B lo : Nat} {e : TypeId} {m n : Nat} {v : Value} {xs : List Value} (h : w.ownsRow lo e m v n xs) (hb : Below B w w') (hB : w.heap.size ≤ B) : w'.ownsRow lo e m v n xs := by
  refine ⟨h.1, ?_⟩
  rcases h.2 with hn | ⟨g, cap, cur, rfl, h1, h2, rest⟩
  · exact .inl hn
  · refine .inr ⟨g, cap, cur, rfl, h1, ?_, rest⟩
    rw [hb.block g (Nat.lt_of_lt_of_le (Array.getElem?_eq_some_iff.1 h2).1 hB)]
    exact h2
theorem own_mono {w : World} {lo lo' : Nat} {e : TypeId} {m n : Nat} {v : Value} {xs : List Value} (h : w.ownsRow lo e m v n xs) (hl : lo' ≤ lo) : w.ownsRow lo' e m v n xs := by
  refine ⟨h.1, ?_⟩
  rcases h.2 with hn | ⟨g, cap, cur, rfl, h1, rest⟩
  · exact .inl hn
  · exact .inr ⟨g, cap, cur, rfl, Nat.le_trans hl h1, rest⟩
theorem own_has {w : World} {lo : Nat} {e : TypeId} {m n : Nat} {v : Value} {xs : List Value} (h : w.ownsRow lo e m v n xs) {g : Nat} {cs : Array Value} {t : TypeId} (hg : Has w g cs t) (ht : t ≠ e) : v.ownBlock ≠ some g := by
  intro he
  rcases h.2 with ⟨rfl, _⟩ | ⟨g', cap, cur, rfl, _, hh, _⟩
  · simp [Value.ownBlock] at he
  · simp [Value.ownBlock] at he
    subst he
    unfold Has at hg
    rw [hh] at hg
    have := Option.some.inj hg
    simp at this
    exact ht this.2.symm
theorem Has.grown {w w' : World} {b : Nat} {cs : Array Value} {t : TypeId} {r : Option Nat} (h : Has w b cs t) (hg : w.grownBy w' r) (hr : r ≠ some b) : Has w' b cs t := by
  have hl := h.lt
  unfold Has at h ⊢
  rw [hg.block b hl (fun e => hr e.symm)]; exact h
/-- a row of texts that was grown -/
theorem own_tx {W : World} {b n : Nat} {e : TypeId} {v : Value} {l : List ByteArray} (h : W.ownsRow b e 1 v n (l.map Value.string)) : ∃ A cap, v = .slice A l.length cap ∧ n = l.length ∧ Tx W A l := by
  have hn : n = l.length := by have := h.1; simp at this; omega
  subst hn
  rcases h.2 with ⟨h1, h2⟩ | ⟨g, cap, cur, hv, hbg, hh, h1, h2, h3, h4⟩
  · have : l = [] := List.length_eq_zero_iff.1 h2
    subst this
    exact ⟨none, 0, h1, rfl, Tx.nil _ _⟩
  · refine ⟨_, cap, hv, rfl, fun j hj => ⟨g, 0, rfl, (Array.getElem?_eq_some_iff.1 hh).1, ?_⟩⟩
    have := h.cells (g := g) (by rw [hv]; rfl) j (.string (l.getD j ⟨#[]⟩)) (by rw [List.getElem?_map, get_of ⟨#[]⟩ hj]; rfl)
    rw [Nat.zero_add]
    have hadd : (⟨g, 0, none⟩ : Addr).add j = ⟨g, j, none⟩ := by unfold Addr.add; split <;> simp_all
    rwa [hadd] at this
/-- a row of places that was grown -/
theorem own_ps {W : World} {b n : Nat} {e : TypeId} {v : Value} {l : List Pl} (h : W.ownsRow b e 3 v n (l.flatMap pl3)) : ∃ A cap, v = .slice A l.length cap ∧ n = l.length ∧ Ps W A l := by
  have hn : n = l.length := by have := h.1; rw [flat_len pl3 3 (fun _ => rfl)] at this; omega
  subst hn
  rcases h.2 with ⟨h1, h2⟩ | ⟨g, cap, cur, hv, hbg, hh, _⟩
  · have : l = [] := List.length_eq_zero_iff.1 h2
    subst this
    exact ⟨none, 0, h1, rfl, Ps.nil _ _⟩
  · refine ⟨_, cap, hv, rfl, fun j hj => ?_⟩
    have f := flat_get pl3 3 (fun _ => rfl) l j _ (get_of default hj)
    have c : ∀ i u, (pl3 (l.getD j default))[i]? = some u → W.cell? ⟨g, 0 + j * 3 + i, none⟩ = some u := fun i u hu => by
      have := h.cells (g := g) (by rw [hv]; rfl) (j * 3 + i) u (f i u hu)
      have hadd : (⟨g, 0, none⟩ : Addr).add (j * 3 + i) = ⟨g, j * 3 + i, none⟩ := by unfold Addr.add; split <;> simp_all
      rw [hadd] at this
      rw [Nat.zero_add]; exact this
    exact ⟨g, 0, rfl, (Array.getElem?_eq_some_iff.1 hh).1, c 0 _ rfl, c 1 _ rfl, c 2 _ rfl⟩
end Go.Proofs.YtknddbmnciodaaaGreat

