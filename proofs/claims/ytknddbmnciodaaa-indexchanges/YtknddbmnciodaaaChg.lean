/- What comes of a call that gives a state: read, and written over. -/
import Derived.Test.YtknddbmnciodaaaAdd
import Derived.Test.YtknddbmnciodaaaDrop
import Derived.Test.YtknddbmnciodaaaRDrop
import Derived.Test.YtknddbmnciodaaaSame
namespace Go.Proofs.Ytknddbmnciodaaa
open Go.RowKit
open Ix
set_option linter.unusedVariables false
/-- no state -/
def stN : St := ⟨0, 0, 0, [], [], []⟩
/-- the state of an answer -/
def resS (s : St) (er : Int) : St := if er = 0 then s else stN
theorem stV_none : stV stN none none none 0 0 0 = stZ := rfl
/-- rows of the call's own, of n chunks and their places: they can be written over -/
structure Wr (W : World) (lo hi n : Nat) (A1 A2 : Option Addr) : Prop where
  ex : 0 < n → ∃ g1 g2 cs1 cs2, A1 = some ⟨g1, 0, none⟩ ∧ A2 = some ⟨g2, 0, none⟩ ∧ lo ≤ g1 ∧ lo ≤ g2 ∧ g1 < hi ∧ g2 < hi ∧ Has W g1 cs1 9 ∧ cs1.size = n ∧ Has W g2 cs2 37 ∧ cs2.size = n * 3
theorem Wr.below {W W' : World} {lo hi n : Nat} {A1 A2 : Option Addr} (h : Wr W lo hi n A1 A2) (hb : Below W.heap.size W W') : Wr W' lo hi n A1 A2 := ⟨fun h0 => by
  obtain ⟨g1, g2, cs1, cs2, e1, e2, l1, l2, u1, u2, h1, s1, h2, s2⟩ := h.ex h0
  exact ⟨g1, g2, cs1, cs2, e1, e2, l1, l2, u1, u2, h1.below hb h1.lt, s1, h2.below hb h2.lt, s2⟩⟩
theorem Wr.hi {W : World} {lo hi n : Nat} {A1 A2 : Option Addr} (h : Wr W lo hi n A1 A2) {hi' : Nat} (hh : hi ≤ hi') : Wr W lo hi' n A1 A2 := ⟨fun h0 => by
  obtain ⟨g1, g2, cs1, cs2, e1, e2, l1, l2, u1, u2, h1, s1, h2, s2⟩ := h.ex h0
  exact ⟨g1, g2, cs1, cs2, e1, e2, l1, l2, by omega, by omega, h1, s1, h2, s2⟩⟩
/-- another's blocks are written over -/
theorem Wr.apart {W : World} {lo hi n : Nat} {A1 A2 : Option Addr} (h : Wr W lo hi n A1 A2) {b o : Nat} {u : Value} (hb : b < lo ∨ hi ≤ b) : Wr (W.setCell ⟨b, o, none⟩ u) lo hi n A1 A2 := ⟨fun h0 => by
  obtain ⟨g1, g2, cs1, cs2, e1, e2, l1, l2, u1, u2, h1, s1, h2, s2⟩ := h.ex h0
  exact ⟨g1, g2, cs1, cs2, e1, e2, l1, l2, u1, u2, h1.other _ _ (show g1 ≠ b by omega), s1, h2.other _ _ (show g2 ≠ b by omega), s2⟩⟩
/-- the digest at k is written over -/
theorem Wr.dig {W : World} {lo hi n : Nat} {A1 A2 : Option Addr} (h : Wr W lo hi n A1 A2) {k : Nat} (hk : k < n) : ∃ g1, A1 = some ⟨g1, 0, none⟩ ∧ lo ≤ g1 ∧ g1 < hi ∧ g1 < W.heap.size ∧ (∃ v, W.cell? ⟨g1, k, none⟩ = some v) ∧ W.frozen? ⟨g1, k, none⟩ = false ∧ ∀ u, Wr (W.setCell ⟨g1, k, none⟩ u) lo hi n A1 A2 := by
  obtain ⟨g1, g2, cs1, cs2, e1, e2, l1, l2, u1, u2, h1, s1, h2, s2⟩ := h.ex (by omega)
  have hne : g2 ≠ g1 := fun x => by subst x; unfold Has at h1 h2; rw [h1] at h2; cases h2
  exact ⟨g1, e1, l1, u1, h1.lt, ⟨_, by rw [h1.cell]; exact Array.getElem?_eq_getElem (by omega)⟩, h1.frozen k, fun u => ⟨fun _ => ⟨g1, g2, _, cs2, e1, e2, l1, l2, u1, u2, h1.set k u, by simp [s1], h2.other _ _ hne, s2⟩⟩⟩
/-- where the chunk at k stands is written over -/
theorem Wr.pla {W : World} {lo hi n : Nat} {A1 A2 : Option Addr} (h : Wr W lo hi n A1 A2) {k : Nat} (hk : k < n) : ∃ g2, A2 = some ⟨g2, 0, none⟩ ∧ lo ≤ g2 ∧ g2 < hi ∧ g2 < W.heap.size ∧ (∃ v, W.cell? ⟨g2, k * 3 + 1, none⟩ = some v) ∧ W.frozen? ⟨g2, k * 3 + 1, none⟩ = false ∧ ∀ u, Wr (W.setCell ⟨g2, k * 3 + 1, none⟩ u) lo hi n A1 A2 := by
  obtain ⟨g1, g2, cs1, cs2, e1, e2, l1, l2, u1, u2, h1, s1, h2, s2⟩ := h.ex (by omega)
  have hne : g1 ≠ g2 := fun x => by subst x; unfold Has at h1 h2; rw [h1] at h2; cases h2
  exact ⟨g2, e2, l2, u2, h2.lt, ⟨_, by rw [h2.cell]; exact Array.getElem?_eq_getElem (by omega)⟩, h2.frozen _, fun u => ⟨fun _ => ⟨g1, g2, cs1, _, e1, e2, l1, l2, u1, u2, h1.other _ _ hne, s1, h2.set _ u, by simp [s2]⟩⟩⟩
/-- what is answered, read -/
theorem Comes.read {w W : World} {v : Array Value} {s : St} {er : Int} (h : Comes w v s er W) : ∃ A0 A1 A2 e0 e1 e2, v = stV (resS s er) A0 A1 A2 e0 e1 e2 ∧ Sn W A0 (resS s er).sn ∧ Tx W A1 (resS s er).C ∧ Ps W A2 (resS s er).P := by
  unfold resS
  by_cases he : er = 0
  · rw [if_pos he]; exact h.yes he
  · rw [if_neg he]; exact ⟨none, none, none, 0, 0, 0, (h.no he).trans stV_none.symm, Sn.nil _ _, Tx.nil _ _, Ps.nil _ _⟩
theorem Gives.read {w W : World} {v : Array Value} {s : St} {er : Int} (h : Gives w v s er W) (hl : s.C.length = s.P.length) :
    ∃ A0 A1 A2 e0 e1 e2, v = stV (resS s er) A0 A1 A2 e0 e1 e2 ∧ Sn W A0 (resS s er).sn ∧ Tx W A1 (resS s er).C ∧ Ps W A2 (resS s er).P ∧ Wr W w.heap.size W.heap.size (resS s er).C.length A1 A2 ∧ (resS s er).C.length = (resS s er).P.length := by
  unfold resS
  by_cases he : er = 0
  · rw [if_pos he]
    obtain ⟨g0, g1, g2, rfl, l0, l1, l2, h0, h1, h2⟩ := (h.yes he).rows
    refine ⟨_, _, _, _, _, _, rfl, ?_, ?_, ?_, ⟨fun _ => ⟨g1, g2, _, _, rfl, rfl, l1, l2, h1.lt, h2.lt, h1, sTx_size _, h2, by rw [pC_size, hl]⟩⟩, hl⟩
    · intro j hj
      obtain ⟨c0, c1, c2⟩ := nC_cells h0 j hj
      exact ⟨g0, 0, rfl, h0.lt, by rw [Nat.zero_add]; exact c0, by rw [Nat.zero_add]; exact c1, by rw [Nat.zero_add]; exact c2⟩
    · intro j hj
      refine ⟨g1, 0, rfl, h1.lt, ?_⟩
      rw [Nat.zero_add, h1.cell]
      unfold sTx
      rw [List.getElem?_toArray, List.getElem?_map, get_of _ hj]
      rfl
    · intro j hj
      have f := has_rw (f := pl3) (m := 3) (fun _ => rfl) h2 j _ (get_of default hj)
      exact ⟨g2, 0, rfl, h2.lt, by rw [Nat.zero_add]; exact (f 0 _ rfl).1, by rw [Nat.zero_add]; exact (f 1 _ rfl).1, by rw [Nat.zero_add]; exact (f 2 _ rfl).1⟩
  · rw [if_neg he]; exact ⟨none, none, none, 0, 0, 0, (h.no he).trans stV_none.symm, Sn.nil _ _, Tx.nil _ _, Ps.nil _ _, ⟨fun h => absurd h (by simp [stN])⟩, rfl⟩
end Go.Proofs.Ytknddbmnciodaaa
