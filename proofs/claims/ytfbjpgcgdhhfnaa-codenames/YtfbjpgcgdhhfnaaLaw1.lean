/- What the statements ask of a matrix: whether it is long; a copy of it; the same, and written over. -/
import Derived.Test.YtfbjpgcgdhhfnaaOw
import Derived.Test.YtfbjpgcgdhhfnaaProg1
namespace Go.Proofs.Ytfbjpgcgdhhfnaa
open Go.RowKit
theorem WrAt.of {base top T n : Nat} {w w' : World} (h : WrAt base top T n w) (hT : w'.heap[T]? = w.heap[T]?) (hk : ∀ b, base ≤ b → b < top → w'.heap[b]? = w.heap[b]?) : WrAt base top T n w' := by
  intro j hj
  obtain ⟨b, k, c, e1, e2, e3⟩ := h j hj
  refine ⟨b, k, c, by rw [cell_of hT]; exact e1, e2, fun hp => ?_⟩
  obtain ⟨g, r1, r2, r3, r4, r5⟩ := e3 hp
  refine ⟨g, r1, r2, r3, r4, fun i hi => ?_⟩
  rw [cell_of (hk g r2 r3), frozen_of (hk g r2 r3)]
  exact r5 i hi
theorem byte_set {w : World} {a b : Addr} {x : Nat} (hx : x < 256) (h : ∃ y : Nat, y < 256 ∧ w.cell? a = some (.int .u8 (y : Int))) : ∃ y : Nat, y < 256 ∧ (w.setCell b (.int .u8 (x : Int))).cell? a = some (.int .u8 (y : Int)) := by
  obtain ⟨y, hy, h⟩ := h
  by_cases hab : b = a
  · subst hab; exact ⟨x, hx, World.cell?_setCell_same _ _ _ h⟩
  · exact ⟨y, hy, by rw [World.cell?_setCell_other _ _ _ _ hab]; exact h⟩
theorem WrAt.set {base top T n : Nat} {w : World} (h : WrAt base top T n w) {g i x : Nat} (hg : g ≠ T) (hx : x < 256) : WrAt base top T n (w.setCell ⟨g, i, none⟩ (.int .u8 (x : Int))) := by
  intro j hj
  obtain ⟨b, k, c, h1, h2, h3⟩ := h j hj
  refine ⟨b, k, c, ?_, h2, fun hk => ?_⟩
  · rw [World.cell?_setCell_far _ _ _ _ hg]; exact h1
  · obtain ⟨g', rfl, hb, ht, hn, hc⟩ := h3 hk
    exact ⟨g', rfl, hb, ht, hn, fun i hi => ⟨byte_set hx (hc i hi).1, by rw [World.frozen?_setCell]; exact (hc i hi).2⟩⟩
end Go.Proofs.Ytfbjpgcgdhhfnaa
