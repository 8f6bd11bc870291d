/- Rows that are read stand past a state that is written over. -/
import Derived.Test.YtknddbmnciodaaaGrow
namespace Go.Proofs.Ytknddbmnciodaaa
open Go.RowKit
open Ix
set_option linter.unusedVariables false
theorem stZ_no {w : World} {b r : Nat} {s : ByteArray} (h : Has w b stZ 28) (hc : w.cell? ⟨b, r, none⟩ = some (.string s)) : False := by
  rw [h.cell] at hc
  unfold stZ at hc
  rcases r with _ | _ | _ | _ | _ | _ | r <;> simp at hc
theorem onl_put6 (b : Nat) (w : World) (v0 v1 v2 v3 v4 v5 : Value) : Onl b w ((((((w.setCell ⟨b, 0, none⟩ v0).setCell ⟨b, 1, none⟩ v1).setCell ⟨b, 2, none⟩ v2).setCell ⟨b, 3, none⟩ v3).setCell ⟨b, 4, none⟩ v4).setCell ⟨b, 5, none⟩ v5) :=
  (((((Onl.set b 0 v0 w).trans (Onl.set b 1 v1 _)).trans (Onl.set b 2 v2 _)).trans (Onl.set b 3 v3 _)).trans (Onl.set b 4 v4 _)).trans (Onl.set b 5 v5 _)
theorem tx_past {w W : World} {b : Nat} {A : Option Addr} {l : List ByteArray} (h : Tx w A l) (hb : Has w b stZ 28) (ho : Onl b w W) : Tx W A l := fun j hj => by
  obtain ⟨g, o, e, hg, hc⟩ := h j hj
  have hne : g ≠ b := fun x => by subst x; exact stZ_no hb hc
  exact ⟨g, o, e, Nat.lt_of_lt_of_le hg ho.size, by rw [World.cell?_of_block (a := ⟨g, o + j, none⟩) (ho.block g hg hne)]; exact hc⟩
theorem ps_past {w W : World} {b : Nat} {A : Option Addr} {l : List Pl} (h : Ps w A l) (hb : Has w b stZ 28) (ho : Onl b w W) : Ps W A l := fun j hj => by
  obtain ⟨g, o, e, hg, h1, h2, h3⟩ := h j hj
  have hne : g ≠ b := fun x => by subst x; exact stZ_no hb h1
  have hk : ∀ r, W.cell? ⟨g, r, none⟩ = w.cell? ⟨g, r, none⟩ := fun r => World.cell?_of_block (a := ⟨g, r, none⟩) (ho.block g hg hne)
  exact ⟨g, o, e, Nat.lt_of_lt_of_le hg ho.size, by rw [hk]; exact h1, by rw [hk]; exact h2, by rw [hk]; exact h3⟩
end Go.Proofs.Ytknddbmnciodaaa
