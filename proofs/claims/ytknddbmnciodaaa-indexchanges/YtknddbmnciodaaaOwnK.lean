/- Two rows that are grown side by side. -/
import Derived.Test.YtknddbmnciodaaaMk
namespace Go.Proofs.Ytknddbmnciodaaa
open Go.RowKit
open Ix
set_option linter.unusedVariables false
theorem own_keep {w w' : World} {lo lo' : Nat} {e e' : TypeId} {m m' n n' : Nat} {v v' : Value} {xs xs' : List Value} (h : w.ownsRow lo e m v n xs) (h' : w.ownsRow lo' e' m' v' n' xs') (he : e ≠ e') (hg : w.grownBy w' v'.ownBlock) : w'.ownsRow lo e m v n xs := by
  refine ⟨h.1, ?_⟩
  rcases h.2 with hn | ⟨g, cap, cur, rfl, h1, h2, rest⟩
  · exact .inl hn
  · refine .inr ⟨g, cap, cur, rfl, h1, ?_, rest⟩
    rw [hg.block g (Array.getElem?_eq_some_iff.1 h2).1 (fun e0 => ?_)]
    · exact h2
    · rcases h'.2 with ⟨rfl, _⟩ | ⟨g', cap', cur', rfl, _, hh, _⟩
      · simp [Value.ownBlock] at e0
      · simp [Value.ownBlock] at e0
        subst e0
        rw [h2] at hh
        have := Option.some.inj hh
        simp at this
        exact he this.2
theorem pl_new (W : World) (y : Pl) : ∀ j u, (pl3 y)[j]? = some u → (W.alloc (.cells #[.string y.pack, .int .i64 y.at_, .int .i64 y.len] 37)).cell? ((⟨W.heap.size, 0, none⟩ : Addr).add j) = some u := fun j u hu => by
  have hadd : (⟨W.heap.size, 0, none⟩ : Addr).add j = ⟨W.heap.size, j, none⟩ := by unfold Addr.add; split <;> simp_all
  rw [hadd, (Has.new W _ #[.string y.pack, .int .i64 y.at_, .int .i64 y.len] 37 rfl).cell]
  have : (#[Value.string y.pack, Value.int .i64 y.at_, Value.int .i64 y.len] : Array Value) = (pl3 y).toArray := rfl
  rw [this, List.getElem?_toArray]; exact hu
theorem one_pl' (y : Pl) : ∀ u ∈ pl3 y, u.oneCell' = true := by
  intro u hx
  simp [pl3] at hx
  rcases hx with rfl | rfl | rfl <;> rfl
theorem flat_snoc {α : Type} (f : α → List Value) (L : List α) (x : α) : (L ++ [x]).flatMap f = L.flatMap f ++ f x := by simp
end Go.Proofs.Ytknddbmnciodaaa
