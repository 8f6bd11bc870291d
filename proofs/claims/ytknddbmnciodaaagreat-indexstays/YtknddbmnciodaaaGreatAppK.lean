/- Two rows of chunks, one behind the other. -/
import Derived.Test.YtknddbmnciodaaaGreatApp
import Derived.Test.YtknddbmnciodaaaGreatRow
import Derived.Test.YtknddbmnciodaaaGreatCks
namespace Go.Proofs.YtknddbmnciodaaaGreat
open Go.RowKit Go.Lib Go.Sort
open Ix
set_option linter.unusedVariables false
theorem app_chunks (ty : TypeId) (L N : List En) (q g : Nat) (w : World) (hn : L.length ≤ 100000) (hm : N.length ≤ 100000) (h0 : 0 < N.length) (hL : Has w q (kC L) 61) (hN : Has w g (kC N) 61) :
    ∃ b c w', (Builtin.append_ #[57, 57] ty #[.slice (some ⟨q, 0, none⟩) L.length L.length, .slice (some ⟨g, 0, none⟩) N.length N.length]).run Tryz.prog w = .ok (.slice (some ⟨b, 0, none⟩) (L.length + N.length) c) w' ∧ w.heap.size ≤ b ∧ b < w'.heap.size ∧ Rw ck4 4 w' b (L ++ N) ∧ Below w.heap.size w w' := by
  obtain ⟨i, hi, h1, h2, h3⟩ := info_parts info53z
  have hcell : ∀ {b : Nat} {M : List En}, Has w b (kC M) 61 → ∀ j v, (M.flatMap ck4)[j]? = some v → w.cell? ((⟨b, 0, none⟩ : Addr).add j) = some v := fun {b M} hb j v hj => by
    have hadd : (⟨b, 0, none⟩ : Addr).add j = ⟨b, j, none⟩ := by unfold Addr.add; split <;> simp_all
    rw [hadd, hb.cell]; unfold kC; rw [List.getElem?_toArray]; exact hj
  have hr := run_append_grow (P := Tryz.prog) w 57 ty 61 i _ Tryz.underlying57 hi h1 ⟨q, 0, none⟩ L.length L.length (L.flatMap ck4) (by rw [h2]; exact flat_len ck4 4 (fun _ => rfl) L) (hcell hL) ⟨g, 0, none⟩ N.length N.length (N.flatMap ck4) (by rw [h2]; exact flat_len ck4 4 (fun _ => rfl) N) (hcell hN) (by omega) (by omega) (growslice_fits (by omega) (by rw [h3]; omega))
  refine ⟨_, _, _, hr, Nat.le_refl _, ?_, ?_, (Below.refl _ w).drew.alloc (Nat.le_refl _) _⟩
  · simp
  · have hh : Has (w.drew.alloc (.cells ((L.flatMap ck4).toArray ++ (N.flatMap ck4).toArray ++ Builtin.zeroCells (Value.agg #[.string ⟨#[]⟩, .string ⟨#[]⟩, .int .i64 0, .int .i64 0]).cells (grownCap w (L.length + N.length) L.length 61 - (L.length + N.length))) 61)) w.heap.size ((L.flatMap ck4).toArray ++ (N.flatMap ck4).toArray ++ Builtin.zeroCells (Value.agg #[.string ⟨#[]⟩, .string ⟨#[]⟩, .int .i64 0, .int .i64 0]).cells (grownCap w (L.length + N.length) L.length 61 - (L.length + N.length))) 61 := Has.new _ _ _ _ (by simp)
    intro k x hx i' u hu
    refine ⟨?_, hh.frozen _⟩
    rw [hh.cell]
    have hf := flat_get ck4 4 (fun _ => rfl) (L ++ N) k x hx i' u hu
    have hlt := (List.getElem?_eq_some_iff.1 hf).1
    rw [List.flatMap_append] at hf hlt
    rw [Array.getElem?_append_left (by simpa using hlt)]
    simpa using hf
end Go.Proofs.YtknddbmnciodaaaGreat

