/- What the rows' lists give: the two tables hold what they are laid as; and a world for the witnesses. -/
import Derived.Test.YtjhjolnflkekoaaDoorCards
import Derived.Test.YtjhjolnflkekoaaDoorTie
import Derived.Test.YtjhjolnflkekoaaDoorSTurn
import Derived.WalkKit
import Derived.ProofKit
import Derived.OpenShut
import Derived.Deep.DeepHandedRow
import Derived.Lib.LaidTab
import Derived.Lib.SmallJoins
import Derived.Carry
import Derived.Test.YtjhjolnflkekoaaDoorRd
import Derived.SliceStrings
namespace Go.Proofs.YtjhjolnflkekoaaDoor.S
open Go.ChangeShapes Go.WideShapes Go.ChangeAt Go.RowKit Go.Joins Go.WideMaps Go.WideElems
theorem own : ownKnob Tryd.prog.godebug = none := by kernel_rfl
theorem gSq : Tryd.prog.globalNamed "strongbox/sha.squareRoots" = some 0 := by kernel_rfl
theorem gSqType : (Tryd.prog.globals[0]?).map (·.type) = some 65 := by kernel_rfl
theorem gCu : Tryd.prog.globalNamed "strongbox/sha.cubeRoots" = some 1 := by kernel_rfl
theorem gCuType : (Tryd.prog.globals[1]?).map (·.type) = some 93 := by kernel_rfl
theorem cells64 : Tryd.prog.cellsOf 64 = 1 := by kernel_rfl
theorem cells65 : Tryd.prog.cellsOf 65 = 8 := by kernel_rfl
theorem cells93 : Tryd.prog.cellsOf 93 = 64 := by kernel_rfl
theorem hasC_of_tab {W : World} {name : String} {k : IntKind} {zs : List Int} {g : Nat} (hg : Tryd.prog.globalNamed name = some g) (h : Lib.TabIs Tryd.prog W name k zs) : HasC W g (zs.map fun z => Value.int k z).toArray := by
  unfold Lib.TabIs World.var? at h
  rw [hg] at h
  simp only [Option.bind_some] at h
  cases hq : W.heap[g]? with
  | none => rw [hq] at h; simp at h
  | some o =>
    rw [hq] at h
    cases o with
    | cells cs t fr =>
      simp only [Option.some.injEq] at h
      subst h
      exact ⟨t, fr, hq⟩
    | _ => simp at h
theorem tail_met {P : Program} {x : String × DataW Unit} {rest : List (String × DataW Unit)} {W : World} (h : laidMet P (x :: rest) W) : ∃ ps, DataW.LaidVars P W rest ps := by
  obtain ⟨ps, ⟨g', t', cs, fuel, p, q, hg', ht', hvar, hd, hr, _⟩, _⟩ := h
  exact ⟨_, hr⟩
theorem tabIs_of_vars {P : Program} {W : World} {name : String} {k : IntKind} {zs : List Int} {rest : List (String × DataW Unit)} {ps : List MemPlace} {g : Nat} {t e : TypeId} {n : Nat}
    (hg : P.globalNamed name = some g) (hty : (P.globals[g]?).map (·.type) = some t) (ht : P.underlying t = some (.array n e)) (he : P.underlying e = some (.int k)) (hce : P.cellsOf e = 1) (hct : P.cellsOf t = n)
    (h : DataW.LaidVars P W ((name, Lib.tabData k zs) :: rest) ps) : Lib.TabIs P W name k zs := by
  obtain ⟨g', t', cs, fuel, p, q, hg', ht', hvar, hd, _, _⟩ := h
  obtain rfl := Option.some.inj (hg.symm.trans hg')
  obtain rfl := Option.some.inj (hty.symm.trans ht')
  unfold Lib.TabIs
  rw [hvar, ← Lib.cells_of_tab ht he hce hct hd]
/-- THE TABLES, off a row's list. -/
theorem tabs_of {W : World} (h : laidMetH Tryd.prog [("strongbox/sha.squareRoots", Rows.laid_strongbox_sha_squareRoots), ("strongbox/sha.cubeRoots", Rows.laid_strongbox_sha_cubeRoots)] W) : Tabs W := by
  have h0 : laidMet Tryd.prog [("strongbox/sha.squareRoots", Lib.tabData .u32 [1779033703, 3144134277, 1013904242, 2773480762, 1359893119, 2600822924, 528734635, 1541459225]), ("strongbox/sha.cubeRoots", Lib.tabData .u32 (Sha.cube.map fun x : Nat => (x : Int)))] W := h
  have t1 := Lib.tabIs_of_head gSq gSqType Tryd.underlying65 Tryd.underlying64 cells64 cells65 h0
  obtain ⟨ps, hr⟩ := tail_met h0
  have t2 := tabIs_of_vars gCu gCuType Tryd.underlying93 Tryd.underlying64 cells64 cells93 hr
  refine ⟨hasC_of_tab gSq t1, ?_⟩
  have h2 := hasC_of_tab gCu t2
  have e : ((Sha.cube.map fun x : Nat => (x : Int)).map fun z => Value.int .u32 z).toArray = U32s Sha.cube := by
    unfold U32s; rw [List.map_map]; rfl
  rw [e] at h2; exact h2
/-- a block with these cells in it -/
def layCells (cs : Array Value) : Obj → Obj
  | .cells _ t fr => .cells cs t fr
  | o => o
/-- A WORLD FOR THE WITNESSES: the settled one, the tables holding what their initialisers lay. -/
noncomputable def laidWorld (os : Os) : World :=
  { World.holding Tryd.prog os ⟨#[], #[], []⟩ with heap := ((World.holding Tryd.prog os ⟨#[], #[], []⟩).heap.modify 0 (layCells (S8v Sha.init))).modify 1 (layCells (U32s Sha.cube)) }
theorem laidOut : laidOutB Tryd.prog = true := by kernel_rfl
end Go.Proofs.YtjhjolnflkekoaaDoor.S
/- What is handed in: lists of texts, as they are read. -/
namespace Go.Proofs.YtjhjolnflkekoaaDoor
open Go.ChangeShapes Go.WideShapes Go.ChangeAt Go.RowKit Go.Joins Go.WideMaps Go.WideElems
set_option linter.unusedVariables false
theorem own : ownKnob Tryd.prog.godebug = none := by kernel_rfl
theorem laidOut : laidOutB Tryd.prog = true := by kernel_rfl
theorem cells9 : Tryd.prog.cellsOf 9 = 1 := by kernel_rfl
theorem open_texts {H : Type} {enc : TypeId × Value → H} {W : World} {b0 : Nat} {v : Value} {d : DataW H} {p : List MemPlace} (hv : Value.okWide Tryd.prog W .any b0 22 v) (h : DataW.Trod enc Tryd.prog W 0 (fun _ => true) true 22 v d p) :
    ∃ (ss : List ByteArray) (A : Option Addr) (cap : Nat), v = .slice A ss.length cap ∧ ss.length ≤ cap ∧ ss.length ≤ 9223372036854775807 ∧ Tx W A ss ∧ (d = .nil ∨ ∃ more, d = .slice (strs ss) more) ∧ (d = .nil → ss = []) := by
  obtain ⟨a0, len, cap, rfl⟩ := okWide_slice Tryd.underlying22 hv
  obtain ⟨fuel, hf⟩ := h
  rcases open_strings Tryd.underlying22 Tryd.underlying9 cells9 hf with ⟨hcs, hx⟩ | ⟨a, len', cap', ss, hcs, hlc, hl, hm, hz, hx, hcell, hws⟩
  · simp [Value.cells] at hcs
    obtain ⟨rfl, rfl, rfl⟩ := hcs
    exact ⟨[], none, 0, rfl, Nat.le_refl _, by simp, Tx.nil _ _, .inl (congrArg Prod.fst hx), fun _ => rfl⟩
  · simp [Value.cells] at hcs
    obtain ⟨rfl, rfl, rfl⟩ := hcs
    have e : d = .slice (strs (ss.take len)) (strs (ss.drop len)) := congrArg Prod.fst hx
    have hlen : len ≤ ss.length := by rw [hz]; split <;> omega
    have hlm : (ss.take len).length = len := by simp; omega
    refine ⟨ss.take len, some a, cap, by rw [hlm], by rw [hlm]; omega, by rw [hlm]; unfold maxLen at hm; omega, fun j hj => ?_, .inr ⟨_, e⟩, fun h => by rw [e] at h; cases h⟩
    rw [hlm] at hj
    obtain ⟨b, off, spot⟩ := a
    have hspot : spot = none := by simpa [Addr.add] using World.cell?_spot (hcell 0 (by omega))
    subst hspot
    have hcb : ∀ i, i < ss.length → W.cell? ⟨b, off + i, none⟩ = some (.string (ss.getD i ByteArray.empty)) := fun i hi => by rw [← Go.WideShapes.add_plain]; exact hcell i hi
    refine ⟨b, off, rfl, World.block_lt_of_cell? (h := hcb 0 (by omega)), ?_⟩
    rw [hcb j (by omega), List.getD_eq_getElem?_getD, List.getD_eq_getElem?_getD, List.getElem?_take, if_pos (by omega)]
    rfl
theorem weights_strs {H : Type} {P : Program} {e : TypeId} : ∀ (l : List ByteArray) (s : ByteArray), s ∈ l → s.size ∈ DataW.weightsAll P e (strs l : List (DataW H))
  | [], _, h => by cases h
  | a :: r, s, h => by
    simp only [strs, List.map_cons, DataW.weightsAll, DataW.weights, List.mem_append, List.mem_singleton]
    rcases List.mem_cons.1 h with rfl | h
    · exact .inl rfl
    · exact .inr (weights_strs r s h)
theorem sized_strs {H : Type} {P : Program} {ts : List TypeId} {ds : List (DataW H)} (h : (DataW.weightsEach P ts ds).all (· ≤ reachBytes) = true) {j : Nat} {t e : TypeId} {l : List ByteArray} {spare : List (DataW H)} (ht : ts[j]? = some t) (hd : ds[j]? = some (.slice (strs l) spare)) (hu : P.underlying t = some (.slice e)) (s : ByteArray) (hs : s ∈ l) : s.size ≤ reachBytes := by
  have := List.all_eq_true.1 h _ (DataW.weights_mem_each ht hd s.size (by simp only [DataW.weights, hu, List.mem_cons, List.mem_append]; exact .inr (.inl (weights_strs l s hs))))
  simpa using this
end Go.Proofs.YtjhjolnflkekoaaDoor
