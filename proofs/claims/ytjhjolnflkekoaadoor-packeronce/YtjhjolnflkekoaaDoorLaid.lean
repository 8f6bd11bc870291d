/- What the rows' lists give: the two tables hold what they are laid as; and a world for the witnesses. -/
import Derived.Test.YtjhjolnflkekoaaDoorCards
import Derived.Test.YtjhjolnflkekoaaDoorTie
import Derived.Test.YtjhjolnflkekoaaDoorSAid
import Derived.WalkKit
import Derived.ProofKit
import Derived.OpenShut
import Derived.Deep.DeepHandedRow
import Derived.Lib.LaidTab
import Derived.Lib.SmallJoins
import Derived.Carry
namespace Go.Proofs.YtjhjolnflkekoaaDoor.S
open Go.ChangeShapes Go.WideShapes Go.ChangeAt Go.RowKit Go.Joins Go.WideMaps Go.WideElems
theorem own : ownKnob Tryd.prog.godebug = none := by kernel_rfl
theorem gSq : Tryd.prog.globalNamed "strongbox/sha.squareRoots" = some 0 := by kernel_rfl
theorem gSqType : (Tryd.prog.globals[0]?).map (·.type) = some 65 := by kernel_rfl
theorem gCu : Tryd.prog.globalNamed "strongbox/sha.cubeRoots" = some 1 := by kernel_rfl
theorem gCuType : (Tryd.prog.globals[1]?).map (·.type) = some 93 := by kernel_rfl
theorem cells64 : Tryd.prog.cellsOf 64 = 1 := by kernel_rfl
theorem cells65 : Tryd.prog.cellsOf 65 = 8 := by kernel_rfl
theorem cells93 : Tryd.prog.cellsOf 93 = 64 := by kernel_rfl
theorem hasC_of_tab {W : World} {name : String} {k : IntKind} {zs : List Int} {g : Nat} (hg : Tryd.prog.globalNamed name = some g) (h : Lib.TabIs Tryd.prog W name k zs) : HasC W g (zs.map fun z => Value.int k z).toArray := by
  unfold Lib.TabIs World.var? at h
  rw [hg] at h
  simp only [Option.bind_some] at h
  cases hq : W.heap[g]? with
  | none => rw [hq] at h; simp at h
  | some o =>
    rw [hq] at h
    cases o with
    | cells cs t fr =>
      simp only [Option.some.injEq] at h
      subst h
      exact ⟨t, fr, hq⟩
    | _ => simp at h
theorem tail_met {P : Program} {x : String × DataW Unit} {rest : List (String × DataW Unit)} {W : World} (h : laidMet P (x :: rest) W) : ∃ ps, DataW.LaidVars P W rest ps := by
  obtain ⟨ps, ⟨g', t', cs, fuel, p, q, hg', ht', hvar, hd, hr, _⟩, _⟩ := h
  exact ⟨_, hr⟩
theorem tabIs_of_vars {P : Program} {W : World} {name : String} {k : IntKind} {zs : List Int} {rest : List (String × DataW Unit)} {ps : List MemPlace} {g : Nat} {t e : TypeId} {n : Nat}
    (hg : P.globalNamed name = some g) (hty : (P.globals[g]?).map (·.type) = some t) (ht : P.underlying t = some (.array n e)) (he : P.underlying e = some (.int k)) (hce : P.cellsOf e = 1) (hct : P.cellsOf t = n)
    (h : DataW.LaidVars P W ((name, Lib.tabData k zs) :: rest) ps) : Lib.TabIs P W name k zs := by
  obtain ⟨g', t', cs, fuel, p, q, hg', ht', hvar, hd, _, _⟩ := h
  obtain rfl := Option.some.inj (hg.symm.trans hg')
  obtain rfl := Option.some.inj (hty.symm.trans ht')
  unfold Lib.TabIs
  rw [hvar, ← Lib.cells_of_tab ht he hce hct hd]
/-- THE TABLES, off a row's list. -/
theorem tabs_of {W : World} (h : laidMetH Tryd.prog [("strongbox/sha.squareRoots", Rows.laid_strongbox_sha_squareRoots), ("strongbox/sha.cubeRoots", Rows.laid_strongbox_sha_cubeRoots)] W) : Tabs W := by
  have h0 : laidMet Tryd.prog [("strongbox/sha.squareRoots", Lib.tabData .u32 [1779033703, 3144134277, 1013904242, 2773480762, 1359893119, 2600822924, 528734635, 1541459225]), ("strongbox/sha.cubeRoots", Lib.tabData .u32 (Sha.cube.map fun x : Nat => (x : Int)))] W := h
  have t1 := Lib.tabIs_of_head gSq gSqType Tryd.underlying65 Tryd.underlying64 cells64 cells65 h0
  obtain ⟨ps, hr⟩ := tail_met h0
  have t2 := tabIs_of_vars gCu gCuType Tryd.underlying93 Tryd.underlying64 cells64 cells93 hr
  refine ⟨hasC_of_tab gSq t1, ?_⟩
  have h2 := hasC_of_tab gCu t2
  have e : ((Sha.cube.map fun x : Nat => (x : Int)).map fun z => Value.int .u32 z).toArray = U32s Sha.cube := by
    unfold U32s; rw [List.map_map]; rfl
  rw [e] at h2; exact h2
/-- a block with these cells in it -/
def layCells (cs : Array Value) : Obj → Obj
  | .cells _ t fr => .cells cs t fr
  | o => o
/-- A WORLD FOR THE WITNESSES: the settled one, the tables holding what their initialisers lay. -/
noncomputable def laidWorld (os : Os) : World :=
  { World.holding Tryd.prog os ⟨#[], #[], []⟩ with heap := ((World.holding Tryd.prog os ⟨#[], #[], []⟩).heap.modify 0 (layCells (S8v Sha.init))).modify 1 (layCells (U32s Sha.cube)) }
theorem laidOut : laidOutB Tryd.prog = true := by kernel_rfl
end Go.Proofs.YtjhjolnflkekoaaDoor.S
