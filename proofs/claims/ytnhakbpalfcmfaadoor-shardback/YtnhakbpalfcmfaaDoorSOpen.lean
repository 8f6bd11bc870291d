/- Shards and objects, as they are handed in. -/
import Derived.Test.YtnhakbpalfcmfaaDoorCards
import Derived.Test.YtnhakbpalfcmfaaDoorTie
import Derived.Test.YtnhakbpalfcmfaaDoorSName
import Derived.WalkKit
import Derived.ProofKit
import Derived.OpenShut
import Derived.Deep.DeepHandedRow
import Derived.Lib.LaidTab
import Derived.Lib.SmallJoins
import Derived.Stop.LaidErr
import Derived.Test.YtnhakbpalfcmfaaDoorSWrit
import Derived.Carry
/- What the rows' lists give: the tables and the errors hold what they are laid as; a world for the witnesses; shards and objects as they are handed in. -/
namespace Go.Proofs.YtnhakbpalfcmfaaDoor
open Go.ChangeShapes Go.WideShapes Go.ChangeAt Go.RowKit
theorem own : ownKnob Tryd.prog.godebug = none := by kernel_rfl
theorem laidOut : laidOutB Tryd.prog = true := by kernel_rfl
theorem gSq : Tryd.prog.globalNamed "strongbox/sha.squareRoots" = some 0 := by kernel_rfl
theorem gSqType : (Tryd.prog.globals[0]?).map (·.type) = some 76 := by kernel_rfl
theorem gCu : Tryd.prog.globalNamed "strongbox/sha.cubeRoots" = some 4 := by kernel_rfl
theorem gCuType : (Tryd.prog.globals[4]?).map (·.type) = some 115 := by kernel_rfl
theorem gPowType : (Tryd.prog.globals[5]?).map (·.type) = some 129 := by kernel_rfl
theorem gSynType : (Tryd.prog.globals[2]?).map (·.type) = some 56 := by kernel_rfl
theorem cells75 : Tryd.prog.cellsOf 75 = 1 := by kernel_rfl
theorem cells76 : Tryd.prog.cellsOf 76 = 8 := by kernel_rfl
theorem cells115 : Tryd.prog.cellsOf 115 = 64 := by kernel_rfl
theorem cells98 : Tryd.prog.cellsOf 98 = 1 := by kernel_rfl
theorem cells129 : Tryd.prog.cellsOf 129 = 20 := by kernel_rfl
theorem cells127 : Tryd.prog.cellsOf 127 = 1 := by kernel_rfl
theorem cells9 : Tryd.prog.cellsOf 9 = 1 := by kernel_rfl
theorem star : "*" ++ "errors.errorString" = "*errors.errorString" := by decide
theorem row125 (u : TypeId) (h : Tryd.prog.typeName? 3 u = some "*errors.errorString") : u = 125 :=
  typeName_ptr_named (nm := "errors.errorString") (by rw [star]; kernel_rfl) (by kernel_rfl) (by decide) u (by rw [star]; exact h)
theorem hasC_of_var {W : World} {name : String} {cs : Array Value} {g : Nat} (hg : Tryd.prog.globalNamed name = some g) (h : W.var? Tryd.prog name = some cs) : HasC W g cs := by
  unfold World.var? at h
  rw [hg] at h
  simp only [Option.bind_some] at h
  cases hq : W.heap[g]? with
  | none => rw [hq] at h; simp at h
  | some o =>
    rw [hq] at h
    cases o with
    | cells cs t fr =>
      simp only [Option.some.injEq] at h
      subst h
      exact ⟨t, fr, hq⟩
    | _ => simp at h
/-- THE TABLES AND THE ERRORS, off a row's list. -/
theorem lay_of {W : World} (h : laidMetH Tryd.prog [("math/bits.deBruijn32tab", Rows.laid_math_bits_deBruijn32tab), ("math/bits.deBruijn64tab", Rows.laid_math_bits_deBruijn64tab), ("internal/strconv.uint64pow10", Rows.laid_internal_strconv_uint64pow10), ("strconv.ErrRange", Rows.laid_strconv_ErrRange), ("strconv.ErrSyntax", Rows.laid_strconv_ErrSyntax), ("strongbox/sha.squareRoots", Rows.laid_strongbox_sha_squareRoots), ("strongbox/sha.cubeRoots", Rows.laid_strongbox_sha_cubeRoots)] W) : Lay W := by
  have h0 : laidMet Tryd.prog [("math/bits.deBruijn32tab", Rows.laid_math_bits_deBruijn32tab), ("math/bits.deBruijn64tab", Rows.laid_math_bits_deBruijn64tab), ("internal/strconv.uint64pow10", Lib.tabData .u64 Lib.pow10Tab), ("strconv.ErrRange", Rows.laid_strconv_ErrRange), ("strconv.ErrSyntax", Rows.laid_strconv_ErrSyntax), ("strongbox/sha.squareRoots", Lib.tabData .u32 [1779033703, 3144134277, 1013904242, 2773480762, 1359893119, 2600822924, 528734635, 1541459225]), ("strongbox/sha.cubeRoots", Lib.tabData .u32 (Sha.cube.map fun x : Nat => (x : Int)))] W := h
  have h2 := h0.tail.tail
  have t1 := Lib.tabIs_of_head gPow gPowType Tryd.underlying129 Tryd.underlying98 cells98 cells129 h2
  have h4 := h2.tail.tail
  obtain ⟨a0, s0, hv0, -, -, -⟩ := laid_sentinel h4 gSyn gSynType Tryd.underlying56 row125 Tryd.underlying125 Tryd.underlying127 rfl rfl Tryd.underlying9 cells127 cells9
  have h5 := h4.tail
  have t2 := Lib.tabIs_of_head gSq gSqType Tryd.underlying76 Tryd.underlying75 cells75 cells76 h5
  have t3 := Lib.tabIs_of_head gCu gCuType Tryd.underlying115 Tryd.underlying75 cells75 cells115 h5.tail
  refine ⟨⟨hasC_of_var gSq t2, ?_⟩, hasC_of_var gPow t1, _, _, hasC_of_var gSyn hv0⟩
  have h6 := hasC_of_var gCu t3
  have e : ((Sha.cube.map fun x : Nat => (x : Int)).map fun z => Value.int .u32 z).toArray = U32s Sha.cube := by
    unfold U32s; rw [List.map_map]; rfl
  rw [e] at h6; exact h6
/-- a block with these cells in it -/
def layCells (cs : Array Value) : Obj → Obj
  | .cells _ t fr => .cells cs t fr
  | o => o
/-- a table's cells -/
def datCells : DataW Unit → Array Value
  | .agg l => (l.map fun | .lit (.int k n) => Value.int k n | _ => undef).toArray
  | _ => #[]
noncomputable def low : Nat := (World.holding Tryd.prog default ⟨#[], #[], []⟩).heap.size
/-- A WORLD FOR THE WITNESSES: the settled one, two errors behind it, the tables and the errors holding what their initialisers lay. -/
noncomputable def laidWorld (os : Os) : World :=
  let w0 := World.holding Tryd.prog os ⟨#[.cells #[.string ⟨#[118, 97, 108, 117, 101, 32, 111, 117, 116, 32, 111, 102, 32, 114, 97, 110, 103, 101]⟩] 127, .cells #[.string ⟨#[105, 110, 118, 97, 108, 105, 100, 32, 115, 121, 110, 116, 97, 120]⟩] 127], #[], []⟩
  { w0 with heap := ((((((w0.heap.modify 0 (layCells (datCells Rows.laid_strongbox_sha_squareRoots))).modify 4 (layCells (datCells Rows.laid_strongbox_sha_cubeRoots))).modify 5 (layCells (datCells Rows.laid_internal_strconv_uint64pow10))).modify 6 (layCells (datCells Rows.laid_math_bits_deBruijn32tab))).modify 7 (layCells (datCells Rows.laid_math_bits_deBruijn64tab))).modify 3 (layCells #[.iface 125 (.pointer (some ⟨low, 0, none⟩))])).modify 2 (layCells #[.iface 125 (.pointer (some ⟨low + 1, 0, none⟩))]) }
set_option maxRecDepth 100000 in
theorem laid_met0 (os : Os) : laidMet Tryd.prog Rows.shardNamesRow.laid ((laidWorld os).forCall (fun _ _ => 0) ⟨#[], #[], []⟩).memory :=
  laidMet_of_run' 80 (by kernel_rfl) (by kernel_rfl)
end Go.Proofs.YtnhakbpalfcmfaaDoor
namespace Go.Proofs.YtnhakbpalfcmfaaDoor
open Go.ChangeShapes Go.WideShapes Go.ChangeAt Go.RowKit Go.Joins Go.WideMaps Go.WideElems
theorem cells23 : Tryd.prog.cellsOf 23 = 2 := by kernel_rfl
theorem cells25 : Tryd.prog.cellsOf 25 = 5 := by kernel_rfl
theorem cells27 : Tryd.prog.cellsOf 27 = 2 := by kernel_rfl
theorem cells3 : Tryd.prog.cellsOf 3 = 1 := by kernel_rfl
theorem array5 {α : Type} {a : Array α} (h : a.size = 5) : ∃ c0 c1 c2 c3 c4, a = #[c0, c1, c2, c3, c4] := by
  obtain ⟨l⟩ := a
  match l, h with
  | [c0, c1, c2, c3, c4], _ => exact ⟨c0, c1, c2, c3, c4, rfl⟩
set_option maxRecDepth 100000 in
theorem open_shard {H : Type} {enc : TypeId × Value → H} {W : World} {b0 : Nat} {v : Value} {d : DataW H} {p : List MemPlace} (hv : Value.okWide Tryd.prog W .any b0 25 v) (h : DataW.Trod enc Tryd.prog W 0 (fun _ => true) true 25 v d p) :
    ∃ (K N i : Int) (g q : ByteArray), v = .agg (shc K N g i q) ∧ -9223372036854775808 ≤ i ∧ i ≤ 9223372036854775807 ∧ g.size ≤ maxLen ∧ q.size ≤ maxLen := by
  obtain ⟨cs, rfl, hsz⟩ := okWide_struct Tryd.underlying25 hv
  obtain ⟨c0, c1, c2, c3, c4, rfl⟩ := array5 (hsz.trans cells25)
  obtain ⟨fuel, hf⟩ := h
  obtain ⟨y0, y1, y2, y3, n, hx, _, h0, h1, h2, h3⟩ := trod_struct4 Tryd.underlying25 hf
  simp only [Value.cells, cells23, cells9, cells3] at h0 h1 h2 h3
  obtain ⟨z0, z1, m, hz, _, g0, g1⟩ := trod_struct2 Tryd.underlying23 h0
  simp only [cells3] at g0 g1
  obtain ⟨K, e0, _, _⟩ := DataW.trod_int Tryd.underlying3 g0
  obtain ⟨N, e1, _, _⟩ := DataW.trod_int Tryd.underlying3 g1
  obtain ⟨g, e2, _, hg⟩ := DataW.trod_string Tryd.underlying9 h1
  obtain ⟨i, e3, _, hi⟩ := DataW.trod_int Tryd.underlying3 h2
  obtain ⟨q, e4, _, hq⟩ := DataW.trod_string Tryd.underlying9 h3
  simp at e0 e1 e2 e3 e4
  have hb := bounds_i64 hi
  exact ⟨K, N, i, g, q, by rw [e0, e1, e2, e3, e4]; rfl, by omega, by omega, hg, hq⟩
set_option maxRecDepth 100000 in
theorem open_obj {H : Type} {enc : TypeId × Value → H} {W : World} {b0 : Nat} {v : Value} {d : DataW H} {p : List MemPlace} (hv : Value.okWide Tryd.prog W .any b0 27 v) (h : DataW.Trod enc Tryd.prog W 0 (fun _ => true) true 27 v d p) :
    ∃ (a s : ByteArray), v = .agg #[.string a, .string s] ∧ a.size ≤ maxLen ∧ s.size ≤ maxLen := by
  obtain ⟨c0, c1, y0, y1, m, rfl, rfl, rfl, hy0, hy1⟩ := open_agg2 (P := Tryd.prog) Tryd.underlying27 (by kernel_rfl) cells27 hv h
  obtain ⟨a, e0, _, ha⟩ := DataW.trod_string Tryd.underlying9 hy0
  obtain ⟨s, e1, _, hs⟩ := DataW.trod_string Tryd.underlying9 hy1
  simp at e0 e1
  exact ⟨a, s, by rw [e0, e1], ha, hs⟩
end Go.Proofs.YtnhakbpalfcmfaaDoor
