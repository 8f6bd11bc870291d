/- What the rows' lists give: the tables hold what they are laid as; a world for the witnesses. -/
import Derived.Test.YtmpgfpmkmgebdaaGreatDoorCards
import Derived.Test.YtmpgfpmkmgebdaaGreatDoorTie
import Derived.Test.YtmpgfpmkmgebdaaGreatDoorFSWrit
import Derived.WalkKit
import Derived.ProofKit
import Derived.OpenShut
import Derived.Deep.DeepHandedRow
import Derived.Lib.LaidTab
import Derived.Lib.SmallJoins
import Derived.Carry
import Derived.Stop.LaidErr
import Derived.Test.YtmpgfpmkmgebdaaGreatDoorL9
import Derived.Deep.Slices
import Derived.Deep.Grids
import Derived.SizedLaws
namespace Go.Proofs.YtmpgfpmkmgebdaaGreatDoor
open Go.ChangeShapes Go.WideShapes Go.ChangeAt Go.RowKit
theorem own : ownKnob Tryz.prog.godebug = none := by kernel_rfl
theorem laidOut : laidOutB Tryz.prog = true := by kernel_rfl
theorem gSq : Tryz.prog.globalNamed "strongbox/sha.squareRoots" = some 0 := by kernel_rfl
theorem gSqType : (Tryz.prog.globals[0]?).map (·.type) = some 194 := by kernel_rfl
theorem gCu : Tryz.prog.globalNamed "strongbox/sha.cubeRoots" = some 2 := by kernel_rfl
theorem gCuType : (Tryz.prog.globals[2]?).map (·.type) = some 239 := by kernel_rfl
theorem gPowType : (Tryz.prog.globals[1]?).map (·.type) = some 224 := by kernel_rfl
theorem cells193 : Tryz.prog.cellsOf 193 = 1 := by kernel_rfl
theorem cells194 : Tryz.prog.cellsOf 194 = 8 := by kernel_rfl
theorem cells239 : Tryz.prog.cellsOf 239 = 64 := by kernel_rfl
theorem cells201 : Tryz.prog.cellsOf 201 = 1 := by kernel_rfl
theorem cells224 : Tryz.prog.cellsOf 224 = 20 := by kernel_rfl
theorem hasC_of_var {W : World} {name : String} {cs : Array Value} {g : Nat} (hg : Tryz.prog.globalNamed name = some g) (h : W.var? Tryz.prog name = some cs) : F.HasC W g cs := by
  unfold World.var? at h
  rw [hg] at h
  simp only [Option.bind_some] at h
  cases hq : W.heap[g]? with
  | none => rw [hq] at h; simp at h
  | some o =>
    rw [hq] at h
    cases o with
    | cells cs t fr =>
      simp only [Option.some.injEq] at h
      subst h
      exact ⟨t, fr, hq⟩
    | _ => simp at h
/-- THE TABLES, off a row's list. -/
theorem lay_of {W : World} (h : laidMetH Tryz.prog [("math/bits.deBruijn32tab", Rows.laid_math_bits_deBruijn32tab), ("math/bits.deBruijn64tab", Rows.laid_math_bits_deBruijn64tab), ("internal/strconv.uint64pow10", Rows.laid_internal_strconv_uint64pow10), ("strongbox/sha.squareRoots", Rows.laid_strongbox_sha_squareRoots), ("strongbox/sha.cubeRoots", Rows.laid_strongbox_sha_cubeRoots)] W) : F.Lay W := by
  have h0 : laidMet Tryz.prog [("math/bits.deBruijn32tab", Rows.laid_math_bits_deBruijn32tab), ("math/bits.deBruijn64tab", Rows.laid_math_bits_deBruijn64tab), ("internal/strconv.uint64pow10", Lib.tabData .u64 Lib.pow10Tab), ("strongbox/sha.squareRoots", Lib.tabData .u32 [1779033703, 3144134277, 1013904242, 2773480762, 1359893119, 2600822924, 528734635, 1541459225]), ("strongbox/sha.cubeRoots", Lib.tabData .u32 (F.Sha.cube.map fun x : Nat => (x : Int)))] W := h
  have h2 := h0.tail.tail
  have t1 := Lib.tabIs_of_head F.gPow gPowType Tryz.underlying224 Tryz.underlying201 cells201 cells224 h2
  have h5 := h2.tail
  have t2 := Lib.tabIs_of_head gSq gSqType Tryz.underlying194 Tryz.underlying193 cells193 cells194 h5
  have t3 := Lib.tabIs_of_head gCu gCuType Tryz.underlying239 Tryz.underlying193 cells193 cells239 h5.tail
  refine ⟨⟨hasC_of_var gSq t2, ?_⟩, hasC_of_var F.gPow t1⟩
  have h6 := hasC_of_var gCu t3
  have e : ((F.Sha.cube.map fun x : Nat => (x : Int)).map fun z => Value.int .u32 z).toArray = F.U32s F.Sha.cube := by
    unfold F.U32s; rw [List.map_map]; rfl
  rw [e] at h6; exact h6
/-- a block with these cells in it -/
def layCells (cs : Array Value) : Obj → Obj
  | .cells _ t fr => .cells cs t fr
  | o => o
/-- a table's cells -/
def datCells : DataW Unit → Array Value
  | .agg l => (l.map fun | .lit (.int k n) => Value.int k n | _ => undef).toArray
  | _ => #[]
/-- A WORLD FOR THE WITNESSES: the settled one, the tables holding what their initialisers lay. -/
noncomputable def laidWorld (os : Os) : World :=
  let w0 := World.holding Tryz.prog os ⟨#[], #[], []⟩
  { w0 with heap := ((((w0.heap.modify 0 (layCells (datCells Rows.laid_strongbox_sha_squareRoots))).modify 2 (layCells (datCells Rows.laid_strongbox_sha_cubeRoots))).modify 1 (layCells (datCells Rows.laid_internal_strconv_uint64pow10))).modify 3 (layCells (datCells Rows.laid_math_bits_deBruijn32tab))).modify 4 (layCells (datCells Rows.laid_math_bits_deBruijn64tab)) }
end Go.Proofs.YtmpgfpmkmgebdaaGreatDoor
/- What QuorumKeeps is handed in: deeds. -/
namespace Go.Proofs.YtmpgfpmkmgebdaaGreatDoor
open Go.ChangeShapes Go.WideShapes Go.ChangeAt Go.RowKit Go.Joins
open W
theorem cells3 : Tryz.prog.cellsOf 3 = 1 := by kernel_rfl
theorem cells5 : Tryz.prog.cellsOf 5 = 1 := by kernel_rfl
theorem cells41 : Tryz.prog.cellsOf 41 = 1 := by kernel_rfl
theorem cells43 : Tryz.prog.cellsOf 43 = 5 := by kernel_rfl
theorem cells54 : Tryz.prog.cellsOf 54 = 1 := by kernel_rfl
theorem cells56 : Tryz.prog.cellsOf 56 = 1 := by kernel_rfl
theorem cells9 : Tryz.prog.cellsOf 9 = 1 := by kernel_rfl
theorem cells45 : Tryz.prog.cellsOf 45 = 9 := by kernel_rfl
theorem bytes3 : Tryz.prog.bytesOf 3 = 8 := by kernel_rfl
theorem plain_of {W : World} {a : Addr} {v : Value} (h : W.cell? (a.add 0) = some v) : ∃ b o, a = ⟨b, o, none⟩ ∧ b < W.heap.size := by
  obtain ⟨b, o, s⟩ := a
  have hs : s = none := by simpa [Addr.add] using World.cell?_spot h
  subst hs
  exact ⟨b, o, rfl, World.block_lt_of_cell? (h := h)⟩
section
variable {H : Type} {enc : TypeId × Value → H} {W : World} {base : Nat} {sp : Nat → Bool} {hd : Bool}
/-- a list of numbers -/
theorem open_keep {fuel : Nat} {cs : List Value} {x : DataW H × List MemPlace} (h : DataW.trod enc Tryz.prog W base sp hd fuel 54 cs = some x) :
    ∃ v ks, cs = [v] ∧ RdI W v ks ∧ (∀ z ∈ ks, -9223372036854775808 ≤ z ∧ z ≤ 9223372036854775807) ∧ ks.length ≤ maxLen ∧ (0 < ks.length → ∃ n ∈ x.1.weights Tryz.prog 54, ks.length ≤ n) := by
  rcases open_ints Tryz.underlying54 Tryz.underlying3 cells3 h with ⟨rfl, hx⟩ | ⟨a, len, cap, zs, rfl, _, hl, hm, hz, hx, hcell, hwz⟩
  · exact ⟨_, [], rfl, .inl ⟨_, _, rfl, rfl⟩, fun z hz => (by cases hz), Nat.zero_le _, fun h => absurd h (Nat.lt_irrefl _)⟩
  · have hlen : len ≤ zs.length := by rw [hz]; split <;> omega
    have hlt : (zs.take len).length = len := by simp; omega
    refine ⟨_, zs.take len, rfl, ?_, fun z hz => bounds_i64 (hwz z (List.mem_of_mem_take hz)), by rw [hlt]; omega, fun _ => ?_⟩
    · by_cases h0 : len = 0
      · subst h0; exact .inl ⟨_, _, rfl, by simp⟩
      · obtain ⟨b, o, rfl, hb⟩ := plain_of (hcell 0 (by omega))
        refine .inr ⟨b, o, cap, by omega, by rw [hlt], hb, fun j z hj => ?_⟩
        have hj' : j < (zs.take len).length := (List.getElem?_eq_some_iff.1 hj).1
        have := hcell j (by omega)
        rw [add_plain] at this
        rw [this]
        rw [List.getElem?_take, if_pos (by omega)] at hj
        rw [List.getD_eq_getElem?_getD, hj]; rfl
    · rw [hx]
      refine ⟨(len + (zs.length - len)) * 8, ?_, by rw [hlt]; omega⟩
      simp only [DataW.weights, Tryz.underlying54, bytes3, lits, List.length_map, List.length_take, List.length_drop, List.mem_cons]
      left
      rw [Nat.min_eq_left hlen]
set_option maxRecDepth 100000 in
theorem open_fault {fuel : Nat} {cs : List Value} {x : DataW H × List MemPlace} (h : DataW.trod enc Tryz.prog W base sp hd fuel 43 cs = some x) :
    ∃ k t n a c : Int, cs = [.int .u8 k, .int .i64 t, .int .i64 n, .int .i64 a, .int .i64 c] ∧ 0 ≤ k ∧ k < 256 ∧ n < 9223372036854775808 ∧ a < 9223372036854775808 := by
  obtain ⟨xs, k, _, rfl, hcl, hxl, hf⟩ := DataW.trod_struct Tryz.underlying43 h
  rw [cells43] at hcl
  match xs, hxl, cs, hcl with
  | [y0, y1, y2, y3, y4], _, [v0, v1, v2, v3, v4], _ =>
    have g0 := hf 0 _ rfl
    have g1 := hf 1 _ rfl
    have g2 := hf 2 _ rfl
    have g3 := hf 3 _ rfl
    have g4 := hf 4 _ rfl
    simp [cells3, cells5] at g0 g1 g2 g3 g4
    obtain ⟨k0, e0, _, w0⟩ := DataW.trod_int Tryz.underlying5 g0
    obtain ⟨k1, e1, _, _⟩ := DataW.trod_int Tryz.underlying3 g1
    obtain ⟨k2, e2, _, w2⟩ := DataW.trod_int Tryz.underlying3 g2
    obtain ⟨k3, e3, _, w3⟩ := DataW.trod_int Tryz.underlying3 g3
    obtain ⟨k4, e4, _, _⟩ := DataW.trod_int Tryz.underlying3 g4
    simp at e0 e1 e2 e3 e4
    subst e0 e1 e2 e3 e4
    have := bounds_u8 w0
    have := bounds_i64 w2
    have := bounds_i64 w3
    exact ⟨k0, k1, k2, k3, k4, rfl, by omega, by omega, by omega, by omega⟩
/-- all that lies in a list weighs no more than the list's bound -/
theorem weightsAll_mem {t : TypeId} : ∀ (l : List (DataW H)) (y : DataW H), y ∈ l → ∀ k ∈ y.weights Tryz.prog t, k ∈ DataW.weightsAll Tryz.prog t l := by
  intro l
  induction l with
  | nil => intro y hy; cases hy
  | cons z r ih =>
    intro y hy k hk
    simp only [DataW.weightsAll, List.mem_append]
    rcases List.mem_cons.1 hy with rfl | hy
    · exact .inl hk
    · exact .inr (ih y hy k hk)
set_option maxRecDepth 100000 in
theorem open_surv {fuel : Nat} {cs : List Value} {x : DataW H × List MemPlace} (h : DataW.trod enc Tryz.prog W base sp hd fuel 56 cs = some x) (hw : ∀ n ∈ x.1.weights Tryz.prog 56, n ≤ reachBytes) :
    ∃ a : Sv, cs = [a.kv] ∧ RdI W a.kv a.ks ∧ a.ks.length ≤ 140737488355328 := by
  obtain ⟨xs, k, _, rfl, hcl, hxl, hf⟩ := DataW.trod_struct Tryz.underlying56 h
  rw [cells56] at hcl
  match xs, hxl, cs, hcl with
  | [y0], _, [v0], _ =>
    have g0 := hf 0 _ rfl
    simp [cells54] at g0
    obtain ⟨kv, ks, e2, hk, hkb, hkm, hkw⟩ := open_keep g0
    simp at e2
    subst e2
    refine ⟨⟨v0, ks⟩, rfl, hk, ?_⟩
    by_cases h0 : 0 < ks.length
    · obtain ⟨n, hn, hle⟩ := hkw h0
      have := hw n (by simp only [List.map_cons, List.map_nil, DataW.weights, Tryz.underlying56, DataW.weightsEach, List.mem_append]; exact .inl hn)
      unfold reachBytes at this
      show ks.length ≤ _
      omega
    · show ks.length ≤ _; omega
set_option maxRecDepth 100000 in
theorem open_survs {fuel : Nat} {cs : List Value} {x : DataW H × List MemPlace} (h : DataW.trod enc Tryz.prog W base sp hd fuel 41 cs = some x) (hw : ∀ n ∈ x.1.weights Tryz.prog 41, n ≤ reachBytes) :
    ∃ v l, cs = [v] ∧ RdS W v l ∧ l.length ≤ 9223372036854775807 := by
  rcases Go.Deep.open_slice Tryz.underlying41 h with ⟨hcs, _⟩ | ⟨a, len, cap, m, n, D, Pl, hcs, _, hl, hm, hmm, hx, he⟩
  · exact ⟨_, [], hcs, ⟨.inl ⟨_, _, rfl, rfl⟩, fun x hx => by cases hx⟩, by simp⟩
  · have hlm : len ≤ m := by rw [hmm]; split <;> omega
    have hd' : x.1 = .slice ((List.range len).map D) ((List.range (m - len)).map fun j => D (len + j)) := by rw [hx]
    have hwD : ∀ i, i < len → ∀ k ∈ (D i).weights Tryz.prog 56, k ≤ reachBytes := fun i hi k hk => hw k (by
      rw [hd']
      simp only [DataW.weights, Tryz.underlying41, List.mem_cons, List.mem_append]
      exact .inr (.inl (weightsAll_mem _ (D i) (List.mem_map.2 ⟨i, List.mem_range.2 hi, rfl⟩) k hk)))
    have each : ∀ i, i < len → ∃ x : Sv, (RdI W x.kv x.ks ∧ x.ks.length ≤ 140737488355328) ∧ W.cell? (a.add i) = some x.kv := fun i hi => by
      obtain ⟨cs', h1, h2⟩ := he i (by omega)
      rw [cells56] at h1
      obtain ⟨_, hcl, hcell⟩ := World.cells?_some h1
      obtain ⟨x, rfl, hok⟩ := open_surv h2 (hwD i hi)
      refine ⟨x, hok, ?_⟩
      have := hcell 0 (by omega)
      simpa [Addr.add] using this
    by_cases h0 : len = 0
    · subst h0
      exact ⟨_, [], hcs, ⟨.inl ⟨_, _, rfl, rfl⟩, fun x hx => by cases hx⟩, by simp⟩
    · obtain ⟨b, o, rfl, hb⟩ : ∃ b o, a = ⟨b, o, none⟩ ∧ b < W.heap.size := by
        obtain ⟨x, _, hc⟩ := each 0 (by omega)
        exact plain_of hc
      haveI : Inhabited Sv := ⟨⟨.nilFunc, []⟩⟩
      obtain ⟨f, hff⟩ := Go.Deep.choose_lt each
      have hlen : ((List.range len).map f).length = len := by simp
      have hget : ∀ j x, ((List.range len).map f)[j]? = some x → j < len ∧ x = f j := fun j x hj => by
        have hj' : j < len := by have := (List.getElem?_eq_some_iff.1 hj).1; simpa using this
        rw [List.getElem?_map, List.getElem?_range hj'] at hj
        exact ⟨hj', by simpa using hj.symm⟩
      refine ⟨_, (List.range len).map f, hcs, ⟨.inr ⟨b, o, cap, by rw [hlen]; omega, by rw [hlen], hb, fun j x hj => ?_⟩, fun x hx => ?_⟩, by rw [hlen]; unfold maxLen at hm; omega⟩
      · obtain ⟨hj', rfl⟩ := hget j x hj
        have := (hff j hj').2
        rw [add_plain] at this
        exact this
      · obtain ⟨j, hj, rfl⟩ := List.mem_map.1 hx
        exact (hff j (List.mem_range.1 hj)).1
set_option maxRecDepth 100000 in
theorem open_deed {fuel : Nat} {cs : List Value} {x : DataW H × List MemPlace} (h : DataW.trod enc Tryz.prog W base sp hd fuel 45 cs = some x) (hw : ∀ n ∈ x.1.weights Tryz.prog 45, n ≤ reachBytes) :
    ∃ a : Dd, cs = dcells a ∧ DdOk W a := by
  obtain ⟨xs, k, _, rfl, hcl, hxl, hf⟩ := DataW.trod_struct Tryz.underlying45 h
  rw [cells45] at hcl
  match xs, hxl, cs, hcl with
  | [y0, y1, y2, y3, y4], _, [v0, v1, v2, v3, v4, v5, v6, v7, v8], _ =>
    have g0 := hf 0 _ rfl
    have g1 := hf 1 _ rfl
    have g2 := hf 2 _ rfl
    have g3 := hf 3 _ rfl
    have g4 := hf 4 _ rfl
    simp [cells5, cells3, cells9, cells41, cells43] at g0 g1 g2 g3 g4
    have hsub : ∀ n, (n ∈ y2.1.weights Tryz.prog 9 ∨ n ∈ y3.1.weights Tryz.prog 41) → n ≤ reachBytes := fun n hn => hw n (by
        simp only [List.map_cons, List.map_nil, DataW.weights, Tryz.underlying45, DataW.weightsEach, List.mem_append]
        rcases hn with hn | hn
        · exact .inr (.inr (.inl hn))
        · exact .inr (.inr (.inr (.inl hn))))
    obtain ⟨k0, e0, _, w0⟩ := DataW.trod_int Tryz.underlying5 g0
    obtain ⟨k1, e1, _, w1⟩ := DataW.trod_int Tryz.underlying3 g1
    obtain ⟨pb, e2, ey2, _⟩ := DataW.trod_string Tryz.underlying9 g2
    obtain ⟨lv, sv, e3, hk, hkl⟩ := open_survs g3 (fun n hn => hsub n (.inr hn))
    obtain ⟨fk, ft, fn, fa, fc, e4, f1, f2, f3, f4⟩ := open_fault g4
    simp at e0 e1 e2 e3 e4
    subst e0 e1 e2 e3
    obtain ⟨rfl, rfl, rfl, rfl, rfl⟩ := e4
    have hb1 := bounds_i64 w1
    have t1 := hsub pb.size (.inl (by simp [ey2, DataW.weights]))
    unfold reachBytes at t1
    exact ⟨⟨k0, k1, pb, v3, sv, fk, ft, fn, fa, fc⟩, rfl, ⟨by show k1 < _; omega, by show pb.size < _; omega, hk, hkl, f1, f2, f3, f4⟩⟩
set_option maxRecDepth 100000 in
theorem open_deeds {b0 : Nat} {v : Value} {d : DataW H} {p : List MemPlace} (hv : Value.okWide Tryz.prog W .any b0 22 v) (h : DataW.Trod enc Tryz.prog W 0 (fun _ => true) true 22 v d p) (hw : ∀ n ∈ d.weights Tryz.prog 22, n ≤ reachBytes) : ∃ l, Deeds W v l := by
  obtain ⟨a0, len, cap, rfl⟩ := okWide_slice Tryz.underlying22 hv
  obtain ⟨fuel, hf⟩ := h
  rcases Go.Deep.open_slice Tryz.underlying22 hf with ⟨hcs, _⟩ | ⟨a, len', cap', m, n, D, Pl, hcs, _, hl, hm, hmm, hx, he⟩
  · simp [Value.cells] at hcs
    obtain ⟨rfl, rfl, rfl⟩ := hcs
    exact ⟨[], .inl ⟨_, _, rfl, rfl⟩, fun x hx => by cases hx⟩
  · simp [Value.cells] at hcs
    obtain ⟨rfl, rfl, rfl⟩ := hcs
    have hlm : len ≤ m := by rw [hmm]; split <;> omega
    have hd : d = .slice ((List.range len).map D) ((List.range (m - len)).map fun j => D (len + j)) := congrArg Prod.fst hx
    have hwD : ∀ i, i < len → ∀ k ∈ (D i).weights Tryz.prog 45, k ≤ reachBytes := fun i hi k hk => hw k (by
      rw [hd]
      simp only [DataW.weights, Tryz.underlying22, List.mem_cons, List.mem_append]
      refine .inr (.inl ?_)
      have hall : ∀ (l : List (DataW H)) (y : DataW H), y ∈ l → ∀ k ∈ y.weights Tryz.prog 45, k ∈ DataW.weightsAll Tryz.prog 45 l := by
        intro l
        induction l with
        | nil => intro y hy; cases hy
        | cons z r ih =>
          intro y hy k hk
          simp only [DataW.weightsAll, List.mem_append]
          rcases List.mem_cons.1 hy with rfl | hy
          · exact .inl hk
          · exact .inr (ih y hy k hk)
      exact hall _ (D i) (List.mem_map.2 ⟨i, List.mem_range.2 hi, rfl⟩) k hk)
    have each : ∀ i, i < len → ∃ x : Dd, DdOk W x ∧ ∀ j u, (dcells x)[j]? = some u → W.cell? ((a.add (i * 9)).add j) = some u := fun i hi => by
      obtain ⟨cs', h1, h2⟩ := he i (by omega)
      rw [cells45] at h1
      obtain ⟨_, hcl, hcell⟩ := World.cells?_some h1
      obtain ⟨x, rfl, hok⟩ := open_deed h2 (hwD i hi)
      refine ⟨x, hok, fun j u hj => ?_⟩
      have hj' : j < 9 := by have := (List.getElem?_eq_some_iff.1 hj).1; omega
      rw [hcell j hj', hj]
    by_cases h0 : len = 0
    · subst h0
      exact ⟨[], .inl ⟨_, _, rfl, rfl⟩, fun x hx => by cases hx⟩
    · obtain ⟨b, o, rfl, hb⟩ : ∃ b o, a = ⟨b, o, none⟩ ∧ b < W.heap.size := by
        obtain ⟨x, _, hc⟩ := each 0 (by omega)
        have := hc 0 _ rfl
        rw [Go.Deep.add_add] at this
        exact plain_of (by simpa using this)
      haveI : Inhabited Dd := ⟨⟨0, 0, ⟨#[]⟩, .nilFunc, [], 0, 0, 0, 0, 0⟩⟩
      obtain ⟨f, hff⟩ := Go.Deep.choose_lt each
      have hlen : ((List.range len).map f).length = len := by simp
      have hget : ∀ j x, ((List.range len).map f)[j]? = some x → j < len ∧ x = f j := fun j x hj => by
        have hj' : j < len := by have := (List.getElem?_eq_some_iff.1 hj).1; simpa using this
        rw [List.getElem?_map, List.getElem?_range hj'] at hj
        exact ⟨hj', by simpa using hj.symm⟩
      refine ⟨(List.range len).map f, .inr ⟨b, o, cap, by rw [hlen], by rw [hlen]; unfold maxLen at hm; omega, hb, fun j x hj i u hu => ?_⟩, fun x hx => ?_⟩
      · obtain ⟨hj', rfl⟩ := hget j x hj
        have := (hff j hj').2 i u hu
        rw [add_plain, add_plain] at this
        exact this
      · obtain ⟨j, hj, rfl⟩ := List.mem_map.1 hx
        exact (hff j (List.mem_range.1 hj)).1
end
end Go.Proofs.YtmpgfpmkmgebdaaGreatDoor
