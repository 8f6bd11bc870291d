/- The contract of Make. -/
import Derived.Test.YtnepfllbfagfnaaDoorSWrit
import Derived.Laws.ResultCell
import Derived.Test.YtnepfllbfagfnaaDoorSOps
import Derived.Lib.IndexLaws
import Derived.Lib.AtoiBound
import Derived.Lib.AtoiErrMem
namespace Go.Proofs.YtnepfllbfagfnaaDoor
open Go.RowKit
theorem two_new (w : World) (a b : Array Value) (s t : TypeId) : Has ((w.alloc (.cells a s)).alloc (.cells b t)) w.heap.size a s ∧ Has ((w.alloc (.cells a s)).alloc (.cells b t)) (w.heap.size + 1) b t ∧ Below w.heap.size w ((w.alloc (.cells a s)).alloc (.cells b t)) ∧ ((w.alloc (.cells a s)).alloc (.cells b t)).heap.size = w.heap.size + 2 :=
  ⟨(Has.new _ _ _ _ rfl).alloc _, Has.new _ _ _ _ (by simp), belowAlloc (belowAlloc (Below.refl _ _) _) _, by simp⟩
set_option maxRecDepth 20000 in
/-- a result that lies in memory, and an error beside it -/
theorem ret_cell {fn : Func} {a : Act} {W : World} {b : Nat} {cs : List Value} {ty : TypeId} {p u : Tmp} {v : Value} {d : TypeDesc} {Q : Ending → World → Prop}
    (hf : fn.results = #[.cell p ty, .tmp u]) (hp : a.tmps.getD p undef = .pointer (some ⟨b, 0, none⟩)) (hv : a.tmps.getD u undef = v) (hd : a.defers = []) (hc : W.rangeAt b 0 cs)
    (hu : Tryd.prog.underlying ty = some d) (hr : d.isRow = true) (hi : (Tryd.prog.info? ty).map (·.size) = some cs.length) (hQ : Q (.returned (.tuple #[.agg cs.toArray, v])) W) : bodyPost Tryd.prog fn Q Exit.ret a W := by
  refine bodyPost_ret (v := .tuple #[.agg cs.toArray, v]) ?_ hd hQ
  rw [results_cell_tmp hf, hp, hv]
  have hld := run_loadVar_mid (P := Tryd.prog) W b 0 ty cs d hc hu hr hi
  show ((Sem.run Tryd.prog (loadVar ty ⟨b, 0, none⟩) W).andThen _) = _
  rw [hld]
  rfl
end Go.Proofs.YtnepfllbfagfnaaDoor
/- The contract of Parse. -/
/- strings.Cut at a dot. -/
namespace Go.Proofs.YtnepfllbfagfnaaDoor
open Go.RowKit
theorem str_ne {a b : ByteArray} (h : bs a ≠ bs b) : (a.toList == b.toList) = false := by
  rw [beq_eq_false_iff_ne]
  intro e
  rw [ByteArray.toList_eq, ByteArray.toList_eq] at e
  exact h (by unfold bs; rw [e])
end Go.Proofs.YtnepfllbfagfnaaDoor
namespace Go.Proofs.YtnepfllbfagfnaaDoor
open Go.RowKit
theorem bs_extract (s : ByteArray) (a b : Nat) : bs (s.extract a b) = ((bs s).take b).drop a := by
  have e : (s.extract a b).data.toList = (s.data.toList.take b).drop a := by
    rw [ByteArray.data_extract, Array.toList_extract, List.extract_eq_take_drop, List.drop_take]
  unfold bs; rw [e, List.map_drop, List.map_take]
end Go.Proofs.YtnepfllbfagfnaaDoor
/- The contract of takenOff: a shard as data tell it. -/
namespace Go.Proofs.YtnepfllbfagfnaaDoor
open Go.RowKit
theorem ext1 (s : ByteArray) (c k : Nat) : (s.extract c s.size).extract 0 k = s.extract c (c + k) := by
  apply bs_inj
  rw [bs_extract, bs_extract, bs_extract, List.drop_zero, ← bs_length, List.take_length, List.take_drop]
theorem ext2 (s : ByteArray) (c k : Nat) : (s.extract c s.size).extract k (s.extract c s.size).size = s.extract (c + k) s.size := by
  apply bs_inj
  have e : ∀ c, bs (s.extract c s.size) = (bs s).drop c := fun c => bs_drop s c
  rw [bs_drop, e, e, List.drop_drop]
end Go.Proofs.YtnepfllbfagfnaaDoor
/- The contract of Read. -/
namespace Go.Proofs.YtnepfllbfagfnaaDoor
open Go.RowKit
end Go.Proofs.YtnepfllbfagfnaaDoor
/- awake: the examples. -/
/- What Make's bytes tell, and what bytes that Read takes must be. No program in it. -/
namespace Go.Proofs.YtnepfllbfagfnaaDoor
open Go.RowKit
theorem mid_take (A B C : List Nat) : ((A ++ (B ++ C)).take (A.length + B.length)).drop A.length = B := by
  rw [List.take_append, List.drop_append]
  simp
end Go.Proofs.YtnepfllbfagfnaaDoor
namespace Go.Proofs.YtnepfllbfagfnaaDoor
open Go.RowKit
end Go.Proofs.YtnepfllbfagfnaaDoor
