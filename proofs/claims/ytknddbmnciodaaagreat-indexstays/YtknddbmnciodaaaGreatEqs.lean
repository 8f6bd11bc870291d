/- Structs held against themselves: places, snapshots, codes. -/
import Derived.Test.YtknddbmnciodaaaGreatFun
import Derived.Laws.StructEq
namespace Go.Proofs.YtknddbmnciodaaaGreat
open Go.RowKit
open Ix
set_option linter.unusedVariables false
theorem eqIn9 (w : World) (s : ByteArray) (n : Nat) : (Op.equalIn (n + 1) 9 (.string s) (.string s)).run Tryz.prog w = .ok true w := by
  rw [run_equalIn_string w n 9 s s Tryz.underlying9, str_eq rfl]
theorem eqIn3 (w : World) (x : Int) (n : Nat) : (Op.equalIn (n + 1) 3 (.int .i64 x) (.int .i64 x)).run Tryz.prog w = .ok true w := by
  rw [run_equalIn_int w n 3 .i64 .i64 x x Tryz.underlying3]; simp
theorem eqIn2 (w : World) (x : Int) (n : Nat) : (Op.equalIn (n + 1) 2 (.int .i64 x) (.int .i64 x)).run Tryz.prog w = .ok true w := by
  rw [run_equalIn_int w n 2 .i64 .i64 x x Tryz.underlying2]; simp
theorem same37 (w : World) (p : Pl) : (Op.equalIn 10000 24 (.agg (pl3 p).toArray) (.agg (pl3 p).toArray)).run Tryz.prog w = .ok true w := by
  have hS : Tryz.prog.underlying 24 = some (.struct (Tryz.prog.fieldsOf 24)) := by kernel_rfl
  have p0 : (part 9 (pl3 p).toArray 0).run Tryz.prog w = .ok (.string p.pack) w := by unfold pl3; kernel_rfl
  have p1 : (part 3 (pl3 p).toArray 1).run Tryz.prog w = .ok (.int .i64 p.at_) w := by unfold pl3; kernel_rfl
  have p2 : (part 3 (pl3 p).toArray 2).run Tryz.prog w = .ok (.int .i64 p.len) w := by unfold pl3; kernel_rfl
  have s0 := eqIn9 w p.pack 9998
  have s1 := eqIn3 w p.at_ 9998
  have s2 := eqIn3 w p.len 9998
  rw [show (10000 : Nat) = 9999 + 1 from rfl, run_equalIn_agg w 9999 24 _ _ hS (by kernel_rfl)]
  simp only [Program.fieldsOf, Tryz.underlying24]
  simp [Op.eqFields, p0, p1, p2, s0, s1, s2, Result.andThen]
theorem eql37 (w : World) (p : Pl) : (binOp .eql 24 (.agg (pl3 p).toArray) (.agg (pl3 p).toArray)).run Tryz.prog w = .ok (.bool true) w := by
  rw [run_eql_struct, same37]; rfl
theorem neq37 (w : World) (p : Pl) : (binOp .neq 24 (.agg (pl3 p).toArray) (.agg (pl3 p).toArray)).run Tryz.prog w = .ok (.bool false) w := by
  rw [run_neq_struct, same37]; rfl
theorem neq68 (w : World) (p : Snp) : (binOp .neq 41 (.agg (sn3 p).toArray) (.agg (sn3 p).toArray)).run Tryz.prog w = .ok (.bool false) w := by
  have hS : Tryz.prog.underlying 41 = some (.struct (Tryz.prog.fieldsOf 41)) := by kernel_rfl
  have p0 : (part 3 (sn3 p).toArray 0).run Tryz.prog w = .ok (.int .i64 p.id) w := by unfold sn3; kernel_rfl
  have p1 : (part 2 (sn3 p).toArray 1).run Tryz.prog w = .ok (.int .i64 p.time) w := by unfold sn3; kernel_rfl
  have p2 : (part 9 (sn3 p).toArray 2).run Tryz.prog w = .ok (.string p.root) w := by unfold sn3; kernel_rfl
  have s0 := eqIn3 w p.id 9998
  have s1 := eqIn2 w p.time 9998
  have s2 := eqIn9 w p.root 9998
  rw [run_neq_struct, show (10000 : Nat) = 9999 + 1 from rfl, run_equalIn_agg w 9999 41 _ _ hS (by kernel_rfl)]
  simp only [Program.fieldsOf, Tryz.underlying41]
  simp [Op.eqFields, p0, p1, p2, s0, s1, s2, Result.andThen]
theorem neq23 (w : World) (k n : Int) : (binOp .neq 32 (.agg #[.int .i64 k, .int .i64 n]) (.agg #[.int .i64 k, .int .i64 n])).run Tryz.prog w = .ok (.bool false) w := by
  have hS : Tryz.prog.underlying 32 = some (.struct (Tryz.prog.fieldsOf 32)) := by kernel_rfl
  have p0 : (part 3 #[.int .i64 k, .int .i64 n] 0).run Tryz.prog w = .ok (.int .i64 k) w := by kernel_rfl
  have p1 : (part 3 #[.int .i64 k, .int .i64 n] 1).run Tryz.prog w = .ok (.int .i64 n) w := by kernel_rfl
  have s0 := eqIn3 w k 9998
  have s1 := eqIn3 w n 9998
  rw [run_neq_struct, show (10000 : Nat) = 9999 + 1 from rfl, run_equalIn_agg w 9999 32 _ _ hS (by kernel_rfl)]
  simp only [Program.fieldsOf, Tryz.underlying32]
  simp [Op.eqFields, p0, p1, s0, s1, Result.andThen]
end Go.Proofs.YtknddbmnciodaaaGreat

