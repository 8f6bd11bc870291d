/- Single operations of the examples: texts put together, bytes as a text. -/
import Derived.Test.YtnhekngmgjnodaaDoorNam1
import Derived.Laws.BytesString
namespace Go.Proofs.YtnhekngmgjnodaaDoor
open Go.RowKit
open Pa
set_option linter.unusedVariables false
section
variable {ev : Operand → Value} {o : Oper} {w : World} {x y z : Operand}
theorem rn_add9 {a b : ByteArray} (ho : o.op = .binOp .add 9 x y 9) (hx : ev x = .string a) (hy : ev y = .string b) (h : a.size + b.size ≤ 1000000) : (execOp ev o).run Tryd.prog w = .ok (.value (.string (a ++ b))) w := by
  have q : ¬ 9223372036854775807 < a.size + b.size := by omega
  simp [execOp, ho, hx, hy, go_sem, q]
end
theorem wpList_valg {ops : Array Oper} {rest : List Oper} {o : Oper} {a : Act} {w w' : World} {v : Value} {Q : Exit → Act → World → Prop} (hgd : Region.wanted o (yielded ops a.tmps) = true) (hr : (execOp a.eval o).run Tryd.prog w = .ok (.value v) w') (h : wpList Tryd.prog ops Q rest (a.put o.dst v) w') : wpList Tryd.prog ops Q (o :: rest) a w :=
  wpList_step fun K hK => by
    rw [if_pos hgd]
    unfold Oper.wp
    rw [hr]
    exact hK _ _ h
theorem conv2 (w : World) (a b : Nat) : (convert 36 9 (.slice (some ⟨w.heap.size, 0, none⟩) 2 2)).run Tryd.prog (w.alloc (.cells #[.int .u8 (a : Int), .int .u8 (b : Int)] 5)) = .ok (.string ⟨#[a.toUInt8, b.toUInt8]⟩) (w.alloc (.cells #[.int .u8 (a : Int), .int .u8 (b : Int)] 5)) := by
  obtain ⟨w5, hw5⟩ : ∃ w5, w5 = w.alloc (.cells #[.int .u8 (a : Int), .int .u8 (b : Int)] 5) := ⟨_, rfl⟩
  have hx5 : Has w5 w.heap.size #[.int .u8 (a : Int), .int .u8 (b : Int)] 5 := by rw [hw5]; exact Has.new w _ _ _ rfl
  rw [← hw5]
  have hld : (loadCells ⟨w.heap.size, 0, none⟩ 2).run Tryd.prog w5 = .ok (([(a : Int), (b : Int)]).map (Value.int .u8)).toArray w5 := by
    have h2 := run_loadCells_list (P := Tryd.prog) w5 ⟨w.heap.size, 0, none⟩ [.int .u8 (a : Int), .int .u8 (b : Int)] (fun j v hv => by
      have e : (⟨w.heap.size, 0, none⟩ : Addr).add j = ⟨w.heap.size, j, none⟩ := by unfold Addr.add; split <;> simp_all
      rw [e, hx5.cell j, ← hv]
      simp)
    exact h2
  rw [run_convert_bytes_string w5 36 9 5 _ _ _ Tryd.underlying36 Tryd.underlying5 Tryd.underlying9, run_bytesToString w5 _ _ _ _ hld]
  rfl
theorem fm_join (k : Nat) : (⟨#[102]⟩ : ByteArray) ++ ⟨#[(97 + k / 16).toUInt8, (97 + k % 16).toUInt8]⟩ = fmB k := by
  apply ByteArray.ext
  rw [ByteArray.data_append]
  rfl
end Go.Proofs.YtnhekngmgjnodaaDoor
