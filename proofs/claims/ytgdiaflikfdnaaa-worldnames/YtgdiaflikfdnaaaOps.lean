/- What single operations do, over any frame. -/
import Derived.Test.YtgdiaflikfdnaaaP2
namespace Go.Proofs.Ytgdiaflikfdnaaa
open Go.RowKit Go.Maps
variable {ev : Operand → Value} {o : Oper} {w : World} {x y : Operand}
theorem rn_move {v : Value} (ho : o.op = .move x) (hx : ev x = v) : (execOp ev o).run Try.prog w = .ok (.value v) w := by
  subst hx; simp [execOp, ho, go_sem]
theorem rn_assign {v : Value} (ho : o.op = .assign x) (hx : ev x = v) : (execOp ev o).run Try.prog w = .ok (.value v) w := by
  subst hx; simp [execOp, ho, go_sem]
theorem rn_nilCheck {g k : Nat} (ho : o.op = .nilCheck x) (hx : ev x = .pointer (some ⟨g, k, none⟩)) : (execOp ev o).run Try.prog w = .ok (.value (.pointer (some ⟨g, k, none⟩))) w := by
  simp [execOp, ho, hx, go_sem]
theorem rn_load3 {g k : Nat} {v : Value} (ho : o.op = .load 3 x) (hx : ev x = .pointer (some ⟨g, k, none⟩)) (hc : w.cell? ⟨g, k, none⟩ = some v) : (execOp ev o).run Try.prog w = .ok (.value v) w := by
  simp [execOp, ho, hx, go_sem, hc]
theorem rn_load4 {g k : Nat} {v : Value} (ho : o.op = .load 4 x) (hx : ev x = .pointer (some ⟨g, k, none⟩)) (hc : w.cell? ⟨g, k, none⟩ = some v) : (execOp ev o).run Try.prog w = .ok (.value v) w := by
  simp [execOp, ho, hx, go_sem, hc]
theorem rn_load5 {g k : Nat} {v : Value} (ho : o.op = .load 5 x) (hx : ev x = .pointer (some ⟨g, k, none⟩)) (hc : w.cell? ⟨g, k, none⟩ = some v) : (execOp ev o).run Try.prog w = .ok (.value v) w := by
  simp [execOp, ho, hx, go_sem, hc]
theorem rn_load9 {g k : Nat} {v : Value} (ho : o.op = .load 9 x) (hx : ev x = .pointer (some ⟨g, k, none⟩)) (hc : w.cell? ⟨g, k, none⟩ = some v) : (execOp ev o).run Try.prog w = .ok (.value v) w := by
  simp [execOp, ho, hx, go_sem, hc]
theorem rn_load23 {g k : Nat} {v : Value} (ho : o.op = .load 48 x) (hx : ev x = .pointer (some ⟨g, k, none⟩)) (hc : w.cell? ⟨g, k, none⟩ = some v) : (execOp ev o).run Try.prog w = .ok (.value v) w := by
  simp [execOp, ho, hx, go_sem, hc]
theorem rn_load58 {g k : Nat} {v : Value} (ho : o.op = .load 80 x) (hx : ev x = .pointer (some ⟨g, k, none⟩)) (hc : w.cell? ⟨g, k, none⟩ = some v) : (execOp ev o).run Try.prog w = .ok (.value v) w := by
  simp [execOp, ho, hx, go_sem, hc]
theorem rn_load59 {g k : Nat} {v : Value} (ho : o.op = .load 81 x) (hx : ev x = .pointer (some ⟨g, k, none⟩)) (hc : w.cell? ⟨g, k, none⟩ = some v) : (execOp ev o).run Try.prog w = .ok (.value v) w := by
  simp [execOp, ho, hx, go_sem, hc]
theorem rn_load69 {g k : Nat} {v : Value} (ho : o.op = .load 89 x) (hx : ev x = .pointer (some ⟨g, k, none⟩)) (hc : w.cell? ⟨g, k, none⟩ = some v) : (execOp ev o).run Try.prog w = .ok (.value v) w := by
  simp [execOp, ho, hx, go_sem, hc]
theorem rn_f63_0 {g k : Nat} (ho : o.op = .fieldAddr 83 x 0) (hx : ev x = .pointer (some ⟨g, k, none⟩)) : (execOp ev o).run Try.prog w = .ok (.value (.pointer (some ⟨g, k, none⟩))) w := by
  simp [execOp, ho, hx, go_sem]
theorem rn_f63_1 {g k : Nat} (ho : o.op = .fieldAddr 83 x 1) (hx : ev x = .pointer (some ⟨g, k, none⟩)) : (execOp ev o).run Try.prog w = .ok (.value (.pointer (some ⟨g, k + 1, none⟩))) w := by
  simp [execOp, ho, hx, go_sem]
theorem rn_f63_2 {g k : Nat} (ho : o.op = .fieldAddr 83 x 2) (hx : ev x = .pointer (some ⟨g, k, none⟩)) : (execOp ev o).run Try.prog w = .ok (.value (.pointer (some ⟨g, k + 2, none⟩))) w := by
  simp [execOp, ho, hx, go_sem]
theorem rn_f63_3 {g k : Nat} (ho : o.op = .fieldAddr 83 x 3) (hx : ev x = .pointer (some ⟨g, k, none⟩)) : (execOp ev o).run Try.prog w = .ok (.value (.pointer (some ⟨g, k + 3, none⟩))) w := by
  simp [execOp, ho, hx, go_sem]
theorem rn_f63_4 {g k : Nat} (ho : o.op = .fieldAddr 83 x 4) (hx : ev x = .pointer (some ⟨g, k, none⟩)) : (execOp ev o).run Try.prog w = .ok (.value (.pointer (some ⟨g, k + 5, none⟩))) w := by
  simp [execOp, ho, hx, go_sem]
theorem rn_f67_0 {g k : Nat} (ho : o.op = .fieldAddr 85 x 0) (hx : ev x = .pointer (some ⟨g, k, none⟩)) : (execOp ev o).run Try.prog w = .ok (.value (.pointer (some ⟨g, k, none⟩))) w := by
  simp [execOp, ho, hx, go_sem]
theorem rn_f67_1 {g k : Nat} (ho : o.op = .fieldAddr 85 x 1) (hx : ev x = .pointer (some ⟨g, k, none⟩)) : (execOp ev o).run Try.prog w = .ok (.value (.pointer (some ⟨g, k + 1, none⟩))) w := by
  simp [execOp, ho, hx, go_sem]
theorem rn_f28_0 {g k : Nat} (ho : o.op = .fieldAddr 33 x 0) (hx : ev x = .pointer (some ⟨g, k, none⟩)) : (execOp ev o).run Try.prog w = .ok (.value (.pointer (some ⟨g, k, none⟩))) w := by
  simp [execOp, ho, hx, go_sem]
theorem rn_f28_1 {g k : Nat} (ho : o.op = .fieldAddr 33 x 1) (hx : ev x = .pointer (some ⟨g, k, none⟩)) : (execOp ev o).run Try.prog w = .ok (.value (.pointer (some ⟨g, k + 1, none⟩))) w := by
  simp [execOp, ho, hx, go_sem]
theorem rn_f83_0 {g k : Nat} (ho : o.op = .fieldAddr 96 x 0) (hx : ev x = .pointer (some ⟨g, k, none⟩)) : (execOp ev o).run Try.prog w = .ok (.value (.pointer (some ⟨g, k, none⟩))) w := by
  simp [execOp, ho, hx, go_sem]
theorem rn_f83_1 {g k : Nat} (ho : o.op = .fieldAddr 96 x 1) (hx : ev x = .pointer (some ⟨g, k, none⟩)) : (execOp ev o).run Try.prog w = .ok (.value (.pointer (some ⟨g, k + 1, none⟩))) w := by
  simp [execOp, ho, hx, go_sem]
theorem rn_f83_2 {g k : Nat} (ho : o.op = .fieldAddr 96 x 2) (hx : ev x = .pointer (some ⟨g, k, none⟩)) : (execOp ev o).run Try.prog w = .ok (.value (.pointer (some ⟨g, k + 3, none⟩))) w := by
  simp [execOp, ho, hx, go_sem]
theorem rn_f61_0 {g k : Nat} (ho : o.op = .fieldAddr 79 x 0) (hx : ev x = .pointer (some ⟨g, k, none⟩)) : (execOp ev o).run Try.prog w = .ok (.value (.pointer (some ⟨g, k, none⟩))) w := by
  simp [execOp, ho, hx, go_sem]
theorem rn_f61_1 {g k : Nat} (ho : o.op = .fieldAddr 79 x 1) (hx : ev x = .pointer (some ⟨g, k, none⟩)) : (execOp ev o).run Try.prog w = .ok (.value (.pointer (some ⟨g, k + 1, none⟩))) w := by
  simp [execOp, ho, hx, go_sem]
theorem rn_f32_0 {g k : Nat} (ho : o.op = .fieldAddr 37 x 0) (hx : ev x = .pointer (some ⟨g, k, none⟩)) : (execOp ev o).run Try.prog w = .ok (.value (.pointer (some ⟨g, k, none⟩))) w := by
  simp [execOp, ho, hx, go_sem]
theorem rn_f32_1 {g k : Nat} (ho : o.op = .fieldAddr 37 x 1) (hx : ev x = .pointer (some ⟨g, k, none⟩)) : (execOp ev o).run Try.prog w = .ok (.value (.pointer (some ⟨g, k + 1, none⟩))) w := by
  simp [execOp, ho, hx, go_sem]
theorem rn_f32_2 {g k : Nat} (ho : o.op = .fieldAddr 37 x 2) (hx : ev x = .pointer (some ⟨g, k, none⟩)) : (execOp ev o).run Try.prog w = .ok (.value (.pointer (some ⟨g, k + 2, none⟩))) w := by
  simp [execOp, ho, hx, go_sem]
theorem rn_f32_3 {g k : Nat} (ho : o.op = .fieldAddr 37 x 3) (hx : ev x = .pointer (some ⟨g, k, none⟩)) : (execOp ev o).run Try.prog w = .ok (.value (.pointer (some ⟨g, k + 3, none⟩))) w := by
  simp [execOp, ho, hx, go_sem]
theorem rn_f32_4 {g k : Nat} (ho : o.op = .fieldAddr 37 x 4) (hx : ev x = .pointer (some ⟨g, k, none⟩)) : (execOp ev o).run Try.prog w = .ok (.value (.pointer (some ⟨g, k + 4, none⟩))) w := by
  simp [execOp, ho, hx, go_sem]
theorem rn_load67 {g k : Nat} {v0 v1 : Value} (ho : o.op = .load 85 x) (hx : ev x = .pointer (some ⟨g, k, none⟩)) (h0 : w.cell? ⟨g, k, none⟩ = some v0) (h1 : w.cell? ⟨g, k + 1, none⟩ = some v1) : (execOp ev o).run Try.prog w = .ok (.value (.agg #[v0, v1])) w := by
  simp [execOp, ho, hx, go_sem, h0, h1]
theorem rn_load28 {g k : Nat} {v0 v1 : Value} (ho : o.op = .load 33 x) (hx : ev x = .pointer (some ⟨g, k, none⟩)) (h0 : w.cell? ⟨g, k, none⟩ = some v0) (h1 : w.cell? ⟨g, k + 1, none⟩ = some v1) : (execOp ev o).run Try.prog w = .ok (.value (.agg #[v0, v1])) w := by
  simp [execOp, ho, hx, go_sem, h0, h1]
theorem rn_load83 {g k : Nat} {v0 v1 v2 v3 v4 : Value} (ho : o.op = .load 96 x) (hx : ev x = .pointer (some ⟨g, k, none⟩)) (h0 : w.cell? ⟨g, k, none⟩ = some v0) (h1 : w.cell? ⟨g, k + 1, none⟩ = some v1) (h2 : w.cell? ⟨g, k + 2, none⟩ = some v2) (h3 : w.cell? ⟨g, k + 3, none⟩ = some v3) (h4 : w.cell? ⟨g, k + 4, none⟩ = some v4) : (execOp ev o).run Try.prog w = .ok (.value (.agg #[v0, v1, v2, v3, v4])) w := by
  simp [execOp, ho, hx, go_sem, h0, h1, h2, h3, h4]
theorem rn_load61 {g k : Nat} {v0 v1 : Value} (ho : o.op = .load 79 x) (hx : ev x = .pointer (some ⟨g, k, none⟩)) (h0 : w.cell? ⟨g, k, none⟩ = some v0) (h1 : w.cell? ⟨g, k + 1, none⟩ = some v1) : (execOp ev o).run Try.prog w = .ok (.value (.agg #[v0, v1])) w := by
  simp [execOp, ho, hx, go_sem, h0, h1]
theorem rn_load32 {g k : Nat} {v0 v1 v2 v3 v4 : Value} (ho : o.op = .load 37 x) (hx : ev x = .pointer (some ⟨g, k, none⟩)) (h0 : w.cell? ⟨g, k, none⟩ = some v0) (h1 : w.cell? ⟨g, k + 1, none⟩ = some v1) (h2 : w.cell? ⟨g, k + 2, none⟩ = some v2) (h3 : w.cell? ⟨g, k + 3, none⟩ = some v3) (h4 : w.cell? ⟨g, k + 4, none⟩ = some v4) : (execOp ev o).run Try.prog w = .ok (.value (.agg #[v0, v1, v2, v3, v4])) w := by
  simp [execOp, ho, hx, go_sem, h0, h1, h2, h3, h4]
end Go.Proofs.Ytgdiaflikfdnaaa
