/- The contracts of strings.Clone and of the program's own; what a place may be, in a world that may grow. -/
import Derived.Test.YtknddbmnciodaaaGreatLib
import Derived.Test.YtknddbmnciodaaaGreatRet
namespace Go.Proofs.YtknddbmnciodaaaGreat
open Go.RowKit Go.Lib Go.Sort
open Ix
set_option linter.unusedVariables false
theorem slClone_any (s : ByteArray) (w : World) (hlim : s.size ≤ 281474976710656) :
    Calls Tryz.prog 57 #[.string s] w fun e w' => e = .returned (.string s) ∧ Below w.heap.size w w' := Any.stringslite_Clone Tryz.laysM316 s w hlim
theorem clone_any (s : ByteArray) (w : World) (hs : s.size ≤ 281474976710656) : Calls Tryz.prog 36 #[.string s] w fun e w' => e = .returned (.string s) ∧ Below w.heap.size w w' := by
  go_enter Tryz.func36, Tryz.ntmps36
  go_wp2_with fail
  refine (slClone_any s w hs).mono ?_
  rintro e w' ⟨rfl, hb⟩
  go_wp2_with fail
  go_ret
  exact ⟨rfl, hb⟩
theorem own_any (p : Pl) (hs : p.pack.size ≤ 281474976710656) (w : World) : Calls Tryz.prog 33 #[.agg (pl3 p).toArray] w fun e w' => e = .returned (.agg (pl3 p).toArray) ∧ Below w.heap.size w w' := by
  show Calls Tryz.prog 33 #[.agg #[.string p.pack, .int .i64 p.at_, .int .i64 p.len]] w fun e w' => e = .returned (.agg #[.string p.pack, .int .i64 p.at_, .int .i64 p.len]) ∧ _
  have C1 := fun W => clone_any p.pack W hs
  generalize p.pack = x at *
  generalize p.at_ = a at *
  generalize p.len = l at *
  obtain ⟨w1, hw1⟩ : ∃ w1, w1 = (w.alloc (.cells #[.string x, .int .i64 a, .int .i64 l] 24)).alloc (.cells #[.string ⟨#[]⟩, .int .i64 0, .int .i64 0] 24) := ⟨_, rfl⟩
  have hB : Below w.heap.size w w1 := by rw [hw1]; exact ((Below.refl _ w).alloc (Nat.le_refl _) _).alloc (by simp) _
  have n1 : Has w1 w.heap.size #[.string x, .int .i64 a, .int .i64 l] 24 := by rw [hw1]; exact (Has.new w _ _ _ rfl).alloc _
  have n2 : Has w1 (w.heap.size + 1) #[.string ⟨#[]⟩, .int .i64 0, .int .i64 0] 24 := by rw [hw1]; exact Has.new _ _ _ _ (by simp)
  have hz : w.heap.size + 1 < w1.heap.size := n2.lt
  go_enter Tryz.func33, Tryz.ntmps33
  go_wp2_with fail
  rw [← hw1]
  clear hw1
  refine (C1 _).mono ?_
  rintro e w2 ⟨rfl, hb⟩
  have m1 := n1.below hb n1.lt
  have m2 := n2.below hb n2.lt
  have HB := hid (hB.trans (hb.mono hB.size))
  clear hB hb n1 n2 C1 hz
  have c0 : w2.cell? ⟨w.heap.size, 0, none⟩ = some (.string x) := by rw [m1.cell]; rfl
  have c1 : w2.cell? ⟨w.heap.size, 1, none⟩ = some (.int .i64 a) := by rw [m1.cell]; rfl
  have c2 : w2.cell? ⟨w.heap.size, 2, none⟩ = some (.int .i64 l) := by rw [m1.cell]; rfl
  have f0 := m1.frozen 0
  have d0 : w2.cell? ⟨w.heap.size + 1, 0, none⟩ = some (.string ⟨#[]⟩) := by rw [m2.cell]; rfl
  have d1 : w2.cell? ⟨w.heap.size + 1, 1, none⟩ = some (.int .i64 0) := by rw [m2.cell]; rfl
  have d2 : w2.cell? ⟨w.heap.size + 1, 2, none⟩ = some (.int .i64 0) := by rw [m2.cell]; rfl
  have g0 := m2.frozen 0
  have g1 := m2.frozen 1
  have g2 := m2.frozen 2
  have ne : w.heap.size ≠ w.heap.size + 1 := by omega
  have M := hid m2
  clear m1 m2
  go_wp2_with fail
  exact ret_row (cs := #[.string x, .int .i64 a, .int .i64 l]) Tryz.results33 rfl rfl (put3 (M.out.other _ _ (by simp)) _ _ _) Tryz.underlying24 info37 ⟨rfl, below_put3 (below_set HB.out (Nat.le_refl _) _) (by omega) _ _ _⟩
end Go.Proofs.YtknddbmnciodaaaGreat

