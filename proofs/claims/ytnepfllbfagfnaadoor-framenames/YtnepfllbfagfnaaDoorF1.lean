/- The contracts of the small functions. -/
import Derived.Test.YtnepfllbfagfnaaDoorF0
import Derived.Test.YtnepfllbfagfnaaDoorSMix
namespace Go.Proofs.YtnepfllbfagfnaaDoor
open Go.RowKit
theorem count_any (n : Int) (w : World) : Calls Tryd.prog 17 #[.int .i64 n] w fun e w' => e = .returned (.bool (okN n)) ∧ w' = w := by
  go_enter Tryd.func17, Tryd.ntmps17
  go_wp2
  all_goals
    go_ret
    refine ⟨?_, rfl⟩
    simp_all [okN] <;> omega
set_option maxRecDepth 20000 in
theorem code_any (K N : Int) (w : World) : Calls Tryd.prog 18 #[.agg #[.int .i64 K, .int .i64 N]] w fun e w' => e = .returned (.bool (okC K N)) ∧ Below w.heap.size w w' := by
  go_enter Tryd.func18, Tryd.ntmps18
  go_wp2
  all_goals
    go_ret
    refine ⟨?_, (Below.refl _ _).alloc (Nat.le_refl _) _⟩
    simp_all [okC] <;> omega
set_option maxRecDepth 20000 in
theorem refCode_any (K N : Int) (w : World) : Calls Tryd.prog 34 #[.agg #[.int .i64 K, .int .i64 N]] w fun e w' => e = .returned (.bool (okC K N)) ∧ Below w.heap.size w w' := by
  have e1 : (0 < K) = (1 ≤ K) := by rw [eq_iff_iff]; omega
  have e2 : (N < 13) = (N ≤ 12) := by rw [eq_iff_iff]; omega
  go_enter Tryd.func34, Tryd.ntmps34
  go_wp2
  all_goals
    go_ret
    refine ⟨?_, (Below.refl _ _).alloc (Nat.le_refl _) _⟩
    first
    | (simp_all [okC]; done)
    | (simp_all [okC]; omega)
set_option maxRecDepth 20000 in
theorem less_any (a b c d : Int) (w : World) : Calls Tryd.prog 13 #[.agg #[.int .i64 a, .int .i64 b], .agg #[.int .i64 c, .int .i64 d]] w fun e w' => e = .returned (.bool (lessB a b c d)) ∧ Below w.heap.size w w' := by
  go_enter Tryd.func13, Tryd.ntmps13
  go_wp2
  all_goals
    go_ret
    refine ⟨?_, ((Below.refl _ _).alloc (Nat.le_refl _) _).alloc (by simp) _⟩
    simp_all [lessB] <;> omega
set_option maxRecDepth 20000 in
theorem refLess_any (a b c d : Int) (w : World) : Calls Tryd.prog 14 #[.agg #[.int .i64 a, .int .i64 b], .agg #[.int .i64 c, .int .i64 d]] w fun e w' => e = .returned (.bool (lessB a b c d)) ∧ Below w.heap.size w w' := by
  go_enter Tryd.func14, Tryd.ntmps14
  go_wp2
  all_goals
    go_ret
    refine ⟨?_, ((Below.refl _ _).alloc (Nat.le_refl _) _).alloc (by simp) _⟩
    simp_all [lessB] <;> omega
/-- 4 bytes that were made, as a string -/
theorem conv4 (n : Nat) (hn : n < 2147483648) (w : World) : (convert 32 9 (.slice (some ⟨w.heap.size, 0, none⟩) 4 4)).run Tryd.prog (w.alloc (.cells #[.int .u8 ((n : Int) / 16777216), .int .u8 ((n : Int) / 65536 % 256), .int .u8 ((n : Int) / 256 % 256), .int .u8 ((n : Int) % 256)] 5)) = .ok (.string (ofBs (be4 n))) (w.alloc (.cells #[.int .u8 ((n : Int) / 16777216), .int .u8 ((n : Int) / 65536 % 256), .int .u8 ((n : Int) / 256 % 256), .int .u8 ((n : Int) % 256)] 5)) := by
  have e : be4 n = [n / 16777216, n / 65536 % 256, n / 256 % 256, n % 256] := by
    unfold be4; rw [Nat.mod_eq_of_lt (show n / 16777216 < 256 by omega)]
  rw [e]
  exact conv_str _ _ [n / 16777216, n / 65536 % 256, n / 256 % 256, n % 256] 5 4 (Has.new _ _ _ _ rfl)
set_option maxRecDepth 20000 in
theorem four_any (n : Nat) (hn : n < 2147483648) (w : World) : Calls Tryd.prog 28 #[.int .i64 (n : Int)] w fun e w' => e = .returned (.string (ofBs (be4 n))) ∧ Below w.heap.size w w' := by
  have HC := conv4 n hn w
  generalize ofBs (be4 n) = X at *
  go_enter Tryd.func28, Tryd.ntmps28
  go_wp2
  go_ret
  exact ⟨rfl, (Below.refl _ _).alloc (Nat.le_refl _) _⟩
theorem conv4r (n : Nat) (w : World) : (convert 32 9 (.slice (some ⟨w.heap.size, 0, none⟩) 4 4)).run Tryd.prog (w.alloc (.cells #[.int .u8 ((n : Int) / 16777216 % 256), .int .u8 ((n : Int) / 65536 % 256), .int .u8 ((n : Int) / 256 % 256), .int .u8 ((n : Int) % 256)] 5)) = .ok (.string (ofBs (be4 n))) (w.alloc (.cells #[.int .u8 ((n : Int) / 16777216 % 256), .int .u8 ((n : Int) / 65536 % 256), .int .u8 ((n : Int) / 256 % 256), .int .u8 ((n : Int) % 256)] 5)) :=
  conv_str _ _ (be4 n) 5 4 (Has.new _ _ _ _ rfl)
set_option maxRecDepth 20000 in
theorem refFour_any (n : Nat) (hn : n < 2147483648) (w : World) : Calls Tryd.prog 25 #[.int .i64 (n : Int)] w fun e w' => e = .returned (.string (ofBs (be4 n))) ∧ Below w.heap.size w w' := by
  have HC := conv4r n w
  generalize ofBs (be4 n) = X at *
  go_enter Tryd.func25, Tryd.ntmps25
  go_wp2
  go_ret
  exact ⟨rfl, (Below.refl _ _).alloc (Nat.le_refl _) _⟩
end Go.Proofs.YtnepfllbfagfnaaDoor
