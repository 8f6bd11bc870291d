/- A frame as a list tells it: what cuts parts off, and numbers of 4 bytes. -/
import Derived.Test.YtnepfllbfagfnaaDoorF1
namespace Go.Proofs.YtnepfllbfagfnaaDoor
open Go.RowKit
set_option maxRecDepth 20000 in
theorem cut_any (b g o n c k : Nat) (w : World) (hb : Has w b #[.slice (some ⟨g, o, none⟩) n c] 32) (hk : k ≤ n) (hc : n ≤ c) (hkc : k < c) :
    Calls Tryd.prog 38 #[.int .i64 (k : Int), .pointer (some ⟨b, 0, none⟩)] w fun e w' => e = .returned (.slice (some ⟨g, o, none⟩) k k) ∧ Has w' b #[.slice (some ⟨g, o + k, none⟩) (n - k) (c - k)] 32 ∧ Only b w w' := by
  have c0 : w.cell? ⟨b, 0, none⟩ = some (.slice (some ⟨g, o, none⟩) n c) := hb.cell 0
  have f0 := hb.frozen 0
  have q1 : (k : Int) ≤ (n : Int) := by omega
  have q2 : (k : Int) ≤ (c : Int) := by omega
  have q3 : (n : Int) ≤ (c : Int) := by omega
  have q4 : c ≠ k := by omega
  go_enter Tryd.func38, Tryd.ntmps38
  go_wp2
  go_ret
  exact ⟨rfl, hb.set 0 _, (Only.refl _ _).setCell 0 _⟩
theorem or8 (x b : Nat) (hx : x < 1099511627776) (hb : b < 256) : bits .or .i64 ((x : Int) * 256) (b : Int) = ((x * 256 + b : Nat) : Int) := by
  have e : (x : Int) * 256 = ((x * 256 : Nat) : Int) := by omega
  rw [e]
  show IntKind.i64.wrap ((BitVec.ofInt 64 ((x * 256 : Nat) : Int) ||| BitVec.ofInt 64 (b : Int)).toNat : Int) = _
  rw [BitVec.toNat_or, ofInt_u64 _ (by omega), ofInt_u64 b (by omega), nat_join 8 _ _ (by omega) hb]
  exact wrap_i64_of (by omega) (by omega)
theorem or8x (x b : Nat) (hx : x < 1099511627776) (hb : b < 256) : ∃ y : Nat, Hid (y = x * 256 + b) ∧ bits .or .i64 ((x : Int) * 256) (b : Int) = (y : Int) := ⟨_, rfl, or8 x b hx hb⟩
set_option maxRecDepth 20000 in
theorem number_any (b0 b1 b2 b3 : Nat) (h0 : b0 < 256) (h1 : b1 < 256) (h2 : b2 < 256) (h3 : b3 < 256) (g o : Nat) (w : World) (c0 : w.cell? ⟨g, o, none⟩ = some (.int .u8 (b0 : Int))) (c1 : w.cell? ⟨g, o + 1, none⟩ = some (.int .u8 (b1 : Int))) (c2 : w.cell? ⟨g, o + 2, none⟩ = some (.int .u8 (b2 : Int))) (c3 : w.cell? ⟨g, o + 3, none⟩ = some (.int .u8 (b3 : Int))) :
    Calls Tryd.prog 30 #[.slice (some ⟨g, o, none⟩) 4 4] w fun e w' => e = .returned (.int .i64 ((b0 * 16777216 + b1 * 65536 + b2 * 256 + b3 : Nat) : Int)) ∧ w' = w := by
  have E0 : bits .or .i64 0 (b0 : Int) = (b0 : Int) := by have := or8 0 b0 (by omega) h0; simpa using this
  obtain ⟨x1, y1, E1⟩ := or8x b0 b1 (by omega) h1
  have l1 : x1 < 65536 := by rw [y1.out]; omega
  obtain ⟨x2, y2, E2⟩ := or8x x1 b2 (by omega) h2
  have l2 : x2 < 16777216 := by rw [y2.out]; omega
  obtain ⟨x3, y3, E3⟩ := or8x x2 b3 (by omega) h3
  have HZ : Hid (((b0 * 16777216 + b1 * 65536 + b2 * 256 + b3 : Nat) : Int) = (x3 : Int)) := by
    have a1 := y1.out; have a2 := y2.out; have a3 := y3.out
    unfold Hid; omega
  clear y1 y2 y3
  rw [HZ.out]
  clear HZ
  go_enter Tryd.func30, Tryd.ntmps30
  go_wp2_with fail
  refine wp_loop_rounds 5 ?_
  rw [rounds_succ]
  go_wp2_with fail
  rw [rounds_succ]
  go_wp2_with fail
  rw [rounds_succ]
  go_wp2_with fail
  rw [rounds_succ]
  go_wp2_with fail
  rw [rounds_succ]
  go_wp2_with fail
  go_ret
  exact ⟨rfl, rfl⟩
end Go.Proofs.YtnepfllbfagfnaaDoor
