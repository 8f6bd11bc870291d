/- Rows of numbers as cells; a field in memory. -/
import Derived.Test.YtfbjpgcgdhhfnaaProg
import Derived.Test.YtfbjpgcgdhhfnaaHeap
import Derived.Test.YtfbjpgcgdhhfnaaNum
import Derived.WalkKit
import Derived.WalkSpells
import Derived.WalkLawsBesides
import Derived.Laws.BitsAllLaws
import Derived.KernelRfl
namespace Go.Proofs.Ytfbjpgcgdhhfnaa
open Go.RowKit
theorem ret_int {k : IntKind} {a b : Int} (h : a = b) : Ending.returned (.int k a) = .returned (.int k b) := by rw [h]
theorem wrap_i64_of {n : Int} (h1 : -9223372036854775808 ≤ n) (h2 : n ≤ 9223372036854775807) : IntKind.i64.wrap n = n := by
  simp [IntKind.wrap, IntKind.bits, IntKind.signed]; omega
def U8s (b : List Nat) : Array Value := (b.map fun x : Nat => Value.int .u8 (x : Int)).toArray
theorem U8s_size (b : List Nat) : (U8s b).size = b.length := by simp [U8s]
theorem U8s_get (b : List Nat) (i : Nat) (h : i < b.length) : (U8s b)[i]? = some (.int .u8 ((b.getD i 0 : Nat) : Int)) := by
  simp [U8s, List.getD_eq_getElem?_getD, List.getElem?_eq_getElem h]
theorem U8s_set (b : List Nat) (i x : Nat) : (U8s b).setIfInBounds i (.int .u8 (x : Int)) = U8s (b.set i x) := by
  simp [U8s, List.map_set]
theorem cellsAt_length (n : Nat) : (Fld.cellsAt n).length = 511 := by
  induction n with
  | zero => exact List.length_replicate
  | succ n ih => simp [Fld.cellsAt, ih]
theorem belowCall {w W W' : World} (h : Below w.heap.size w W) (hb : Below W.heap.size W W') : Below w.heap.size w W' := h.trans (hb.mono h.size)
theorem zero79 (w : World) : (zeroValue 79).run Try.prog w = .ok (.agg (U8s (Fld.cellsAt 0))) w := by kernel_rfl
theorem i64_xor_nat (a b : Nat) (ha : a < 2 ^ 63) (hb : b < 2 ^ 63) : bits .xor .i64 (a : Int) (b : Int) = ((a ^^^ b : Nat) : Int) := by
  have hx : a ^^^ b < 2 ^ 63 := Nat.xor_lt_two_pow ha hb
  show IntKind.i64.wrap ((BitVec.ofInt 64 (a : Int) ^^^ BitVec.ofInt 64 (b : Int)).toNat : Int) = _
  rw [BitVec.toNat_xor, BitVec.ofInt_natCast, BitVec.ofInt_natCast, BitVec.toNat_ofNat, BitVec.toNat_ofNat, Nat.mod_eq_of_lt (by omega), Nat.mod_eq_of_lt (by omega)]
  exact wrap_i64_of (by omega) (by omega)
theorem i64_and_nat (a b : Nat) (ha : a < 2 ^ 63) (hb : b < 2 ^ 63) : bits .and .i64 (a : Int) (b : Int) = ((a &&& b : Nat) : Int) := by
  have hx : a &&& b < 2 ^ 63 := Nat.and_lt_two_pow _ hb
  show IntKind.i64.wrap ((BitVec.ofInt 64 (a : Int) &&& BitVec.ofInt 64 (b : Int)).toNat : Int) = _
  rw [BitVec.toNat_and, BitVec.ofInt_natCast, BitVec.ofInt_natCast, BitVec.toNat_ofNat, BitVec.toNat_ofNat, Nat.mod_eq_of_lt (by omega), Nat.mod_eq_of_lt (by omega)]
  exact wrap_i64_of (by omega) (by omega)
theorem and_pow_ne (b k : Nat) : (b &&& 2 ^ k ≠ 0) ↔ b.testBit k = true := by
  constructor
  · intro h
    cases hb : b.testBit k
    · exfalso; apply h
      apply Nat.eq_of_testBit_eq
      intro i
      rw [Nat.testBit_and, Nat.testBit_two_pow, Nat.zero_testBit]
      by_cases hk : k = i
      · subst hk; simp [hb]
      · simp [hk]
    · rfl
  · intro h h0
    have := congrArg (fun x => Nat.testBit x k) h0
    simp [Nat.testBit_and, h] at this
end Go.Proofs.Ytfbjpgcgdhhfnaa
