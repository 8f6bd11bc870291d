/- The contract of the document's Tree. -/
import Derived.Test.YtnhekngmgjnodaaDoorTree
namespace Go.Proofs.YtnhekngmgjnodaaDoor
open Go.RowKit Go.Maps
open Pa
set_option linter.unusedVariables false
section
variable {ev : Operand → Value} {o : Oper} {w : World} {x y z : Operand}
theorem rn_neq9 {u : ByteArray} {c : Bool} (ho : o.op = .binOp .neq 9 x y 9) (hx : ev x = .string u) (hy : ev y = .string ⟨#[]⟩) (hc : (!decide (u.size = 0)) = c) : (execOp ev o).run Tryd.prog w = .ok (.value (.bool c)) w := by
  subst hc
  have h := toLe u
  simp [execOp, ho, hx, hy, go_sem, h]
end
def tqV1 (x0 p0 x2 : ByteArray) (k g o n c : Nat) : Nat → Value
  | 15 => .slice (some ⟨g, o, none⟩) n c
  | 16 => .int .i64 (k : Int)
  | 17 => .pointer (some ⟨g, o + k * 3, none⟩)
  | 18 => .pointer (some ⟨g, o + k * 3, none⟩)
  | 19 => .string x0
  | 20 => .bool false
  | 21 => .bool true
  | 22 => .bool true
  | 39 => .bool true
  | 40 => .bool true
  | 48 => .bool true
  | 49 => .bool true
  | 63 => .bool true
  | _ => undef
def tqF1 (x0 p0 x2 : ByteArray) (k g o n c : Nat) (d : Nat) (v : Value) (_ : World) : Prop := v = tqV1 x0 p0 x2 k g o n c d
def tqV3a (x0 p0 x2 : ByteArray) (k g o n c : Nat) : Nat → Value
  | 15 => .slice (some ⟨g, o, none⟩) n c
  | 16 => .int .i64 (k : Int)
  | 17 => .pointer (some ⟨g, o + k * 3, none⟩)
  | 18 => .pointer (some ⟨g, o + k * 3, none⟩)
  | 19 => .string x0
  | 20 => .bool true
  | 21 => .bool false
  | 22 => .bool false
  | 23 => .int .i64 (k : Int)
  | 24 => .bool false
  | 25 => .bool false
  | 38 => .bool false
  | 39 => .bool false
  | 40 => .bool false
  | 41 => .slice (some ⟨g, o, none⟩) n c
  | 42 => .int .i64 (k : Int)
  | 43 => .pointer (some ⟨g, o + k * 3, none⟩)
  | 44 => .pointer (some ⟨g, o + k * 3 + 2, none⟩)
  | 45 => .string x2
  | 46 => .int .i64 (x2.size : Int)
  | 47 => .bool true
  | 48 => .bool true
  | 49 => .bool true
  | 63 => .bool true
  | _ => undef
def tqF3a (x0 p0 x2 : ByteArray) (k g o n c : Nat) (d : Nat) (v : Value) (_ : World) : Prop := v = tqV3a x0 p0 x2 k g o n c d
def tqV4a (x0 p0 x2 : ByteArray) (k g o n c : Nat) : Nat → Value
  | 15 => .slice (some ⟨g, o, none⟩) n c
  | 16 => .int .i64 (k : Int)
  | 17 => .pointer (some ⟨g, o + k * 3, none⟩)
  | 18 => .pointer (some ⟨g, o + k * 3, none⟩)
  | 19 => .string x0
  | 20 => .bool true
  | 21 => .bool false
  | 22 => .bool false
  | 23 => .int .i64 (k : Int)
  | 24 => .bool false
  | 25 => .bool false
  | 38 => .bool false
  | 39 => .bool false
  | 40 => .bool false
  | 41 => .slice (some ⟨g, o, none⟩) n c
  | 42 => .int .i64 (k : Int)
  | 43 => .pointer (some ⟨g, o + k * 3, none⟩)
  | 44 => .pointer (some ⟨g, o + k * 3 + 2, none⟩)
  | 45 => .string x2
  | 46 => .int .i64 (x2.size : Int)
  | 47 => .bool false
  | 48 => .bool false
  | 49 => .bool false
  | 50 => .slice (some ⟨g, o, none⟩) n c
  | 51 => .int .i64 (k : Int)
  | 52 => .pointer (some ⟨g, o + k * 3, none⟩)
  | 53 => .pointer (some ⟨g, o + k * 3 + 1, none⟩)
  | 54 => .bool true
  | 55 => .bool true
  | 56 => .slice (some ⟨g, o, none⟩) n c
  | 57 => .int .i64 (k : Int)
  | 58 => .pointer (some ⟨g, o + k * 3, none⟩)
  | 59 => .pointer (some ⟨g, o + k * 3 + 2, none⟩)
  | 60 => .string x2
  | 61 => .bool false
  | 62 => .bool false
  | 63 => .bool false
  | _ => undef
def tqF4a (x0 p0 x2 : ByteArray) (k g o n c : Nat) (d : Nat) (v : Value) (_ : World) : Prop := v = tqV4a x0 p0 x2 k g o n c d
def tqV5a (x0 p0 x2 : ByteArray) (k g o n c : Nat) : Nat → Value
  | 15 => .slice (some ⟨g, o, none⟩) n c
  | 16 => .int .i64 (k : Int)
  | 17 => .pointer (some ⟨g, o + k * 3, none⟩)
  | 18 => .pointer (some ⟨g, o + k * 3, none⟩)
  | 19 => .string x0
  | 20 => .bool true
  | 21 => .bool false
  | 22 => .bool false
  | 23 => .int .i64 (k : Int)
  | 24 => .bool false
  | 25 => .bool false
  | 38 => .bool false
  | 39 => .bool false
  | 40 => .bool false
  | 41 => .slice (some ⟨g, o, none⟩) n c
  | 42 => .int .i64 (k : Int)
  | 43 => .pointer (some ⟨g, o + k * 3, none⟩)
  | 44 => .pointer (some ⟨g, o + k * 3 + 2, none⟩)
  | 45 => .string x2
  | 46 => .int .i64 (x2.size : Int)
  | 47 => .bool false
  | 48 => .bool false
  | 49 => .bool false
  | 50 => .slice (some ⟨g, o, none⟩) n c
  | 51 => .int .i64 (k : Int)
  | 52 => .pointer (some ⟨g, o + k * 3, none⟩)
  | 53 => .pointer (some ⟨g, o + k * 3 + 1, none⟩)
  | 54 => .bool true
  | 55 => .bool true
  | 56 => .slice (some ⟨g, o, none⟩) n c
  | 57 => .int .i64 (k : Int)
  | 58 => .pointer (some ⟨g, o + k * 3, none⟩)
  | 59 => .pointer (some ⟨g, o + k * 3 + 2, none⟩)
  | 60 => .string x2
  | 61 => .bool true
  | 62 => .bool true
  | 63 => .bool true
  | _ => undef
def tqF5a (x0 p0 x2 : ByteArray) (k g o n c : Nat) (d : Nat) (v : Value) (_ : World) : Prop := v = tqV5a x0 p0 x2 k g o n c d
def tqV6a (x0 p0 x2 : ByteArray) (k g o n c : Nat) : Nat → Value
  | 15 => .slice (some ⟨g, o, none⟩) n c
  | 16 => .int .i64 (k : Int)
  | 17 => .pointer (some ⟨g, o + k * 3, none⟩)
  | 18 => .pointer (some ⟨g, o + k * 3, none⟩)
  | 19 => .string x0
  | 20 => .bool true
  | 21 => .bool false
  | 22 => .bool false
  | 23 => .int .i64 (k : Int)
  | 24 => .bool false
  | 25 => .bool false
  | 38 => .bool false
  | 39 => .bool false
  | 40 => .bool false
  | 41 => .slice (some ⟨g, o, none⟩) n c
  | 42 => .int .i64 (k : Int)
  | 43 => .pointer (some ⟨g, o + k * 3, none⟩)
  | 44 => .pointer (some ⟨g, o + k * 3 + 2, none⟩)
  | 45 => .string x2
  | 46 => .int .i64 (x2.size : Int)
  | 47 => .bool false
  | 48 => .bool false
  | 49 => .bool false
  | 50 => .slice (some ⟨g, o, none⟩) n c
  | 51 => .int .i64 (k : Int)
  | 52 => .pointer (some ⟨g, o + k * 3, none⟩)
  | 53 => .pointer (some ⟨g, o + k * 3 + 1, none⟩)
  | 54 => .bool false
  | 55 => .bool false
  | 62 => .bool false
  | 63 => .bool false
  | _ => undef
def tqF6a (x0 p0 x2 : ByteArray) (k g o n c : Nat) (d : Nat) (v : Value) (_ : World) : Prop := v = tqV6a x0 p0 x2 k g o n c d
def tqV2 (x0 p0 x2 : ByteArray) (k g o n c : Nat) : Nat → Value
  | 15 => .slice (some ⟨g, o, none⟩) n c
  | 16 => .int .i64 (k : Int)
  | 17 => .pointer (some ⟨g, o + k * 3, none⟩)
  | 18 => .pointer (some ⟨g, o + k * 3, none⟩)
  | 19 => .string x0
  | 20 => .bool true
  | 21 => .bool false
  | 22 => .bool false
  | 23 => .int .i64 (k : Int)
  | 24 => .bool true
  | 25 => .bool true
  | 26 => .slice (some ⟨g, o, none⟩) n c
  | 27 => .int .i64 (k : Int)
  | 28 => .pointer (some ⟨g, o + k * 3, none⟩)
  | 29 => .pointer (some ⟨g, o + k * 3, none⟩)
  | 30 => .string x0
  | 31 => .slice (some ⟨g, o, none⟩) n c
  | 32 => .int .i64 (k : Int)
  | 33 => .int .i64 ((k - 1 : Nat) : Int)
  | 34 => .pointer (some ⟨g, o + (k - 1) * 3, none⟩)
  | 35 => .pointer (some ⟨g, o + (k - 1) * 3, none⟩)
  | 36 => .string p0
  | 37 => .bool true
  | 38 => .bool true
  | 39 => .bool true
  | 40 => .bool true
  | 48 => .bool true
  | 49 => .bool true
  | 63 => .bool true
  | _ => undef
def tqF2 (x0 p0 x2 : ByteArray) (k g o n c : Nat) (d : Nat) (v : Value) (_ : World) : Prop := v = tqV2 x0 p0 x2 k g o n c d
def tqV3b (x0 p0 x2 : ByteArray) (k g o n c : Nat) : Nat → Value
  | 15 => .slice (some ⟨g, o, none⟩) n c
  | 16 => .int .i64 (k : Int)
  | 17 => .pointer (some ⟨g, o + k * 3, none⟩)
  | 18 => .pointer (some ⟨g, o + k * 3, none⟩)
  | 19 => .string x0
  | 20 => .bool true
  | 21 => .bool false
  | 22 => .bool false
  | 23 => .int .i64 (k : Int)
  | 24 => .bool true
  | 25 => .bool true
  | 26 => .slice (some ⟨g, o, none⟩) n c
  | 27 => .int .i64 (k : Int)
  | 28 => .pointer (some ⟨g, o + k * 3, none⟩)
  | 29 => .pointer (some ⟨g, o + k * 3, none⟩)
  | 30 => .string x0
  | 31 => .slice (some ⟨g, o, none⟩) n c
  | 32 => .int .i64 (k : Int)
  | 33 => .int .i64 ((k - 1 : Nat) : Int)
  | 34 => .pointer (some ⟨g, o + (k - 1) * 3, none⟩)
  | 35 => .pointer (some ⟨g, o + (k - 1) * 3, none⟩)
  | 36 => .string p0
  | 37 => .bool false
  | 38 => .bool false
  | 39 => .bool false
  | 40 => .bool false
  | 41 => .slice (some ⟨g, o, none⟩) n c
  | 42 => .int .i64 (k : Int)
  | 43 => .pointer (some ⟨g, o + k * 3, none⟩)
  | 44 => .pointer (some ⟨g, o + k * 3 + 2, none⟩)
  | 45 => .string x2
  | 46 => .int .i64 (x2.size : Int)
  | 47 => .bool true
  | 48 => .bool true
  | 49 => .bool true
  | 63 => .bool true
  | _ => undef
def tqF3b (x0 p0 x2 : ByteArray) (k g o n c : Nat) (d : Nat) (v : Value) (_ : World) : Prop := v = tqV3b x0 p0 x2 k g o n c d
def tqV4b (x0 p0 x2 : ByteArray) (k g o n c : Nat) : Nat → Value
  | 15 => .slice (some ⟨g, o, none⟩) n c
  | 16 => .int .i64 (k : Int)
  | 17 => .pointer (some ⟨g, o + k * 3, none⟩)
  | 18 => .pointer (some ⟨g, o + k * 3, none⟩)
  | 19 => .string x0
  | 20 => .bool true
  | 21 => .bool false
  | 22 => .bool false
  | 23 => .int .i64 (k : Int)
  | 24 => .bool true
  | 25 => .bool true
  | 26 => .slice (some ⟨g, o, none⟩) n c
  | 27 => .int .i64 (k : Int)
  | 28 => .pointer (some ⟨g, o + k * 3, none⟩)
  | 29 => .pointer (some ⟨g, o + k * 3, none⟩)
  | 30 => .string x0
  | 31 => .slice (some ⟨g, o, none⟩) n c
  | 32 => .int .i64 (k : Int)
  | 33 => .int .i64 ((k - 1 : Nat) : Int)
  | 34 => .pointer (some ⟨g, o + (k - 1) * 3, none⟩)
  | 35 => .pointer (some ⟨g, o + (k - 1) * 3, none⟩)
  | 36 => .string p0
  | 37 => .bool false
  | 38 => .bool false
  | 39 => .bool false
  | 40 => .bool false
  | 41 => .slice (some ⟨g, o, none⟩) n c
  | 42 => .int .i64 (k : Int)
  | 43 => .pointer (some ⟨g, o + k * 3, none⟩)
  | 44 => .pointer (some ⟨g, o + k * 3 + 2, none⟩)
  | 45 => .string x2
  | 46 => .int .i64 (x2.size : Int)
  | 47 => .bool false
  | 48 => .bool false
  | 49 => .bool false
  | 50 => .slice (some ⟨g, o, none⟩) n c
  | 51 => .int .i64 (k : Int)
  | 52 => .pointer (some ⟨g, o + k * 3, none⟩)
  | 53 => .pointer (some ⟨g, o + k * 3 + 1, none⟩)
  | 54 => .bool true
  | 55 => .bool true
  | 56 => .slice (some ⟨g, o, none⟩) n c
  | 57 => .int .i64 (k : Int)
  | 58 => .pointer (some ⟨g, o + k * 3, none⟩)
  | 59 => .pointer (some ⟨g, o + k * 3 + 2, none⟩)
  | 60 => .string x2
  | 61 => .bool false
  | 62 => .bool false
  | 63 => .bool false
  | _ => undef
def tqF4b (x0 p0 x2 : ByteArray) (k g o n c : Nat) (d : Nat) (v : Value) (_ : World) : Prop := v = tqV4b x0 p0 x2 k g o n c d
def tqV5b (x0 p0 x2 : ByteArray) (k g o n c : Nat) : Nat → Value
  | 15 => .slice (some ⟨g, o, none⟩) n c
  | 16 => .int .i64 (k : Int)
  | 17 => .pointer (some ⟨g, o + k * 3, none⟩)
  | 18 => .pointer (some ⟨g, o + k * 3, none⟩)
  | 19 => .string x0
  | 20 => .bool true
  | 21 => .bool false
  | 22 => .bool false
  | 23 => .int .i64 (k : Int)
  | 24 => .bool true
  | 25 => .bool true
  | 26 => .slice (some ⟨g, o, none⟩) n c
  | 27 => .int .i64 (k : Int)
  | 28 => .pointer (some ⟨g, o + k * 3, none⟩)
  | 29 => .pointer (some ⟨g, o + k * 3, none⟩)
  | 30 => .string x0
  | 31 => .slice (some ⟨g, o, none⟩) n c
  | 32 => .int .i64 (k : Int)
  | 33 => .int .i64 ((k - 1 : Nat) : Int)
  | 34 => .pointer (some ⟨g, o + (k - 1) * 3, none⟩)
  | 35 => .pointer (some ⟨g, o + (k - 1) * 3, none⟩)
  | 36 => .string p0
  | 37 => .bool false
  | 38 => .bool false
  | 39 => .bool false
  | 40 => .bool false
  | 41 => .slice (some ⟨g, o, none⟩) n c
  | 42 => .int .i64 (k : Int)
  | 43 => .pointer (some ⟨g, o + k * 3, none⟩)
  | 44 => .pointer (some ⟨g, o + k * 3 + 2, none⟩)
  | 45 => .string x2
  | 46 => .int .i64 (x2.size : Int)
  | 47 => .bool false
  | 48 => .bool false
  | 49 => .bool false
  | 50 => .slice (some ⟨g, o, none⟩) n c
  | 51 => .int .i64 (k : Int)
  | 52 => .pointer (some ⟨g, o + k * 3, none⟩)
  | 53 => .pointer (some ⟨g, o + k * 3 + 1, none⟩)
  | 54 => .bool true
  | 55 => .bool true
  | 56 => .slice (some ⟨g, o, none⟩) n c
  | 57 => .int .i64 (k : Int)
  | 58 => .pointer (some ⟨g, o + k * 3, none⟩)
  | 59 => .pointer (some ⟨g, o + k * 3 + 2, none⟩)
  | 60 => .string x2
  | 61 => .bool true
  | 62 => .bool true
  | 63 => .bool true
  | _ => undef
def tqF5b (x0 p0 x2 : ByteArray) (k g o n c : Nat) (d : Nat) (v : Value) (_ : World) : Prop := v = tqV5b x0 p0 x2 k g o n c d
def tqV6b (x0 p0 x2 : ByteArray) (k g o n c : Nat) : Nat → Value
  | 15 => .slice (some ⟨g, o, none⟩) n c
  | 16 => .int .i64 (k : Int)
  | 17 => .pointer (some ⟨g, o + k * 3, none⟩)
  | 18 => .pointer (some ⟨g, o + k * 3, none⟩)
  | 19 => .string x0
  | 20 => .bool true
  | 21 => .bool false
  | 22 => .bool false
  | 23 => .int .i64 (k : Int)
  | 24 => .bool true
  | 25 => .bool true
  | 26 => .slice (some ⟨g, o, none⟩) n c
  | 27 => .int .i64 (k : Int)
  | 28 => .pointer (some ⟨g, o + k * 3, none⟩)
  | 29 => .pointer (some ⟨g, o + k * 3, none⟩)
  | 30 => .string x0
  | 31 => .slice (some ⟨g, o, none⟩) n c
  | 32 => .int .i64 (k : Int)
  | 33 => .int .i64 ((k - 1 : Nat) : Int)
  | 34 => .pointer (some ⟨g, o + (k - 1) * 3, none⟩)
  | 35 => .pointer (some ⟨g, o + (k - 1) * 3, none⟩)
  | 36 => .string p0
  | 37 => .bool false
  | 38 => .bool false
  | 39 => .bool false
  | 40 => .bool false
  | 41 => .slice (some ⟨g, o, none⟩) n c
  | 42 => .int .i64 (k : Int)
  | 43 => .pointer (some ⟨g, o + k * 3, none⟩)
  | 44 => .pointer (some ⟨g, o + k * 3 + 2, none⟩)
  | 45 => .string x2
  | 46 => .int .i64 (x2.size : Int)
  | 47 => .bool false
  | 48 => .bool false
  | 49 => .bool false
  | 50 => .slice (some ⟨g, o, none⟩) n c
  | 51 => .int .i64 (k : Int)
  | 52 => .pointer (some ⟨g, o + k * 3, none⟩)
  | 53 => .pointer (some ⟨g, o + k * 3 + 1, none⟩)
  | 54 => .bool false
  | 55 => .bool false
  | 62 => .bool false
  | 63 => .bool false
  | _ => undef
def tqF6b (x0 p0 x2 : ByteArray) (k g o n c : Nat) (d : Nat) (v : Value) (_ : World) : Prop := v = tqV6b x0 p0 x2 k g o n c d
set_option maxRecDepth 20000 in
set_option maxHeartbeats 16000000 in
theorem refTree_any (l : List Fl) (A : Option Addr) (c : Nat) (hs : Small l) (w : World) (hl : Fs w A l) :
    Calls Tryd.prog 17 #[.slice A l.length c] w fun e w' => e = .returned (.bool (treeR l)) ∧ Below w.heap.size w w' := by
  have HL := hid hl
  have HS := hid hs
  obtain ⟨n, hnn⟩ : ∃ n, n = l.length := ⟨_, rfl⟩
  have HN := hid hnn
  have hn3 : n ≤ 300 := by rw [hnn]; exact hs.1
  obtain ⟨r, hr⟩ : ∃ r, r = treeR l := ⟨_, rfl⟩
  have HR := hid hr
  rw [← hnn, ← hr]
  clear hl hs hnn hr
  by_cases h256 : 256 < n
  · have i2 : (256 : Int) < (n : Int) := by omega
    have hrf : r = false := by rw [HR.out]; unfold treeR; rw [decide_eq_false (by rw [← HN.out]; omega)]; rfl
    subst hrf
    go_enter Tryd.func17, Tryd.ntmps17
    go_wp2_with fail
    go_ret
    exact ⟨rfl, Below.refl _ _⟩
  have i2 : ¬ (256 : Int) < (n : Int) := by omega
  have HTP : Hid (treeR l = (List.range n).all (okR l)) := hid (by unfold treeR; rw [decide_eq_true (by rw [← HN.out]; omega), Bool.true_and, HN.out])
  go_enter Tryd.func17, Tryd.ntmps17
  go_wp2_with fail
  go_loopw [3, 4, 5] (fun v3 _ _ wr => ∃ k : Nat, k ≤ n ∧ v3 = .int .i64 (k : Int) ∧ Hid ((List.range k).all (okR l) = true) ∧ Hid (Below w.heap.size w wr)) (fun v3 _ _ _ => n - (intOf v3).toNat)
  case atStart => exact ⟨0, Nat.zero_le _, rfl, hid rfl, hid (Below.refl _ _)⟩
  case round =>
    obtain ⟨k, hk, rfl, HA, HB⟩ := hrel
    by_cases hlt : k < n
    · have hkl : k < l.length := by rw [← HN.out]; exact hlt
      obtain ⟨g, o, rfl, hg, c0, c1, c2⟩ := fs_cell HL.out HB.out hkl
      have hpz := (HS.out.2 _ (getF_mem hkl)).1
      have HPZ := hid hpz
      have i1 : (k : Int) < (n : Int) := by omega
      have i0 : (0 : Int) ≤ (k : Int) := by omega
      have wk : IntKind.i64.wrap ((k : Int) + 1) = ((k + 1 : Nat) : Int) := by rw [IntKind.wrap_i64]; omega
      have HOK : Hid (okR l k = (mayB (l.getD k default).path && ((decide (k = 0) || lt (l.getD (k - 1) default).path (l.getD k default).path) && (holdB (l.getD k default) && (!abB (l.getD k default).path || dirB l (abU (l.getD k default).path)))))) := hid rfl
      have HAS := hid (all_snoc (okR l) k)
      have HAN := hid (fun h => all_not (f := okR l) hlt h)
      have C1 := hid (fun W => refMay_any (l.getD k default).path (by omega) W)
      have C3 := fun W => refAbove_any (l.getD k default).path W (by omega)
      have CD := hid (fun (W : World) (hW : Below w.heap.size w W) => dir_any l (some ⟨g, o, none⟩) c (abU (l.getD k default).path) (by have := HS.out.1; omega) W (HL.out.below hW))
      rw [← HN.out] at CD
      generalize hx : l.getD k default = x at *
      clear hx
      obtain ⟨x0, x1, x2⟩ := x
      dsimp only at c0 c1 c2 hpz HPZ HOK C1 C3 CD
      have HLG : Hid (g < wr.heap.size) := hid (Nat.lt_of_lt_of_le hg HB.out.size)
      cases hm : mayB x0 with
      | false =>
        have hrf : r = false := by rw [HR.out, HTP.out]; exact HAN.out (by rw [HOK.out, hm]; rfl)
        have CM := hid (fun W => (show Calls Tryd.prog 15 #[.string x0] W fun e w' => e = .returned (.bool false) ∧ Below W.heap.size W w' from by have := C1.out W; rwa [hm] at this))
        clear hm C3 CD
        go_wp2_with fail
        refine Tl.wp_mix_lit (by kernel_rfl) 49 [15, 16, 17, 18, 19, 20, 21, 22, 23, 24, 25, 26, 27, 28, 29, 30, 31, 32, 33, 34, 35, 36, 37, 38, 39, 40, 41, 42, 43, 44, 45, 46, 47, 48, 49, 50, 51, 52, 53, 54, 55, 56, 57, 58, 59, 60, 61, 62, 63] 80 rfl (by kernel_rfl) (Below wr.heap.size wr) (tqF1 x0 x0 x2 k g o n c) ((Below.refl _ _).drew)
          ⟨fun a' W' hC hF => ?_, fun a' W' hC hF => ?_, fun a' W' hC hF => ?_, fun a' W' hC hF => ?_, fun a' W' hC hF => ?_, fun a' W' hC hF => ?_, fun a' W' hC hF => ?_, fun a' W' hC hF => ?_, fun a' W' hC hF => ?_, fun a' W' hC hF => ?_, fun a' W' hC hF => ?_, fun a' W' hC hF => ?_, fun a' W' hC hF => ?_, fun a' W' hC hF => ?_, fun a' W' hC hF => ?_, fun a' W' hC hF => ?_, fun a' W' hC hF => ?_, fun a' W' hC hF => ?_, fun a' W' hC hF => ?_, fun a' W' hC hF => ?_, fun a' W' hC hF => ?_, fun a' W' hC hF => ?_, fun a' W' hC hF => ?_, fun a' W' hC hF => ?_, fun a' W' hC hF => ?_, fun a' W' hC hF => ?_, fun a' W' hC hF => ?_, fun a' W' hC hF => ?_, fun a' W' hC hF => ?_, fun a' W' hC hF => ?_, fun a' W' hC hF => ?_, fun a' W' hC hF => ?_, fun a' W' hC hF => ?_, fun a' W' hC hF => ?_, fun a' W' hC hF => ?_, fun a' W' hC hF => ?_, fun a' W' hC hF => ?_, fun a' W' hC hF => ?_, fun a' W' hC hF => ?_, fun a' W' hC hF => ?_, fun a' W' hC hF => ?_, fun a' W' hC hF => ?_, fun a' W' hC hF => ?_, fun a' W' hC hF => ?_, fun a' W' hC hF => ?_, fun a' W' hC hF => ?_, fun a' W' hC hF => ?_, fun a' W' hC hF => ?_, fun a' W' hC hF => ?_, trivial⟩ ?_
        · exact Tl.sm_v 15 _ rfl (Tl.wanted_none rfl) hC rfl (rn_move rfl ((hF 0 (by decide +kernel)).2 (by decide)))
        · exact Tl.sm_v 16 _ rfl (Tl.wanted_none rfl) hC rfl (rn_move rfl ((hF 3 (by decide +kernel)).2 (by decide)))
        · exact Tl.sm_v 17 _ rfl (Tl.wanted_none rfl) hC rfl (rn_ix22 rfl (show Act.eval a' (.tmp 15) = .slice (some ⟨g, o, none⟩) n c from ((hF 15 (by decide +kernel)).1 (by decide))) (show Act.eval a' (.tmp 16) = .int .i64 (k : Int) from ((hF 16 (by decide +kernel)).1 (by decide))) (by omega))
        · exact Tl.sm_v 18 _ rfl (Tl.wanted_none rfl) hC rfl (rn_fa38_0 rfl (show Act.eval a' (.tmp 17) = .pointer (some ⟨g, o + k * 3, none⟩) from ((hF 17 (by decide +kernel)).1 (by decide))))
        · exact Tl.sm_v 19 _ rfl (Tl.wanted_none rfl) hC rfl (rn_load9 rfl (show Act.eval a' (.tmp 18) = .pointer (some ⟨g, o + k * 3, none⟩) from ((hF 18 (by decide +kernel)).1 (by decide))) ((hC.cell (p := ⟨g, o + k * 3, none⟩) HLG.out).trans c0))
        · refine Tl.sm_call 15 #[_] (Tl.wanted_none rfl) (rn_call1 rfl rfl (show Act.eval a' (.tmp 19) = .string x0 from ((hF 19 (by decide +kernel)).1 (by decide))) (en15 _ _)) ((CM.out W').mono ?_)
          rintro e W'' ⟨rfl, hb⟩
          exact ⟨_, rfl, hC.trans (hb.mono hC.size), fun d v _ h => h, fun d hd => by cases hd; rfl⟩
        · exact Tl.sm_v 21 _ rfl (Tl.wanted_none rfl) hC rfl (rn_not rfl (show Act.eval a' (.tmp 20) = .bool false from ((hF 20 (by decide +kernel)).1 (by decide))) rfl)
        · exact Tl.sm_v 22 _ rfl (Tl.wanted_none rfl) hC rfl (rn_move rfl (show Act.eval a' (.tmp 21) = .bool true from ((hF 21 (by decide +kernel)).1 (by decide))))
        · exact Tl.sm_skip (Tl.wanted_not rfl rfl (show Act.eval a' (.tmp 22) = .bool true from ((hF 22 (by decide +kernel)).1 (by decide)))) (fun d hd => by cases hd; rfl)
        · exact Tl.sm_skip (Tl.wanted_not rfl rfl (show Act.eval a' (.tmp 22) = .bool true from ((hF 22 (by decide +kernel)).1 (by decide)))) (fun d hd => by cases hd; rfl)
        · exact Tl.sm_skip (Tl.wanted_not rfl rfl (show Act.eval a' (.tmp 22) = .bool true from ((hF 22 (by decide +kernel)).1 (by decide)))) (fun d hd => by cases hd; rfl)
        · exact Tl.sm_skip (wanted_undef rfl rfl (show Act.eval a' (.tmp 25) = undef from ((hF 25 (by decide +kernel)).1 (by decide)))) (fun d hd => by cases hd; rfl)
        · exact Tl.sm_skip (wanted_undef rfl rfl (show Act.eval a' (.tmp 25) = undef from ((hF 25 (by decide +kernel)).1 (by decide)))) (fun d hd => by cases hd; rfl)
        · exact Tl.sm_skip (wanted_undef rfl rfl (show Act.eval a' (.tmp 25) = undef from ((hF 25 (by decide +kernel)).1 (by decide)))) (fun d hd => by cases hd; rfl)
        · exact Tl.sm_skip (wanted_undef rfl rfl (show Act.eval a' (.tmp 25) = undef from ((hF 25 (by decide +kernel)).1 (by decide)))) (fun d hd => by cases hd; rfl)
        · exact Tl.sm_skip (wanted_undef rfl rfl (show Act.eval a' (.tmp 25) = undef from ((hF 25 (by decide +kernel)).1 (by decide)))) (fun d hd => by cases hd; rfl)
        · exact Tl.sm_skip (wanted_undef rfl rfl (show Act.eval a' (.tmp 25) = undef from ((hF 25 (by decide +kernel)).1 (by decide)))) (fun d hd => by cases hd; rfl)
        · exact Tl.sm_skip (wanted_undef rfl rfl (show Act.eval a' (.tmp 25) = undef from ((hF 25 (by decide +kernel)).1 (by decide)))) (fun d hd => by cases hd; rfl)
        · exact Tl.sm_skip (wanted_undef rfl rfl (show Act.eval a' (.tmp 25) = undef from ((hF 25 (by decide +kernel)).1 (by decide)))) (fun d hd => by cases hd; rfl)
        · exact Tl.sm_skip (wanted_undef rfl rfl (show Act.eval a' (.tmp 25) = undef from ((hF 25 (by decide +kernel)).1 (by decide)))) (fun d hd => by cases hd; rfl)
        · exact Tl.sm_skip (wanted_undef rfl rfl (show Act.eval a' (.tmp 25) = undef from ((hF 25 (by decide +kernel)).1 (by decide)))) (fun d hd => by cases hd; rfl)
        · exact Tl.sm_skip (wanted_undef rfl rfl (show Act.eval a' (.tmp 25) = undef from ((hF 25 (by decide +kernel)).1 (by decide)))) (fun d hd => by cases hd; rfl)
        · exact Tl.sm_skip (wanted_undef rfl rfl (show Act.eval a' (.tmp 25) = undef from ((hF 25 (by decide +kernel)).1 (by decide)))) (fun d hd => by cases hd; rfl)
        · exact Tl.sm_skip (Tl.wanted_not rfl rfl (show Act.eval a' (.tmp 22) = .bool true from ((hF 22 (by decide +kernel)).1 (by decide)))) (fun d hd => by cases hd; rfl)
        · exact Tl.sm_v 39 _ rfl (Tl.wanted_none rfl) hC rfl (rn_pickT rfl (show Act.eval a' (.tmp 22) = .bool true from ((hF 22 (by decide +kernel)).1 (by decide))) rfl)
        · exact Tl.sm_v 40 _ rfl (Tl.wanted_none rfl) hC rfl (rn_move rfl (show Act.eval a' (.tmp 39) = .bool true from ((hF 39 (by decide +kernel)).1 (by decide))))
        · exact Tl.sm_skip (Tl.wanted_not rfl rfl (show Act.eval a' (.tmp 40) = .bool true from ((hF 40 (by decide +kernel)).1 (by decide)))) (fun d hd => by cases hd; rfl)
        · exact Tl.sm_skip (Tl.wanted_not rfl rfl (show Act.eval a' (.tmp 40) = .bool true from ((hF 40 (by decide +kernel)).1 (by decide)))) (fun d hd => by cases hd; rfl)
        · exact Tl.sm_skip (Tl.wanted_not rfl rfl (show Act.eval a' (.tmp 40) = .bool true from ((hF 40 (by decide +kernel)).1 (by decide)))) (fun d hd => by cases hd; rfl)
        · exact Tl.sm_skip (Tl.wanted_not rfl rfl (show Act.eval a' (.tmp 40) = .bool true from ((hF 40 (by decide +kernel)).1 (by decide)))) (fun d hd => by cases hd; rfl)
        · exact Tl.sm_skip (Tl.wanted_not rfl rfl (show Act.eval a' (.tmp 40) = .bool true from ((hF 40 (by decide +kernel)).1 (by decide)))) (fun d hd => by cases hd; rfl)
        · exact Tl.sm_skip (Tl.wanted_not rfl rfl (show Act.eval a' (.tmp 40) = .bool true from ((hF 40 (by decide +kernel)).1 (by decide)))) (fun d hd => by cases hd; rfl)
        · exact Tl.sm_skip (Tl.wanted_not rfl rfl (show Act.eval a' (.tmp 40) = .bool true from ((hF 40 (by decide +kernel)).1 (by decide)))) (fun d hd => by cases hd; rfl)
        · exact Tl.sm_v 48 _ rfl (Tl.wanted_none rfl) hC rfl (rn_pickT rfl (show Act.eval a' (.tmp 40) = .bool true from ((hF 40 (by decide +kernel)).1 (by decide))) rfl)
        · exact Tl.sm_v 49 _ rfl (Tl.wanted_none rfl) hC rfl (rn_move rfl (show Act.eval a' (.tmp 48) = .bool true from ((hF 48 (by decide +kernel)).1 (by decide))))
        · exact Tl.sm_skip (Tl.wanted_not rfl rfl (show Act.eval a' (.tmp 49) = .bool true from ((hF 49 (by decide +kernel)).1 (by decide)))) (fun d hd => by cases hd; rfl)
        · exact Tl.sm_skip (Tl.wanted_not rfl rfl (show Act.eval a' (.tmp 49) = .bool true from ((hF 49 (by decide +kernel)).1 (by decide)))) (fun d hd => by cases hd; rfl)
        · exact Tl.sm_skip (Tl.wanted_not rfl rfl (show Act.eval a' (.tmp 49) = .bool true from ((hF 49 (by decide +kernel)).1 (by decide)))) (fun d hd => by cases hd; rfl)
        · exact Tl.sm_skip (Tl.wanted_not rfl rfl (show Act.eval a' (.tmp 49) = .bool true from ((hF 49 (by decide +kernel)).1 (by decide)))) (fun d hd => by cases hd; rfl)
        · exact Tl.sm_skip (Tl.wanted_not rfl rfl (show Act.eval a' (.tmp 49) = .bool true from ((hF 49 (by decide +kernel)).1 (by decide)))) (fun d hd => by cases hd; rfl)
        · exact Tl.sm_skip (Tl.wanted_not rfl rfl (show Act.eval a' (.tmp 49) = .bool true from ((hF 49 (by decide +kernel)).1 (by decide)))) (fun d hd => by cases hd; rfl)
        · exact Tl.sm_skip (wanted_undef rfl rfl (show Act.eval a' (.tmp 55) = undef from ((hF 55 (by decide +kernel)).1 (by decide)))) (fun d hd => by cases hd; rfl)
        · exact Tl.sm_skip (wanted_undef rfl rfl (show Act.eval a' (.tmp 55) = undef from ((hF 55 (by decide +kernel)).1 (by decide)))) (fun d hd => by cases hd; rfl)
        · exact Tl.sm_skip (wanted_undef rfl rfl (show Act.eval a' (.tmp 55) = undef from ((hF 55 (by decide +kernel)).1 (by decide)))) (fun d hd => by cases hd; rfl)
        · exact Tl.sm_skip (wanted_undef rfl rfl (show Act.eval a' (.tmp 55) = undef from ((hF 55 (by decide +kernel)).1 (by decide)))) (fun d hd => by cases hd; rfl)
        · exact Tl.sm_skip (wanted_undef rfl rfl (show Act.eval a' (.tmp 55) = undef from ((hF 55 (by decide +kernel)).1 (by decide)))) (fun d hd => by cases hd; rfl)
        · exact Tl.sm_skip (wanted_undef rfl rfl (show Act.eval a' (.tmp 55) = undef from ((hF 55 (by decide +kernel)).1 (by decide)))) (fun d hd => by cases hd; rfl)
        · exact Tl.sm_skip (Tl.wanted_not rfl rfl (show Act.eval a' (.tmp 49) = .bool true from ((hF 49 (by decide +kernel)).1 (by decide)))) (fun d hd => by cases hd; rfl)
        · exact Tl.sm_v 63 _ rfl (Tl.wanted_none rfl) hC rfl (rn_pickT rfl (show Act.eval a' (.tmp 49) = .bool true from ((hF 49 (by decide +kernel)).1 (by decide))) rfl)
        intro v' w9 hC hv
        have e63 : v' 63 = .bool true := hv 63 (by decide)
        clear hv
        have HB9 := hid (HB.out.trans (hC.mono HB.out.size))
        clear hC c0 c1 c2
        simp only [Tl.fill, List.drop]
        simp only [Act.put, List.setIfInBounds_toArray, List.set_cons_succ, List.set_cons_zero, e63]
        subst hrf
        go_wp2_with fail
        go_ret
        exact ⟨rfl, HB9.out⟩
      | true =>
        have CM := hid (fun W => (show Calls Tryd.prog 15 #[.string x0] W fun e w' => e = .returned (.bool true) ∧ Below W.heap.size W w' from by have := C1.out W; rwa [hm] at this))
        by_cases hk0 : k = 0
        · have HK0 := hid hk0
          have hrise : (decide (k = 0) || lt (l.getD (k - 1) default).path x0) = true := by rw [decide_eq_true hk0]; rfl
          clear hk0
          by_cases hb0 : 16384 < x2.size
          · have hbig : decide ((16384 : Int) < (x2.size : Int)) = true := decide_eq_true (by omega)
            have hhold : holdB ⟨x0, x1, x2⟩ = false := by
              unfold holdB
              dsimp only
              split
              · exact decide_eq_false (by omega)
              · exact decide_eq_false (by omega)
            have hrf : r = false := by rw [HR.out, HTP.out]; exact HAN.out (by rw [HOK.out, hm, hrise, hhold]; rfl)
            clear hm hhold hrise C3 CD
            go_wp2_with fail
            refine Tl.wp_mix_lit (by kernel_rfl) 49 [15, 16, 17, 18, 19, 20, 21, 22, 23, 24, 25, 26, 27, 28, 29, 30, 31, 32, 33, 34, 35, 36, 37, 38, 39, 40, 41, 42, 43, 44, 45, 46, 47, 48, 49, 50, 51, 52, 53, 54, 55, 56, 57, 58, 59, 60, 61, 62, 63] 80 rfl (by kernel_rfl) (Below wr.heap.size wr) (tqF3a x0 x0 x2 k g o n c) ((Below.refl _ _).drew)
              ⟨fun a' W' hC hF => ?_, fun a' W' hC hF => ?_, fun a' W' hC hF => ?_, fun a' W' hC hF => ?_, fun a' W' hC hF => ?_, fun a' W' hC hF => ?_, fun a' W' hC hF => ?_, fun a' W' hC hF => ?_, fun a' W' hC hF => ?_, fun a' W' hC hF => ?_, fun a' W' hC hF => ?_, fun a' W' hC hF => ?_, fun a' W' hC hF => ?_, fun a' W' hC hF => ?_, fun a' W' hC hF => ?_, fun a' W' hC hF => ?_, fun a' W' hC hF => ?_, fun a' W' hC hF => ?_, fun a' W' hC hF => ?_, fun a' W' hC hF => ?_, fun a' W' hC hF => ?_, fun a' W' hC hF => ?_, fun a' W' hC hF => ?_, fun a' W' hC hF => ?_, fun a' W' hC hF => ?_, fun a' W' hC hF => ?_, fun a' W' hC hF => ?_, fun a' W' hC hF => ?_, fun a' W' hC hF => ?_, fun a' W' hC hF => ?_, fun a' W' hC hF => ?_, fun a' W' hC hF => ?_, fun a' W' hC hF => ?_, fun a' W' hC hF => ?_, fun a' W' hC hF => ?_, fun a' W' hC hF => ?_, fun a' W' hC hF => ?_, fun a' W' hC hF => ?_, fun a' W' hC hF => ?_, fun a' W' hC hF => ?_, fun a' W' hC hF => ?_, fun a' W' hC hF => ?_, fun a' W' hC hF => ?_, fun a' W' hC hF => ?_, fun a' W' hC hF => ?_, fun a' W' hC hF => ?_, fun a' W' hC hF => ?_, fun a' W' hC hF => ?_, fun a' W' hC hF => ?_, trivial⟩ ?_
            · exact Tl.sm_v 15 _ rfl (Tl.wanted_none rfl) hC rfl (rn_move rfl ((hF 0 (by decide +kernel)).2 (by decide)))
            · exact Tl.sm_v 16 _ rfl (Tl.wanted_none rfl) hC rfl (rn_move rfl ((hF 3 (by decide +kernel)).2 (by decide)))
            · exact Tl.sm_v 17 _ rfl (Tl.wanted_none rfl) hC rfl (rn_ix22 rfl (show Act.eval a' (.tmp 15) = .slice (some ⟨g, o, none⟩) n c from ((hF 15 (by decide +kernel)).1 (by decide))) (show Act.eval a' (.tmp 16) = .int .i64 (k : Int) from ((hF 16 (by decide +kernel)).1 (by decide))) (by omega))
            · exact Tl.sm_v 18 _ rfl (Tl.wanted_none rfl) hC rfl (rn_fa38_0 rfl (show Act.eval a' (.tmp 17) = .pointer (some ⟨g, o + k * 3, none⟩) from ((hF 17 (by decide +kernel)).1 (by decide))))
            · exact Tl.sm_v 19 _ rfl (Tl.wanted_none rfl) hC rfl (rn_load9 rfl (show Act.eval a' (.tmp 18) = .pointer (some ⟨g, o + k * 3, none⟩) from ((hF 18 (by decide +kernel)).1 (by decide))) ((hC.cell (p := ⟨g, o + k * 3, none⟩) HLG.out).trans c0))
            · refine Tl.sm_call 15 #[_] (Tl.wanted_none rfl) (rn_call1 rfl rfl (show Act.eval a' (.tmp 19) = .string x0 from ((hF 19 (by decide +kernel)).1 (by decide))) (en15 _ _)) ((CM.out W').mono ?_)
              rintro e W'' ⟨rfl, hb⟩
              exact ⟨_, rfl, hC.trans (hb.mono hC.size), fun d v _ h => h, fun d hd => by cases hd; rfl⟩
            · exact Tl.sm_v 21 _ rfl (Tl.wanted_none rfl) hC rfl (rn_not rfl (show Act.eval a' (.tmp 20) = .bool true from ((hF 20 (by decide +kernel)).1 (by decide))) rfl)
            · exact Tl.sm_v 22 _ rfl (Tl.wanted_none rfl) hC rfl (rn_move rfl (show Act.eval a' (.tmp 21) = .bool false from ((hF 21 (by decide +kernel)).1 (by decide))))
            · exact Tl.sm_v 23 _ rfl (Tl.wanted_is rfl rfl (show Act.eval a' (.tmp 22) = .bool false from ((hF 22 (by decide +kernel)).1 (by decide)))) hC rfl (rn_move rfl ((hF 3 (by decide +kernel)).2 (by decide)))
            · exact Tl.sm_v 24 _ rfl (Tl.wanted_is rfl rfl (show Act.eval a' (.tmp 22) = .bool false from ((hF 22 (by decide +kernel)).1 (by decide)))) hC rfl (rn_gtr3 rfl (show Act.eval a' (.tmp 23) = .int .i64 (k : Int) from ((hF 23 (by decide +kernel)).1 (by decide))) rfl (by have := HK0.out; simp; omega))
            · exact Tl.sm_v 25 _ rfl (Tl.wanted_is rfl rfl (show Act.eval a' (.tmp 22) = .bool false from ((hF 22 (by decide +kernel)).1 (by decide)))) hC rfl (rn_move rfl (show Act.eval a' (.tmp 24) = .bool false from ((hF 24 (by decide +kernel)).1 (by decide))))
            · exact Tl.sm_skip (Tl.wanted_not rfl rfl (show Act.eval a' (.tmp 25) = .bool false from ((hF 25 (by decide +kernel)).1 (by decide)))) (fun d hd => by cases hd; rfl)
            · exact Tl.sm_skip (Tl.wanted_not rfl rfl (show Act.eval a' (.tmp 25) = .bool false from ((hF 25 (by decide +kernel)).1 (by decide)))) (fun d hd => by cases hd; rfl)
            · exact Tl.sm_skip (Tl.wanted_not rfl rfl (show Act.eval a' (.tmp 25) = .bool false from ((hF 25 (by decide +kernel)).1 (by decide)))) (fun d hd => by cases hd; rfl)
            · exact Tl.sm_skip (Tl.wanted_not rfl rfl (show Act.eval a' (.tmp 25) = .bool false from ((hF 25 (by decide +kernel)).1 (by decide)))) (fun d hd => by cases hd; rfl)
            · exact Tl.sm_skip (Tl.wanted_not rfl rfl (show Act.eval a' (.tmp 25) = .bool false from ((hF 25 (by decide +kernel)).1 (by decide)))) (fun d hd => by cases hd; rfl)
            · exact Tl.sm_skip (Tl.wanted_not rfl rfl (show Act.eval a' (.tmp 25) = .bool false from ((hF 25 (by decide +kernel)).1 (by decide)))) (fun d hd => by cases hd; rfl)
            · exact Tl.sm_skip (Tl.wanted_not rfl rfl (show Act.eval a' (.tmp 25) = .bool false from ((hF 25 (by decide +kernel)).1 (by decide)))) (fun d hd => by cases hd; rfl)
            · exact Tl.sm_skip (Tl.wanted_not rfl rfl (show Act.eval a' (.tmp 25) = .bool false from ((hF 25 (by decide +kernel)).1 (by decide)))) (fun d hd => by cases hd; rfl)
            · exact Tl.sm_skip (Tl.wanted_not rfl rfl (show Act.eval a' (.tmp 25) = .bool false from ((hF 25 (by decide +kernel)).1 (by decide)))) (fun d hd => by cases hd; rfl)
            · exact Tl.sm_skip (Tl.wanted_not rfl rfl (show Act.eval a' (.tmp 25) = .bool false from ((hF 25 (by decide +kernel)).1 (by decide)))) (fun d hd => by cases hd; rfl)
            · exact Tl.sm_skip (Tl.wanted_not rfl rfl (show Act.eval a' (.tmp 25) = .bool false from ((hF 25 (by decide +kernel)).1 (by decide)))) (fun d hd => by cases hd; rfl)
            · exact Tl.sm_skip (Tl.wanted_not rfl rfl (show Act.eval a' (.tmp 25) = .bool false from ((hF 25 (by decide +kernel)).1 (by decide)))) (fun d hd => by cases hd; rfl)
            · exact Tl.sm_v 38 _ rfl (Tl.wanted_is rfl rfl (show Act.eval a' (.tmp 22) = .bool false from ((hF 22 (by decide +kernel)).1 (by decide)))) hC rfl (rn_pickF rfl (show Act.eval a' (.tmp 25) = .bool false from ((hF 25 (by decide +kernel)).1 (by decide))) rfl)
            · exact Tl.sm_v 39 _ rfl (Tl.wanted_none rfl) hC rfl (rn_pickF rfl (show Act.eval a' (.tmp 22) = .bool false from ((hF 22 (by decide +kernel)).1 (by decide))) (show Act.eval a' (.tmp 38) = .bool false from ((hF 38 (by decide +kernel)).1 (by decide))))
            · exact Tl.sm_v 40 _ rfl (Tl.wanted_none rfl) hC rfl (rn_move rfl (show Act.eval a' (.tmp 39) = .bool false from ((hF 39 (by decide +kernel)).1 (by decide))))
            · exact Tl.sm_v 41 _ rfl (Tl.wanted_is rfl rfl (show Act.eval a' (.tmp 40) = .bool false from ((hF 40 (by decide +kernel)).1 (by decide)))) hC rfl (rn_move rfl ((hF 0 (by decide +kernel)).2 (by decide)))
            · exact Tl.sm_v 42 _ rfl (Tl.wanted_is rfl rfl (show Act.eval a' (.tmp 40) = .bool false from ((hF 40 (by decide +kernel)).1 (by decide)))) hC rfl (rn_move rfl ((hF 3 (by decide +kernel)).2 (by decide)))
            · exact Tl.sm_v 43 _ rfl (Tl.wanted_is rfl rfl (show Act.eval a' (.tmp 40) = .bool false from ((hF 40 (by decide +kernel)).1 (by decide)))) hC rfl (rn_ix22 rfl (show Act.eval a' (.tmp 41) = .slice (some ⟨g, o, none⟩) n c from ((hF 41 (by decide +kernel)).1 (by decide))) (show Act.eval a' (.tmp 42) = .int .i64 (k : Int) from ((hF 42 (by decide +kernel)).1 (by decide))) (by omega))
            · exact Tl.sm_v 44 _ rfl (Tl.wanted_is rfl rfl (show Act.eval a' (.tmp 40) = .bool false from ((hF 40 (by decide +kernel)).1 (by decide)))) hC rfl (rn_fa38_2 rfl (show Act.eval a' (.tmp 43) = .pointer (some ⟨g, o + k * 3, none⟩) from ((hF 43 (by decide +kernel)).1 (by decide))))
            · exact Tl.sm_v 45 _ rfl (Tl.wanted_is rfl rfl (show Act.eval a' (.tmp 40) = .bool false from ((hF 40 (by decide +kernel)).1 (by decide)))) hC rfl (rn_load9 rfl (show Act.eval a' (.tmp 44) = .pointer (some ⟨g, o + k * 3 + 2, none⟩) from ((hF 44 (by decide +kernel)).1 (by decide))) ((hC.cell (p := ⟨g, o + k * 3 + 2, none⟩) HLG.out).trans c2))
            · exact Tl.sm_v 46 _ rfl (Tl.wanted_is rfl rfl (show Act.eval a' (.tmp 40) = .bool false from ((hF 40 (by decide +kernel)).1 (by decide)))) hC rfl (rn_len9 rfl (show Act.eval a' (.tmp 45) = .string x2 from ((hF 45 (by decide +kernel)).1 (by decide))) )
            · exact Tl.sm_v 47 _ rfl (Tl.wanted_is rfl rfl (show Act.eval a' (.tmp 40) = .bool false from ((hF 40 (by decide +kernel)).1 (by decide)))) hC rfl (rn_gtr3 rfl (show Act.eval a' (.tmp 46) = .int .i64 (x2.size : Int) from ((hF 46 (by decide +kernel)).1 (by decide))) rfl hbig)
            · exact Tl.sm_v 48 _ rfl (Tl.wanted_none rfl) hC rfl (rn_pickF rfl (show Act.eval a' (.tmp 40) = .bool false from ((hF 40 (by decide +kernel)).1 (by decide))) (show Act.eval a' (.tmp 47) = .bool true from ((hF 47 (by decide +kernel)).1 (by decide))))
            · exact Tl.sm_v 49 _ rfl (Tl.wanted_none rfl) hC rfl (rn_move rfl (show Act.eval a' (.tmp 48) = .bool true from ((hF 48 (by decide +kernel)).1 (by decide))))
            · exact Tl.sm_skip (Tl.wanted_not rfl rfl (show Act.eval a' (.tmp 49) = .bool true from ((hF 49 (by decide +kernel)).1 (by decide)))) (fun d hd => by cases hd; rfl)
            · exact Tl.sm_skip (Tl.wanted_not rfl rfl (show Act.eval a' (.tmp 49) = .bool true from ((hF 49 (by decide +kernel)).1 (by decide)))) (fun d hd => by cases hd; rfl)
            · exact Tl.sm_skip (Tl.wanted_not rfl rfl (show Act.eval a' (.tmp 49) = .bool true from ((hF 49 (by decide +kernel)).1 (by decide)))) (fun d hd => by cases hd; rfl)
            · exact Tl.sm_skip (Tl.wanted_not rfl rfl (show Act.eval a' (.tmp 49) = .bool true from ((hF 49 (by decide +kernel)).1 (by decide)))) (fun d hd => by cases hd; rfl)
            · exact Tl.sm_skip (Tl.wanted_not rfl rfl (show Act.eval a' (.tmp 49) = .bool true from ((hF 49 (by decide +kernel)).1 (by decide)))) (fun d hd => by cases hd; rfl)
            · exact Tl.sm_skip (Tl.wanted_not rfl rfl (show Act.eval a' (.tmp 49) = .bool true from ((hF 49 (by decide +kernel)).1 (by decide)))) (fun d hd => by cases hd; rfl)
            · exact Tl.sm_skip (wanted_undef rfl rfl (show Act.eval a' (.tmp 55) = undef from ((hF 55 (by decide +kernel)).1 (by decide)))) (fun d hd => by cases hd; rfl)
            · exact Tl.sm_skip (wanted_undef rfl rfl (show Act.eval a' (.tmp 55) = undef from ((hF 55 (by decide +kernel)).1 (by decide)))) (fun d hd => by cases hd; rfl)
            · exact Tl.sm_skip (wanted_undef rfl rfl (show Act.eval a' (.tmp 55) = undef from ((hF 55 (by decide +kernel)).1 (by decide)))) (fun d hd => by cases hd; rfl)
            · exact Tl.sm_skip (wanted_undef rfl rfl (show Act.eval a' (.tmp 55) = undef from ((hF 55 (by decide +kernel)).1 (by decide)))) (fun d hd => by cases hd; rfl)
            · exact Tl.sm_skip (wanted_undef rfl rfl (show Act.eval a' (.tmp 55) = undef from ((hF 55 (by decide +kernel)).1 (by decide)))) (fun d hd => by cases hd; rfl)
            · exact Tl.sm_skip (wanted_undef rfl rfl (show Act.eval a' (.tmp 55) = undef from ((hF 55 (by decide +kernel)).1 (by decide)))) (fun d hd => by cases hd; rfl)
            · exact Tl.sm_skip (Tl.wanted_not rfl rfl (show Act.eval a' (.tmp 49) = .bool true from ((hF 49 (by decide +kernel)).1 (by decide)))) (fun d hd => by cases hd; rfl)
            · exact Tl.sm_v 63 _ rfl (Tl.wanted_none rfl) hC rfl (rn_pickT rfl (show Act.eval a' (.tmp 49) = .bool true from ((hF 49 (by decide +kernel)).1 (by decide))) rfl)
            intro v' w9 hC hv
            have e63 : v' 63 = .bool true := hv 63 (by decide)
            clear hv
            have HB9 := hid (HB.out.trans (hC.mono HB.out.size))
            clear hC c0 c1 c2
            simp only [Tl.fill, List.drop]
            simp only [Act.put, List.setIfInBounds_toArray, List.set_cons_succ, List.set_cons_zero, e63]
            subst hrf
            go_wp2_with fail
            go_ret
            exact ⟨rfl, HB9.out⟩
          · have hbig : decide ((16384 : Int) < (x2.size : Int)) = false := decide_eq_false (by omega)
            cases x1 with
            | true =>
              by_cases hz : x2.size = 0
              · have hne : (!decide (x2.size = 0)) = false := by rw [decide_eq_true hz]; rfl
                have HOKL : Hid (∀ b : Bool, (mayB x0 && ((decide (k = 0) || lt (l.getD (k - 1) default).path x0) && (holdB ⟨x0, true, x2⟩ && b))) = b) := hid (fun b => by
                  have hh : holdB ⟨x0, true, x2⟩ = true := decide_eq_true hz
                  rw [hm, hrise, hh]; rfl)
                clear hm hrise hz
                go_wp2_with fail
                refine Tl.wp_mix_lit (by kernel_rfl) 49 [15, 16, 17, 18, 19, 20, 21, 22, 23, 24, 25, 26, 27, 28, 29, 30, 31, 32, 33, 34, 35, 36, 37, 38, 39, 40, 41, 42, 43, 44, 45, 46, 47, 48, 49, 50, 51, 52, 53, 54, 55, 56, 57, 58, 59, 60, 61, 62, 63] 80 rfl (by kernel_rfl) (Below wr.heap.size wr) (tqF4a x0 x0 x2 k g o n c) ((Below.refl _ _).drew)
                  ⟨fun a' W' hC hF => ?_, fun a' W' hC hF => ?_, fun a' W' hC hF => ?_, fun a' W' hC hF => ?_, fun a' W' hC hF => ?_, fun a' W' hC hF => ?_, fun a' W' hC hF => ?_, fun a' W' hC hF => ?_, fun a' W' hC hF => ?_, fun a' W' hC hF => ?_, fun a' W' hC hF => ?_, fun a' W' hC hF => ?_, fun a' W' hC hF => ?_, fun a' W' hC hF => ?_, fun a' W' hC hF => ?_, fun a' W' hC hF => ?_, fun a' W' hC hF => ?_, fun a' W' hC hF => ?_, fun a' W' hC hF => ?_, fun a' W' hC hF => ?_, fun a' W' hC hF => ?_, fun a' W' hC hF => ?_, fun a' W' hC hF => ?_, fun a' W' hC hF => ?_, fun a' W' hC hF => ?_, fun a' W' hC hF => ?_, fun a' W' hC hF => ?_, fun a' W' hC hF => ?_, fun a' W' hC hF => ?_, fun a' W' hC hF => ?_, fun a' W' hC hF => ?_, fun a' W' hC hF => ?_, fun a' W' hC hF => ?_, fun a' W' hC hF => ?_, fun a' W' hC hF => ?_, fun a' W' hC hF => ?_, fun a' W' hC hF => ?_, fun a' W' hC hF => ?_, fun a' W' hC hF => ?_, fun a' W' hC hF => ?_, fun a' W' hC hF => ?_, fun a' W' hC hF => ?_, fun a' W' hC hF => ?_, fun a' W' hC hF => ?_, fun a' W' hC hF => ?_, fun a' W' hC hF => ?_, fun a' W' hC hF => ?_, fun a' W' hC hF => ?_, fun a' W' hC hF => ?_, trivial⟩ ?_
                · exact Tl.sm_v 15 _ rfl (Tl.wanted_none rfl) hC rfl (rn_move rfl ((hF 0 (by decide +kernel)).2 (by decide)))
                · exact Tl.sm_v 16 _ rfl (Tl.wanted_none rfl) hC rfl (rn_move rfl ((hF 3 (by decide +kernel)).2 (by decide)))
                · exact Tl.sm_v 17 _ rfl (Tl.wanted_none rfl) hC rfl (rn_ix22 rfl (show Act.eval a' (.tmp 15) = .slice (some ⟨g, o, none⟩) n c from ((hF 15 (by decide +kernel)).1 (by decide))) (show Act.eval a' (.tmp 16) = .int .i64 (k : Int) from ((hF 16 (by decide +kernel)).1 (by decide))) (by omega))
                · exact Tl.sm_v 18 _ rfl (Tl.wanted_none rfl) hC rfl (rn_fa38_0 rfl (show Act.eval a' (.tmp 17) = .pointer (some ⟨g, o + k * 3, none⟩) from ((hF 17 (by decide +kernel)).1 (by decide))))
                · exact Tl.sm_v 19 _ rfl (Tl.wanted_none rfl) hC rfl (rn_load9 rfl (show Act.eval a' (.tmp 18) = .pointer (some ⟨g, o + k * 3, none⟩) from ((hF 18 (by decide +kernel)).1 (by decide))) ((hC.cell (p := ⟨g, o + k * 3, none⟩) HLG.out).trans c0))
                · refine Tl.sm_call 15 #[_] (Tl.wanted_none rfl) (rn_call1 rfl rfl (show Act.eval a' (.tmp 19) = .string x0 from ((hF 19 (by decide +kernel)).1 (by decide))) (en15 _ _)) ((CM.out W').mono ?_)
                  rintro e W'' ⟨rfl, hb⟩
                  exact ⟨_, rfl, hC.trans (hb.mono hC.size), fun d v _ h => h, fun d hd => by cases hd; rfl⟩
                · exact Tl.sm_v 21 _ rfl (Tl.wanted_none rfl) hC rfl (rn_not rfl (show Act.eval a' (.tmp 20) = .bool true from ((hF 20 (by decide +kernel)).1 (by decide))) rfl)
                · exact Tl.sm_v 22 _ rfl (Tl.wanted_none rfl) hC rfl (rn_move rfl (show Act.eval a' (.tmp 21) = .bool false from ((hF 21 (by decide +kernel)).1 (by decide))))
                · exact Tl.sm_v 23 _ rfl (Tl.wanted_is rfl rfl (show Act.eval a' (.tmp 22) = .bool false from ((hF 22 (by decide +kernel)).1 (by decide)))) hC rfl (rn_move rfl ((hF 3 (by decide +kernel)).2 (by decide)))
                · exact Tl.sm_v 24 _ rfl (Tl.wanted_is rfl rfl (show Act.eval a' (.tmp 22) = .bool false from ((hF 22 (by decide +kernel)).1 (by decide)))) hC rfl (rn_gtr3 rfl (show Act.eval a' (.tmp 23) = .int .i64 (k : Int) from ((hF 23 (by decide +kernel)).1 (by decide))) rfl (by have := HK0.out; simp; omega))
                · exact Tl.sm_v 25 _ rfl (Tl.wanted_is rfl rfl (show Act.eval a' (.tmp 22) = .bool false from ((hF 22 (by decide +kernel)).1 (by decide)))) hC rfl (rn_move rfl (show Act.eval a' (.tmp 24) = .bool false from ((hF 24 (by decide +kernel)).1 (by decide))))
                · exact Tl.sm_skip (Tl.wanted_not rfl rfl (show Act.eval a' (.tmp 25) = .bool false from ((hF 25 (by decide +kernel)).1 (by decide)))) (fun d hd => by cases hd; rfl)
                · exact Tl.sm_skip (Tl.wanted_not rfl rfl (show Act.eval a' (.tmp 25) = .bool false from ((hF 25 (by decide +kernel)).1 (by decide)))) (fun d hd => by cases hd; rfl)
                · exact Tl.sm_skip (Tl.wanted_not rfl rfl (show Act.eval a' (.tmp 25) = .bool false from ((hF 25 (by decide +kernel)).1 (by decide)))) (fun d hd => by cases hd; rfl)
                · exact Tl.sm_skip (Tl.wanted_not rfl rfl (show Act.eval a' (.tmp 25) = .bool false from ((hF 25 (by decide +kernel)).1 (by decide)))) (fun d hd => by cases hd; rfl)
                · exact Tl.sm_skip (Tl.wanted_not rfl rfl (show Act.eval a' (.tmp 25) = .bool false from ((hF 25 (by decide +kernel)).1 (by decide)))) (fun d hd => by cases hd; rfl)
                · exact Tl.sm_skip (Tl.wanted_not rfl rfl (show Act.eval a' (.tmp 25) = .bool false from ((hF 25 (by decide +kernel)).1 (by decide)))) (fun d hd => by cases hd; rfl)
                · exact Tl.sm_skip (Tl.wanted_not rfl rfl (show Act.eval a' (.tmp 25) = .bool false from ((hF 25 (by decide +kernel)).1 (by decide)))) (fun d hd => by cases hd; rfl)
                · exact Tl.sm_skip (Tl.wanted_not rfl rfl (show Act.eval a' (.tmp 25) = .bool false from ((hF 25 (by decide +kernel)).1 (by decide)))) (fun d hd => by cases hd; rfl)
                · exact Tl.sm_skip (Tl.wanted_not rfl rfl (show Act.eval a' (.tmp 25) = .bool false from ((hF 25 (by decide +kernel)).1 (by decide)))) (fun d hd => by cases hd; rfl)
                · exact Tl.sm_skip (Tl.wanted_not rfl rfl (show Act.eval a' (.tmp 25) = .bool false from ((hF 25 (by decide +kernel)).1 (by decide)))) (fun d hd => by cases hd; rfl)
                · exact Tl.sm_skip (Tl.wanted_not rfl rfl (show Act.eval a' (.tmp 25) = .bool false from ((hF 25 (by decide +kernel)).1 (by decide)))) (fun d hd => by cases hd; rfl)
                · exact Tl.sm_skip (Tl.wanted_not rfl rfl (show Act.eval a' (.tmp 25) = .bool false from ((hF 25 (by decide +kernel)).1 (by decide)))) (fun d hd => by cases hd; rfl)
                · exact Tl.sm_v 38 _ rfl (Tl.wanted_is rfl rfl (show Act.eval a' (.tmp 22) = .bool false from ((hF 22 (by decide +kernel)).1 (by decide)))) hC rfl (rn_pickF rfl (show Act.eval a' (.tmp 25) = .bool false from ((hF 25 (by decide +kernel)).1 (by decide))) rfl)
                · exact Tl.sm_v 39 _ rfl (Tl.wanted_none rfl) hC rfl (rn_pickF rfl (show Act.eval a' (.tmp 22) = .bool false from ((hF 22 (by decide +kernel)).1 (by decide))) (show Act.eval a' (.tmp 38) = .bool false from ((hF 38 (by decide +kernel)).1 (by decide))))
                · exact Tl.sm_v 40 _ rfl (Tl.wanted_none rfl) hC rfl (rn_move rfl (show Act.eval a' (.tmp 39) = .bool false from ((hF 39 (by decide +kernel)).1 (by decide))))
                · exact Tl.sm_v 41 _ rfl (Tl.wanted_is rfl rfl (show Act.eval a' (.tmp 40) = .bool false from ((hF 40 (by decide +kernel)).1 (by decide)))) hC rfl (rn_move rfl ((hF 0 (by decide +kernel)).2 (by decide)))
                · exact Tl.sm_v 42 _ rfl (Tl.wanted_is rfl rfl (show Act.eval a' (.tmp 40) = .bool false from ((hF 40 (by decide +kernel)).1 (by decide)))) hC rfl (rn_move rfl ((hF 3 (by decide +kernel)).2 (by decide)))
                · exact Tl.sm_v 43 _ rfl (Tl.wanted_is rfl rfl (show Act.eval a' (.tmp 40) = .bool false from ((hF 40 (by decide +kernel)).1 (by decide)))) hC rfl (rn_ix22 rfl (show Act.eval a' (.tmp 41) = .slice (some ⟨g, o, none⟩) n c from ((hF 41 (by decide +kernel)).1 (by decide))) (show Act.eval a' (.tmp 42) = .int .i64 (k : Int) from ((hF 42 (by decide +kernel)).1 (by decide))) (by omega))
                · exact Tl.sm_v 44 _ rfl (Tl.wanted_is rfl rfl (show Act.eval a' (.tmp 40) = .bool false from ((hF 40 (by decide +kernel)).1 (by decide)))) hC rfl (rn_fa38_2 rfl (show Act.eval a' (.tmp 43) = .pointer (some ⟨g, o + k * 3, none⟩) from ((hF 43 (by decide +kernel)).1 (by decide))))
                · exact Tl.sm_v 45 _ rfl (Tl.wanted_is rfl rfl (show Act.eval a' (.tmp 40) = .bool false from ((hF 40 (by decide +kernel)).1 (by decide)))) hC rfl (rn_load9 rfl (show Act.eval a' (.tmp 44) = .pointer (some ⟨g, o + k * 3 + 2, none⟩) from ((hF 44 (by decide +kernel)).1 (by decide))) ((hC.cell (p := ⟨g, o + k * 3 + 2, none⟩) HLG.out).trans c2))
                · exact Tl.sm_v 46 _ rfl (Tl.wanted_is rfl rfl (show Act.eval a' (.tmp 40) = .bool false from ((hF 40 (by decide +kernel)).1 (by decide)))) hC rfl (rn_len9 rfl (show Act.eval a' (.tmp 45) = .string x2 from ((hF 45 (by decide +kernel)).1 (by decide))) )
                · exact Tl.sm_v 47 _ rfl (Tl.wanted_is rfl rfl (show Act.eval a' (.tmp 40) = .bool false from ((hF 40 (by decide +kernel)).1 (by decide)))) hC rfl (rn_gtr3 rfl (show Act.eval a' (.tmp 46) = .int .i64 (x2.size : Int) from ((hF 46 (by decide +kernel)).1 (by decide))) rfl hbig)
                · exact Tl.sm_v 48 _ rfl (Tl.wanted_none rfl) hC rfl (rn_pickF rfl (show Act.eval a' (.tmp 40) = .bool false from ((hF 40 (by decide +kernel)).1 (by decide))) (show Act.eval a' (.tmp 47) = .bool false from ((hF 47 (by decide +kernel)).1 (by decide))))
                · exact Tl.sm_v 49 _ rfl (Tl.wanted_none rfl) hC rfl (rn_move rfl (show Act.eval a' (.tmp 48) = .bool false from ((hF 48 (by decide +kernel)).1 (by decide))))
                · exact Tl.sm_v 50 _ rfl (Tl.wanted_is rfl rfl (show Act.eval a' (.tmp 49) = .bool false from ((hF 49 (by decide +kernel)).1 (by decide)))) hC rfl (rn_move rfl ((hF 0 (by decide +kernel)).2 (by decide)))
                · exact Tl.sm_v 51 _ rfl (Tl.wanted_is rfl rfl (show Act.eval a' (.tmp 49) = .bool false from ((hF 49 (by decide +kernel)).1 (by decide)))) hC rfl (rn_move rfl ((hF 3 (by decide +kernel)).2 (by decide)))
                · exact Tl.sm_v 52 _ rfl (Tl.wanted_is rfl rfl (show Act.eval a' (.tmp 49) = .bool false from ((hF 49 (by decide +kernel)).1 (by decide)))) hC rfl (rn_ix22 rfl (show Act.eval a' (.tmp 50) = .slice (some ⟨g, o, none⟩) n c from ((hF 50 (by decide +kernel)).1 (by decide))) (show Act.eval a' (.tmp 51) = .int .i64 (k : Int) from ((hF 51 (by decide +kernel)).1 (by decide))) (by omega))
                · exact Tl.sm_v 53 _ rfl (Tl.wanted_is rfl rfl (show Act.eval a' (.tmp 49) = .bool false from ((hF 49 (by decide +kernel)).1 (by decide)))) hC rfl (rn_fa38_1 rfl (show Act.eval a' (.tmp 52) = .pointer (some ⟨g, o + k * 3, none⟩) from ((hF 52 (by decide +kernel)).1 (by decide))))
                · exact Tl.sm_v 54 _ rfl (Tl.wanted_is rfl rfl (show Act.eval a' (.tmp 49) = .bool false from ((hF 49 (by decide +kernel)).1 (by decide)))) hC rfl (rn_load4 rfl (show Act.eval a' (.tmp 53) = .pointer (some ⟨g, o + k * 3 + 1, none⟩) from ((hF 53 (by decide +kernel)).1 (by decide))) ((hC.cell (p := ⟨g, o + k * 3 + 1, none⟩) HLG.out).trans c1))
                · exact Tl.sm_v 55 _ rfl (Tl.wanted_is rfl rfl (show Act.eval a' (.tmp 49) = .bool false from ((hF 49 (by decide +kernel)).1 (by decide)))) hC rfl (rn_move rfl (show Act.eval a' (.tmp 54) = .bool true from ((hF 54 (by decide +kernel)).1 (by decide))))
                · exact Tl.sm_v 56 _ rfl (Tl.wanted_is rfl rfl (show Act.eval a' (.tmp 55) = .bool true from ((hF 55 (by decide +kernel)).1 (by decide)))) hC rfl (rn_move rfl ((hF 0 (by decide +kernel)).2 (by decide)))
                · exact Tl.sm_v 57 _ rfl (Tl.wanted_is rfl rfl (show Act.eval a' (.tmp 55) = .bool true from ((hF 55 (by decide +kernel)).1 (by decide)))) hC rfl (rn_move rfl ((hF 3 (by decide +kernel)).2 (by decide)))
                · exact Tl.sm_v 58 _ rfl (Tl.wanted_is rfl rfl (show Act.eval a' (.tmp 55) = .bool true from ((hF 55 (by decide +kernel)).1 (by decide)))) hC rfl (rn_ix22 rfl (show Act.eval a' (.tmp 56) = .slice (some ⟨g, o, none⟩) n c from ((hF 56 (by decide +kernel)).1 (by decide))) (show Act.eval a' (.tmp 57) = .int .i64 (k : Int) from ((hF 57 (by decide +kernel)).1 (by decide))) (by omega))
                · exact Tl.sm_v 59 _ rfl (Tl.wanted_is rfl rfl (show Act.eval a' (.tmp 55) = .bool true from ((hF 55 (by decide +kernel)).1 (by decide)))) hC rfl (rn_fa38_2 rfl (show Act.eval a' (.tmp 58) = .pointer (some ⟨g, o + k * 3, none⟩) from ((hF 58 (by decide +kernel)).1 (by decide))))
                · exact Tl.sm_v 60 _ rfl (Tl.wanted_is rfl rfl (show Act.eval a' (.tmp 55) = .bool true from ((hF 55 (by decide +kernel)).1 (by decide)))) hC rfl (rn_load9 rfl (show Act.eval a' (.tmp 59) = .pointer (some ⟨g, o + k * 3 + 2, none⟩) from ((hF 59 (by decide +kernel)).1 (by decide))) ((hC.cell (p := ⟨g, o + k * 3 + 2, none⟩) HLG.out).trans c2))
                · exact Tl.sm_v 61 _ rfl (Tl.wanted_is rfl rfl (show Act.eval a' (.tmp 55) = .bool true from ((hF 55 (by decide +kernel)).1 (by decide)))) hC rfl (rn_neq9 rfl (show Act.eval a' (.tmp 60) = .string x2 from ((hF 60 (by decide +kernel)).1 (by decide))) rfl hne)
                · exact Tl.sm_v 62 _ rfl (Tl.wanted_is rfl rfl (show Act.eval a' (.tmp 49) = .bool false from ((hF 49 (by decide +kernel)).1 (by decide)))) hC rfl (rn_pickT rfl (show Act.eval a' (.tmp 55) = .bool true from ((hF 55 (by decide +kernel)).1 (by decide))) (show Act.eval a' (.tmp 61) = .bool false from ((hF 61 (by decide +kernel)).1 (by decide))))
                · exact Tl.sm_v 63 _ rfl (Tl.wanted_none rfl) hC rfl (rn_pickF rfl (show Act.eval a' (.tmp 49) = .bool false from ((hF 49 (by decide +kernel)).1 (by decide))) (show Act.eval a' (.tmp 62) = .bool false from ((hF 62 (by decide +kernel)).1 (by decide))))
                intro v' w9 hC hv
                have e63 : v' 63 = .bool false := hv 63 (by decide)
                clear hv
                have HB9 := hid (HB.out.trans (hC.mono HB.out.size))
                have z0 := (hC.cell (p := ⟨g, o + k * 3, none⟩) HLG.out).trans c0
                clear hC c0 c1 c2
                have CD9 := CD.out _ HB9.out
                generalize dirB l (abU x0) = bd at *
                generalize abU x0 = u at *
                simp only [Tl.fill, List.drop]
                simp only [Act.put, List.setIfInBounds_toArray, List.set_cons_succ, List.set_cons_zero, e63]
                generalize v' 15 = y15 at *
                generalize v' 16 = y16 at *
                generalize v' 17 = y17 at *
                generalize v' 18 = y18 at *
                generalize v' 19 = y19 at *
                generalize v' 20 = y20 at *
                generalize v' 21 = y21 at *
                generalize v' 22 = y22 at *
                generalize v' 23 = y23 at *
                generalize v' 24 = y24 at *
                generalize v' 25 = y25 at *
                generalize v' 26 = y26 at *
                generalize v' 27 = y27 at *
                generalize v' 28 = y28 at *
                generalize v' 29 = y29 at *
                generalize v' 30 = y30 at *
                generalize v' 31 = y31 at *
                generalize v' 32 = y32 at *
                generalize v' 33 = y33 at *
                generalize v' 34 = y34 at *
                generalize v' 35 = y35 at *
                generalize v' 36 = y36 at *
                generalize v' 37 = y37 at *
                generalize v' 38 = y38 at *
                generalize v' 39 = y39 at *
                generalize v' 40 = y40 at *
                generalize v' 41 = y41 at *
                generalize v' 42 = y42 at *
                generalize v' 43 = y43 at *
                generalize v' 44 = y44 at *
                generalize v' 45 = y45 at *
                generalize v' 46 = y46 at *
                generalize v' 47 = y47 at *
                generalize v' 48 = y48 at *
                generalize v' 49 = y49 at *
                generalize v' 50 = y50 at *
                generalize v' 51 = y51 at *
                generalize v' 52 = y52 at *
                generalize v' 53 = y53 at *
                generalize v' 54 = y54 at *
                generalize v' 55 = y55 at *
                generalize v' 56 = y56 at *
                generalize v' 57 = y57 at *
                generalize v' 58 = y58 at *
                generalize v' 59 = y59 at *
                generalize v' 60 = y60 at *
                generalize v' 61 = y61 at *
                generalize v' 62 = y62 at *
                cases hab : abB x0 with
                | false =>
                  have HA2 : Hid ((List.range (k + 1)).all (okR l) = true) := hid (by rw [HAS.out, HA.out, HOK.out, HOKL.out, hab]; rfl)
                  rw [hab] at C3
                  clear hab CD9
                  go_wp2_with fail
                  refine (C3 _).mono ?_
                  rintro e wc ⟨rfl, hwc⟩
                  rw [hwc]
                  clear hwc
                  go_wp2_with fail
                  go_roundw
                  case rel => exact ⟨k + 1, by omega, by rfl, HA2, HB9⟩
                  case measure => first | (simp [intOf]; done) | (simp [intOf]; omega)
                | true =>
                  rw [hab] at C3
                  cases bd with
                  | true =>
                    have HA2 : Hid ((List.range (k + 1)).all (okR l) = true) := hid (by rw [HAS.out, HA.out, HOK.out, HOKL.out, hab]; rfl)
                    clear hab
                    go_wp2_with fail
                    refine (C3 _).mono ?_
                    rintro e wc ⟨rfl, hwc⟩
                    rw [hwc]
                    clear hwc
                    go_wp2_with fail
                    refine CD9.mono ?_
                    rintro e wd ⟨rfl, hbd⟩
                    have HBD := hid (HB9.out.trans (hbd.mono HB9.out.size))
                    clear hbd CD9
                    go_wp2_with fail
                    go_roundw
                    case rel => exact ⟨k + 1, by omega, by rfl, HA2, HBD⟩
                    case measure => first | (simp [intOf]; done) | (simp [intOf]; omega)
                  | false =>
                    have hrf : r = false := by rw [HR.out, HTP.out]; exact HAN.out (by rw [HOK.out, HOKL.out, hab]; rfl)
                    subst hrf
                    clear hab
                    go_wp2_with fail
                    refine (C3 _).mono ?_
                    rintro e wc ⟨rfl, hwc⟩
                    rw [hwc]
                    clear hwc
                    go_wp2_with fail
                    refine CD9.mono ?_
                    rintro e wd ⟨rfl, hbd⟩
                    have HBD := hid (HB9.out.trans (hbd.mono HB9.out.size))
                    clear hbd CD9
                    go_wp2_with fail
                    go_ret
                    exact ⟨rfl, HBD.out⟩
              · have hne : (!decide (x2.size = 0)) = true := by rw [decide_eq_false hz]; rfl
                have hrf : r = false := by
                  have hh : holdB ⟨x0, true, x2⟩ = false := decide_eq_false hz
                  rw [HR.out, HTP.out]; exact HAN.out (by rw [HOK.out, hm, hrise, hh]; rfl)
                clear hm hrise hz C3 CD
                go_wp2_with fail
                refine Tl.wp_mix_lit (by kernel_rfl) 49 [15, 16, 17, 18, 19, 20, 21, 22, 23, 24, 25, 26, 27, 28, 29, 30, 31, 32, 33, 34, 35, 36, 37, 38, 39, 40, 41, 42, 43, 44, 45, 46, 47, 48, 49, 50, 51, 52, 53, 54, 55, 56, 57, 58, 59, 60, 61, 62, 63] 80 rfl (by kernel_rfl) (Below wr.heap.size wr) (tqF5a x0 x0 x2 k g o n c) ((Below.refl _ _).drew)
                  ⟨fun a' W' hC hF => ?_, fun a' W' hC hF => ?_, fun a' W' hC hF => ?_, fun a' W' hC hF => ?_, fun a' W' hC hF => ?_, fun a' W' hC hF => ?_, fun a' W' hC hF => ?_, fun a' W' hC hF => ?_, fun a' W' hC hF => ?_, fun a' W' hC hF => ?_, fun a' W' hC hF => ?_, fun a' W' hC hF => ?_, fun a' W' hC hF => ?_, fun a' W' hC hF => ?_, fun a' W' hC hF => ?_, fun a' W' hC hF => ?_, fun a' W' hC hF => ?_, fun a' W' hC hF => ?_, fun a' W' hC hF => ?_, fun a' W' hC hF => ?_, fun a' W' hC hF => ?_, fun a' W' hC hF => ?_, fun a' W' hC hF => ?_, fun a' W' hC hF => ?_, fun a' W' hC hF => ?_, fun a' W' hC hF => ?_, fun a' W' hC hF => ?_, fun a' W' hC hF => ?_, fun a' W' hC hF => ?_, fun a' W' hC hF => ?_, fun a' W' hC hF => ?_, fun a' W' hC hF => ?_, fun a' W' hC hF => ?_, fun a' W' hC hF => ?_, fun a' W' hC hF => ?_, fun a' W' hC hF => ?_, fun a' W' hC hF => ?_, fun a' W' hC hF => ?_, fun a' W' hC hF => ?_, fun a' W' hC hF => ?_, fun a' W' hC hF => ?_, fun a' W' hC hF => ?_, fun a' W' hC hF => ?_, fun a' W' hC hF => ?_, fun a' W' hC hF => ?_, fun a' W' hC hF => ?_, fun a' W' hC hF => ?_, fun a' W' hC hF => ?_, fun a' W' hC hF => ?_, trivial⟩ ?_
                · exact Tl.sm_v 15 _ rfl (Tl.wanted_none rfl) hC rfl (rn_move rfl ((hF 0 (by decide +kernel)).2 (by decide)))
                · exact Tl.sm_v 16 _ rfl (Tl.wanted_none rfl) hC rfl (rn_move rfl ((hF 3 (by decide +kernel)).2 (by decide)))
                · exact Tl.sm_v 17 _ rfl (Tl.wanted_none rfl) hC rfl (rn_ix22 rfl (show Act.eval a' (.tmp 15) = .slice (some ⟨g, o, none⟩) n c from ((hF 15 (by decide +kernel)).1 (by decide))) (show Act.eval a' (.tmp 16) = .int .i64 (k : Int) from ((hF 16 (by decide +kernel)).1 (by decide))) (by omega))
                · exact Tl.sm_v 18 _ rfl (Tl.wanted_none rfl) hC rfl (rn_fa38_0 rfl (show Act.eval a' (.tmp 17) = .pointer (some ⟨g, o + k * 3, none⟩) from ((hF 17 (by decide +kernel)).1 (by decide))))
                · exact Tl.sm_v 19 _ rfl (Tl.wanted_none rfl) hC rfl (rn_load9 rfl (show Act.eval a' (.tmp 18) = .pointer (some ⟨g, o + k * 3, none⟩) from ((hF 18 (by decide +kernel)).1 (by decide))) ((hC.cell (p := ⟨g, o + k * 3, none⟩) HLG.out).trans c0))
                · refine Tl.sm_call 15 #[_] (Tl.wanted_none rfl) (rn_call1 rfl rfl (show Act.eval a' (.tmp 19) = .string x0 from ((hF 19 (by decide +kernel)).1 (by decide))) (en15 _ _)) ((CM.out W').mono ?_)
                  rintro e W'' ⟨rfl, hb⟩
                  exact ⟨_, rfl, hC.trans (hb.mono hC.size), fun d v _ h => h, fun d hd => by cases hd; rfl⟩
                · exact Tl.sm_v 21 _ rfl (Tl.wanted_none rfl) hC rfl (rn_not rfl (show Act.eval a' (.tmp 20) = .bool true from ((hF 20 (by decide +kernel)).1 (by decide))) rfl)
                · exact Tl.sm_v 22 _ rfl (Tl.wanted_none rfl) hC rfl (rn_move rfl (show Act.eval a' (.tmp 21) = .bool false from ((hF 21 (by decide +kernel)).1 (by decide))))
                · exact Tl.sm_v 23 _ rfl (Tl.wanted_is rfl rfl (show Act.eval a' (.tmp 22) = .bool false from ((hF 22 (by decide +kernel)).1 (by decide)))) hC rfl (rn_move rfl ((hF 3 (by decide +kernel)).2 (by decide)))
                · exact Tl.sm_v 24 _ rfl (Tl.wanted_is rfl rfl (show Act.eval a' (.tmp 22) = .bool false from ((hF 22 (by decide +kernel)).1 (by decide)))) hC rfl (rn_gtr3 rfl (show Act.eval a' (.tmp 23) = .int .i64 (k : Int) from ((hF 23 (by decide +kernel)).1 (by decide))) rfl (by have := HK0.out; simp; omega))
                · exact Tl.sm_v 25 _ rfl (Tl.wanted_is rfl rfl (show Act.eval a' (.tmp 22) = .bool false from ((hF 22 (by decide +kernel)).1 (by decide)))) hC rfl (rn_move rfl (show Act.eval a' (.tmp 24) = .bool false from ((hF 24 (by decide +kernel)).1 (by decide))))
                · exact Tl.sm_skip (Tl.wanted_not rfl rfl (show Act.eval a' (.tmp 25) = .bool false from ((hF 25 (by decide +kernel)).1 (by decide)))) (fun d hd => by cases hd; rfl)
                · exact Tl.sm_skip (Tl.wanted_not rfl rfl (show Act.eval a' (.tmp 25) = .bool false from ((hF 25 (by decide +kernel)).1 (by decide)))) (fun d hd => by cases hd; rfl)
                · exact Tl.sm_skip (Tl.wanted_not rfl rfl (show Act.eval a' (.tmp 25) = .bool false from ((hF 25 (by decide +kernel)).1 (by decide)))) (fun d hd => by cases hd; rfl)
                · exact Tl.sm_skip (Tl.wanted_not rfl rfl (show Act.eval a' (.tmp 25) = .bool false from ((hF 25 (by decide +kernel)).1 (by decide)))) (fun d hd => by cases hd; rfl)
                · exact Tl.sm_skip (Tl.wanted_not rfl rfl (show Act.eval a' (.tmp 25) = .bool false from ((hF 25 (by decide +kernel)).1 (by decide)))) (fun d hd => by cases hd; rfl)
                · exact Tl.sm_skip (Tl.wanted_not rfl rfl (show Act.eval a' (.tmp 25) = .bool false from ((hF 25 (by decide +kernel)).1 (by decide)))) (fun d hd => by cases hd; rfl)
                · exact Tl.sm_skip (Tl.wanted_not rfl rfl (show Act.eval a' (.tmp 25) = .bool false from ((hF 25 (by decide +kernel)).1 (by decide)))) (fun d hd => by cases hd; rfl)
                · exact Tl.sm_skip (Tl.wanted_not rfl rfl (show Act.eval a' (.tmp 25) = .bool false from ((hF 25 (by decide +kernel)).1 (by decide)))) (fun d hd => by cases hd; rfl)
                · exact Tl.sm_skip (Tl.wanted_not rfl rfl (show Act.eval a' (.tmp 25) = .bool false from ((hF 25 (by decide +kernel)).1 (by decide)))) (fun d hd => by cases hd; rfl)
                · exact Tl.sm_skip (Tl.wanted_not rfl rfl (show Act.eval a' (.tmp 25) = .bool false from ((hF 25 (by decide +kernel)).1 (by decide)))) (fun d hd => by cases hd; rfl)
                · exact Tl.sm_skip (Tl.wanted_not rfl rfl (show Act.eval a' (.tmp 25) = .bool false from ((hF 25 (by decide +kernel)).1 (by decide)))) (fun d hd => by cases hd; rfl)
                · exact Tl.sm_skip (Tl.wanted_not rfl rfl (show Act.eval a' (.tmp 25) = .bool false from ((hF 25 (by decide +kernel)).1 (by decide)))) (fun d hd => by cases hd; rfl)
                · exact Tl.sm_v 38 _ rfl (Tl.wanted_is rfl rfl (show Act.eval a' (.tmp 22) = .bool false from ((hF 22 (by decide +kernel)).1 (by decide)))) hC rfl (rn_pickF rfl (show Act.eval a' (.tmp 25) = .bool false from ((hF 25 (by decide +kernel)).1 (by decide))) rfl)
                · exact Tl.sm_v 39 _ rfl (Tl.wanted_none rfl) hC rfl (rn_pickF rfl (show Act.eval a' (.tmp 22) = .bool false from ((hF 22 (by decide +kernel)).1 (by decide))) (show Act.eval a' (.tmp 38) = .bool false from ((hF 38 (by decide +kernel)).1 (by decide))))
                · exact Tl.sm_v 40 _ rfl (Tl.wanted_none rfl) hC rfl (rn_move rfl (show Act.eval a' (.tmp 39) = .bool false from ((hF 39 (by decide +kernel)).1 (by decide))))
                · exact Tl.sm_v 41 _ rfl (Tl.wanted_is rfl rfl (show Act.eval a' (.tmp 40) = .bool false from ((hF 40 (by decide +kernel)).1 (by decide)))) hC rfl (rn_move rfl ((hF 0 (by decide +kernel)).2 (by decide)))
                · exact Tl.sm_v 42 _ rfl (Tl.wanted_is rfl rfl (show Act.eval a' (.tmp 40) = .bool false from ((hF 40 (by decide +kernel)).1 (by decide)))) hC rfl (rn_move rfl ((hF 3 (by decide +kernel)).2 (by decide)))
                · exact Tl.sm_v 43 _ rfl (Tl.wanted_is rfl rfl (show Act.eval a' (.tmp 40) = .bool false from ((hF 40 (by decide +kernel)).1 (by decide)))) hC rfl (rn_ix22 rfl (show Act.eval a' (.tmp 41) = .slice (some ⟨g, o, none⟩) n c from ((hF 41 (by decide +kernel)).1 (by decide))) (show Act.eval a' (.tmp 42) = .int .i64 (k : Int) from ((hF 42 (by decide +kernel)).1 (by decide))) (by omega))
                · exact Tl.sm_v 44 _ rfl (Tl.wanted_is rfl rfl (show Act.eval a' (.tmp 40) = .bool false from ((hF 40 (by decide +kernel)).1 (by decide)))) hC rfl (rn_fa38_2 rfl (show Act.eval a' (.tmp 43) = .pointer (some ⟨g, o + k * 3, none⟩) from ((hF 43 (by decide +kernel)).1 (by decide))))
                · exact Tl.sm_v 45 _ rfl (Tl.wanted_is rfl rfl (show Act.eval a' (.tmp 40) = .bool false from ((hF 40 (by decide +kernel)).1 (by decide)))) hC rfl (rn_load9 rfl (show Act.eval a' (.tmp 44) = .pointer (some ⟨g, o + k * 3 + 2, none⟩) from ((hF 44 (by decide +kernel)).1 (by decide))) ((hC.cell (p := ⟨g, o + k * 3 + 2, none⟩) HLG.out).trans c2))
                · exact Tl.sm_v 46 _ rfl (Tl.wanted_is rfl rfl (show Act.eval a' (.tmp 40) = .bool false from ((hF 40 (by decide +kernel)).1 (by decide)))) hC rfl (rn_len9 rfl (show Act.eval a' (.tmp 45) = .string x2 from ((hF 45 (by decide +kernel)).1 (by decide))) )
                · exact Tl.sm_v 47 _ rfl (Tl.wanted_is rfl rfl (show Act.eval a' (.tmp 40) = .bool false from ((hF 40 (by decide +kernel)).1 (by decide)))) hC rfl (rn_gtr3 rfl (show Act.eval a' (.tmp 46) = .int .i64 (x2.size : Int) from ((hF 46 (by decide +kernel)).1 (by decide))) rfl hbig)
                · exact Tl.sm_v 48 _ rfl (Tl.wanted_none rfl) hC rfl (rn_pickF rfl (show Act.eval a' (.tmp 40) = .bool false from ((hF 40 (by decide +kernel)).1 (by decide))) (show Act.eval a' (.tmp 47) = .bool false from ((hF 47 (by decide +kernel)).1 (by decide))))
                · exact Tl.sm_v 49 _ rfl (Tl.wanted_none rfl) hC rfl (rn_move rfl (show Act.eval a' (.tmp 48) = .bool false from ((hF 48 (by decide +kernel)).1 (by decide))))
                · exact Tl.sm_v 50 _ rfl (Tl.wanted_is rfl rfl (show Act.eval a' (.tmp 49) = .bool false from ((hF 49 (by decide +kernel)).1 (by decide)))) hC rfl (rn_move rfl ((hF 0 (by decide +kernel)).2 (by decide)))
                · exact Tl.sm_v 51 _ rfl (Tl.wanted_is rfl rfl (show Act.eval a' (.tmp 49) = .bool false from ((hF 49 (by decide +kernel)).1 (by decide)))) hC rfl (rn_move rfl ((hF 3 (by decide +kernel)).2 (by decide)))
                · exact Tl.sm_v 52 _ rfl (Tl.wanted_is rfl rfl (show Act.eval a' (.tmp 49) = .bool false from ((hF 49 (by decide +kernel)).1 (by decide)))) hC rfl (rn_ix22 rfl (show Act.eval a' (.tmp 50) = .slice (some ⟨g, o, none⟩) n c from ((hF 50 (by decide +kernel)).1 (by decide))) (show Act.eval a' (.tmp 51) = .int .i64 (k : Int) from ((hF 51 (by decide +kernel)).1 (by decide))) (by omega))
                · exact Tl.sm_v 53 _ rfl (Tl.wanted_is rfl rfl (show Act.eval a' (.tmp 49) = .bool false from ((hF 49 (by decide +kernel)).1 (by decide)))) hC rfl (rn_fa38_1 rfl (show Act.eval a' (.tmp 52) = .pointer (some ⟨g, o + k * 3, none⟩) from ((hF 52 (by decide +kernel)).1 (by decide))))
                · exact Tl.sm_v 54 _ rfl (Tl.wanted_is rfl rfl (show Act.eval a' (.tmp 49) = .bool false from ((hF 49 (by decide +kernel)).1 (by decide)))) hC rfl (rn_load4 rfl (show Act.eval a' (.tmp 53) = .pointer (some ⟨g, o + k * 3 + 1, none⟩) from ((hF 53 (by decide +kernel)).1 (by decide))) ((hC.cell (p := ⟨g, o + k * 3 + 1, none⟩) HLG.out).trans c1))
                · exact Tl.sm_v 55 _ rfl (Tl.wanted_is rfl rfl (show Act.eval a' (.tmp 49) = .bool false from ((hF 49 (by decide +kernel)).1 (by decide)))) hC rfl (rn_move rfl (show Act.eval a' (.tmp 54) = .bool true from ((hF 54 (by decide +kernel)).1 (by decide))))
                · exact Tl.sm_v 56 _ rfl (Tl.wanted_is rfl rfl (show Act.eval a' (.tmp 55) = .bool true from ((hF 55 (by decide +kernel)).1 (by decide)))) hC rfl (rn_move rfl ((hF 0 (by decide +kernel)).2 (by decide)))
                · exact Tl.sm_v 57 _ rfl (Tl.wanted_is rfl rfl (show Act.eval a' (.tmp 55) = .bool true from ((hF 55 (by decide +kernel)).1 (by decide)))) hC rfl (rn_move rfl ((hF 3 (by decide +kernel)).2 (by decide)))
                · exact Tl.sm_v 58 _ rfl (Tl.wanted_is rfl rfl (show Act.eval a' (.tmp 55) = .bool true from ((hF 55 (by decide +kernel)).1 (by decide)))) hC rfl (rn_ix22 rfl (show Act.eval a' (.tmp 56) = .slice (some ⟨g, o, none⟩) n c from ((hF 56 (by decide +kernel)).1 (by decide))) (show Act.eval a' (.tmp 57) = .int .i64 (k : Int) from ((hF 57 (by decide +kernel)).1 (by decide))) (by omega))
                · exact Tl.sm_v 59 _ rfl (Tl.wanted_is rfl rfl (show Act.eval a' (.tmp 55) = .bool true from ((hF 55 (by decide +kernel)).1 (by decide)))) hC rfl (rn_fa38_2 rfl (show Act.eval a' (.tmp 58) = .pointer (some ⟨g, o + k * 3, none⟩) from ((hF 58 (by decide +kernel)).1 (by decide))))
                · exact Tl.sm_v 60 _ rfl (Tl.wanted_is rfl rfl (show Act.eval a' (.tmp 55) = .bool true from ((hF 55 (by decide +kernel)).1 (by decide)))) hC rfl (rn_load9 rfl (show Act.eval a' (.tmp 59) = .pointer (some ⟨g, o + k * 3 + 2, none⟩) from ((hF 59 (by decide +kernel)).1 (by decide))) ((hC.cell (p := ⟨g, o + k * 3 + 2, none⟩) HLG.out).trans c2))
                · exact Tl.sm_v 61 _ rfl (Tl.wanted_is rfl rfl (show Act.eval a' (.tmp 55) = .bool true from ((hF 55 (by decide +kernel)).1 (by decide)))) hC rfl (rn_neq9 rfl (show Act.eval a' (.tmp 60) = .string x2 from ((hF 60 (by decide +kernel)).1 (by decide))) rfl hne)
                · exact Tl.sm_v 62 _ rfl (Tl.wanted_is rfl rfl (show Act.eval a' (.tmp 49) = .bool false from ((hF 49 (by decide +kernel)).1 (by decide)))) hC rfl (rn_pickT rfl (show Act.eval a' (.tmp 55) = .bool true from ((hF 55 (by decide +kernel)).1 (by decide))) (show Act.eval a' (.tmp 61) = .bool true from ((hF 61 (by decide +kernel)).1 (by decide))))
                · exact Tl.sm_v 63 _ rfl (Tl.wanted_none rfl) hC rfl (rn_pickF rfl (show Act.eval a' (.tmp 49) = .bool false from ((hF 49 (by decide +kernel)).1 (by decide))) (show Act.eval a' (.tmp 62) = .bool true from ((hF 62 (by decide +kernel)).1 (by decide))))
                intro v' w9 hC hv
                have e63 : v' 63 = .bool true := hv 63 (by decide)
                clear hv
                have HB9 := hid (HB.out.trans (hC.mono HB.out.size))
                clear hC c0 c1 c2
                simp only [Tl.fill, List.drop]
                simp only [Act.put, List.setIfInBounds_toArray, List.set_cons_succ, List.set_cons_zero, e63]
                subst hrf
                go_wp2_with fail
                go_ret
                exact ⟨rfl, HB9.out⟩
            | false =>
              have HOKL : Hid (∀ b : Bool, (mayB x0 && ((decide (k = 0) || lt (l.getD (k - 1) default).path x0) && (holdB ⟨x0, false, x2⟩ && b))) = b) := hid (fun b => by
                have hh : holdB ⟨x0, false, x2⟩ = true := decide_eq_true (by show x2.size ≤ 16384; omega)
                rw [hm, hrise, hh]; rfl)
              clear hm hrise
              go_wp2_with fail
              refine Tl.wp_mix_lit (by kernel_rfl) 49 [15, 16, 17, 18, 19, 20, 21, 22, 23, 24, 25, 26, 27, 28, 29, 30, 31, 32, 33, 34, 35, 36, 37, 38, 39, 40, 41, 42, 43, 44, 45, 46, 47, 48, 49, 50, 51, 52, 53, 54, 55, 56, 57, 58, 59, 60, 61, 62, 63] 80 rfl (by kernel_rfl) (Below wr.heap.size wr) (tqF6a x0 x0 x2 k g o n c) ((Below.refl _ _).drew)
                ⟨fun a' W' hC hF => ?_, fun a' W' hC hF => ?_, fun a' W' hC hF => ?_, fun a' W' hC hF => ?_, fun a' W' hC hF => ?_, fun a' W' hC hF => ?_, fun a' W' hC hF => ?_, fun a' W' hC hF => ?_, fun a' W' hC hF => ?_, fun a' W' hC hF => ?_, fun a' W' hC hF => ?_, fun a' W' hC hF => ?_, fun a' W' hC hF => ?_, fun a' W' hC hF => ?_, fun a' W' hC hF => ?_, fun a' W' hC hF => ?_, fun a' W' hC hF => ?_, fun a' W' hC hF => ?_, fun a' W' hC hF => ?_, fun a' W' hC hF => ?_, fun a' W' hC hF => ?_, fun a' W' hC hF => ?_, fun a' W' hC hF => ?_, fun a' W' hC hF => ?_, fun a' W' hC hF => ?_, fun a' W' hC hF => ?_, fun a' W' hC hF => ?_, fun a' W' hC hF => ?_, fun a' W' hC hF => ?_, fun a' W' hC hF => ?_, fun a' W' hC hF => ?_, fun a' W' hC hF => ?_, fun a' W' hC hF => ?_, fun a' W' hC hF => ?_, fun a' W' hC hF => ?_, fun a' W' hC hF => ?_, fun a' W' hC hF => ?_, fun a' W' hC hF => ?_, fun a' W' hC hF => ?_, fun a' W' hC hF => ?_, fun a' W' hC hF => ?_, fun a' W' hC hF => ?_, fun a' W' hC hF => ?_, fun a' W' hC hF => ?_, fun a' W' hC hF => ?_, fun a' W' hC hF => ?_, fun a' W' hC hF => ?_, fun a' W' hC hF => ?_, fun a' W' hC hF => ?_, trivial⟩ ?_
              · exact Tl.sm_v 15 _ rfl (Tl.wanted_none rfl) hC rfl (rn_move rfl ((hF 0 (by decide +kernel)).2 (by decide)))
              · exact Tl.sm_v 16 _ rfl (Tl.wanted_none rfl) hC rfl (rn_move rfl ((hF 3 (by decide +kernel)).2 (by decide)))
              · exact Tl.sm_v 17 _ rfl (Tl.wanted_none rfl) hC rfl (rn_ix22 rfl (show Act.eval a' (.tmp 15) = .slice (some ⟨g, o, none⟩) n c from ((hF 15 (by decide +kernel)).1 (by decide))) (show Act.eval a' (.tmp 16) = .int .i64 (k : Int) from ((hF 16 (by decide +kernel)).1 (by decide))) (by omega))
              · exact Tl.sm_v 18 _ rfl (Tl.wanted_none rfl) hC rfl (rn_fa38_0 rfl (show Act.eval a' (.tmp 17) = .pointer (some ⟨g, o + k * 3, none⟩) from ((hF 17 (by decide +kernel)).1 (by decide))))
              · exact Tl.sm_v 19 _ rfl (Tl.wanted_none rfl) hC rfl (rn_load9 rfl (show Act.eval a' (.tmp 18) = .pointer (some ⟨g, o + k * 3, none⟩) from ((hF 18 (by decide +kernel)).1 (by decide))) ((hC.cell (p := ⟨g, o + k * 3, none⟩) HLG.out).trans c0))
              · refine Tl.sm_call 15 #[_] (Tl.wanted_none rfl) (rn_call1 rfl rfl (show Act.eval a' (.tmp 19) = .string x0 from ((hF 19 (by decide +kernel)).1 (by decide))) (en15 _ _)) ((CM.out W').mono ?_)
                rintro e W'' ⟨rfl, hb⟩
                exact ⟨_, rfl, hC.trans (hb.mono hC.size), fun d v _ h => h, fun d hd => by cases hd; rfl⟩
              · exact Tl.sm_v 21 _ rfl (Tl.wanted_none rfl) hC rfl (rn_not rfl (show Act.eval a' (.tmp 20) = .bool true from ((hF 20 (by decide +kernel)).1 (by decide))) rfl)
              · exact Tl.sm_v 22 _ rfl (Tl.wanted_none rfl) hC rfl (rn_move rfl (show Act.eval a' (.tmp 21) = .bool false from ((hF 21 (by decide +kernel)).1 (by decide))))
              · exact Tl.sm_v 23 _ rfl (Tl.wanted_is rfl rfl (show Act.eval a' (.tmp 22) = .bool false from ((hF 22 (by decide +kernel)).1 (by decide)))) hC rfl (rn_move rfl ((hF 3 (by decide +kernel)).2 (by decide)))
              · exact Tl.sm_v 24 _ rfl (Tl.wanted_is rfl rfl (show Act.eval a' (.tmp 22) = .bool false from ((hF 22 (by decide +kernel)).1 (by decide)))) hC rfl (rn_gtr3 rfl (show Act.eval a' (.tmp 23) = .int .i64 (k : Int) from ((hF 23 (by decide +kernel)).1 (by decide))) rfl (by have := HK0.out; simp; omega))
              · exact Tl.sm_v 25 _ rfl (Tl.wanted_is rfl rfl (show Act.eval a' (.tmp 22) = .bool false from ((hF 22 (by decide +kernel)).1 (by decide)))) hC rfl (rn_move rfl (show Act.eval a' (.tmp 24) = .bool false from ((hF 24 (by decide +kernel)).1 (by decide))))
              · exact Tl.sm_skip (Tl.wanted_not rfl rfl (show Act.eval a' (.tmp 25) = .bool false from ((hF 25 (by decide +kernel)).1 (by decide)))) (fun d hd => by cases hd; rfl)
              · exact Tl.sm_skip (Tl.wanted_not rfl rfl (show Act.eval a' (.tmp 25) = .bool false from ((hF 25 (by decide +kernel)).1 (by decide)))) (fun d hd => by cases hd; rfl)
              · exact Tl.sm_skip (Tl.wanted_not rfl rfl (show Act.eval a' (.tmp 25) = .bool false from ((hF 25 (by decide +kernel)).1 (by decide)))) (fun d hd => by cases hd; rfl)
              · exact Tl.sm_skip (Tl.wanted_not rfl rfl (show Act.eval a' (.tmp 25) = .bool false from ((hF 25 (by decide +kernel)).1 (by decide)))) (fun d hd => by cases hd; rfl)
              · exact Tl.sm_skip (Tl.wanted_not rfl rfl (show Act.eval a' (.tmp 25) = .bool false from ((hF 25 (by decide +kernel)).1 (by decide)))) (fun d hd => by cases hd; rfl)
              · exact Tl.sm_skip (Tl.wanted_not rfl rfl (show Act.eval a' (.tmp 25) = .bool false from ((hF 25 (by decide +kernel)).1 (by decide)))) (fun d hd => by cases hd; rfl)
              · exact Tl.sm_skip (Tl.wanted_not rfl rfl (show Act.eval a' (.tmp 25) = .bool false from ((hF 25 (by decide +kernel)).1 (by decide)))) (fun d hd => by cases hd; rfl)
              · exact Tl.sm_skip (Tl.wanted_not rfl rfl (show Act.eval a' (.tmp 25) = .bool false from ((hF 25 (by decide +kernel)).1 (by decide)))) (fun d hd => by cases hd; rfl)
              · exact Tl.sm_skip (Tl.wanted_not rfl rfl (show Act.eval a' (.tmp 25) = .bool false from ((hF 25 (by decide +kernel)).1 (by decide)))) (fun d hd => by cases hd; rfl)
              · exact Tl.sm_skip (Tl.wanted_not rfl rfl (show Act.eval a' (.tmp 25) = .bool false from ((hF 25 (by decide +kernel)).1 (by decide)))) (fun d hd => by cases hd; rfl)
              · exact Tl.sm_skip (Tl.wanted_not rfl rfl (show Act.eval a' (.tmp 25) = .bool false from ((hF 25 (by decide +kernel)).1 (by decide)))) (fun d hd => by cases hd; rfl)
              · exact Tl.sm_skip (Tl.wanted_not rfl rfl (show Act.eval a' (.tmp 25) = .bool false from ((hF 25 (by decide +kernel)).1 (by decide)))) (fun d hd => by cases hd; rfl)
              · exact Tl.sm_v 38 _ rfl (Tl.wanted_is rfl rfl (show Act.eval a' (.tmp 22) = .bool false from ((hF 22 (by decide +kernel)).1 (by decide)))) hC rfl (rn_pickF rfl (show Act.eval a' (.tmp 25) = .bool false from ((hF 25 (by decide +kernel)).1 (by decide))) rfl)
              · exact Tl.sm_v 39 _ rfl (Tl.wanted_none rfl) hC rfl (rn_pickF rfl (show Act.eval a' (.tmp 22) = .bool false from ((hF 22 (by decide +kernel)).1 (by decide))) (show Act.eval a' (.tmp 38) = .bool false from ((hF 38 (by decide +kernel)).1 (by decide))))
              · exact Tl.sm_v 40 _ rfl (Tl.wanted_none rfl) hC rfl (rn_move rfl (show Act.eval a' (.tmp 39) = .bool false from ((hF 39 (by decide +kernel)).1 (by decide))))
              · exact Tl.sm_v 41 _ rfl (Tl.wanted_is rfl rfl (show Act.eval a' (.tmp 40) = .bool false from ((hF 40 (by decide +kernel)).1 (by decide)))) hC rfl (rn_move rfl ((hF 0 (by decide +kernel)).2 (by decide)))
              · exact Tl.sm_v 42 _ rfl (Tl.wanted_is rfl rfl (show Act.eval a' (.tmp 40) = .bool false from ((hF 40 (by decide +kernel)).1 (by decide)))) hC rfl (rn_move rfl ((hF 3 (by decide +kernel)).2 (by decide)))
              · exact Tl.sm_v 43 _ rfl (Tl.wanted_is rfl rfl (show Act.eval a' (.tmp 40) = .bool false from ((hF 40 (by decide +kernel)).1 (by decide)))) hC rfl (rn_ix22 rfl (show Act.eval a' (.tmp 41) = .slice (some ⟨g, o, none⟩) n c from ((hF 41 (by decide +kernel)).1 (by decide))) (show Act.eval a' (.tmp 42) = .int .i64 (k : Int) from ((hF 42 (by decide +kernel)).1 (by decide))) (by omega))
              · exact Tl.sm_v 44 _ rfl (Tl.wanted_is rfl rfl (show Act.eval a' (.tmp 40) = .bool false from ((hF 40 (by decide +kernel)).1 (by decide)))) hC rfl (rn_fa38_2 rfl (show Act.eval a' (.tmp 43) = .pointer (some ⟨g, o + k * 3, none⟩) from ((hF 43 (by decide +kernel)).1 (by decide))))
              · exact Tl.sm_v 45 _ rfl (Tl.wanted_is rfl rfl (show Act.eval a' (.tmp 40) = .bool false from ((hF 40 (by decide +kernel)).1 (by decide)))) hC rfl (rn_load9 rfl (show Act.eval a' (.tmp 44) = .pointer (some ⟨g, o + k * 3 + 2, none⟩) from ((hF 44 (by decide +kernel)).1 (by decide))) ((hC.cell (p := ⟨g, o + k * 3 + 2, none⟩) HLG.out).trans c2))
              · exact Tl.sm_v 46 _ rfl (Tl.wanted_is rfl rfl (show Act.eval a' (.tmp 40) = .bool false from ((hF 40 (by decide +kernel)).1 (by decide)))) hC rfl (rn_len9 rfl (show Act.eval a' (.tmp 45) = .string x2 from ((hF 45 (by decide +kernel)).1 (by decide))) )
              · exact Tl.sm_v 47 _ rfl (Tl.wanted_is rfl rfl (show Act.eval a' (.tmp 40) = .bool false from ((hF 40 (by decide +kernel)).1 (by decide)))) hC rfl (rn_gtr3 rfl (show Act.eval a' (.tmp 46) = .int .i64 (x2.size : Int) from ((hF 46 (by decide +kernel)).1 (by decide))) rfl hbig)
              · exact Tl.sm_v 48 _ rfl (Tl.wanted_none rfl) hC rfl (rn_pickF rfl (show Act.eval a' (.tmp 40) = .bool false from ((hF 40 (by decide +kernel)).1 (by decide))) (show Act.eval a' (.tmp 47) = .bool false from ((hF 47 (by decide +kernel)).1 (by decide))))
              · exact Tl.sm_v 49 _ rfl (Tl.wanted_none rfl) hC rfl (rn_move rfl (show Act.eval a' (.tmp 48) = .bool false from ((hF 48 (by decide +kernel)).1 (by decide))))
              · exact Tl.sm_v 50 _ rfl (Tl.wanted_is rfl rfl (show Act.eval a' (.tmp 49) = .bool false from ((hF 49 (by decide +kernel)).1 (by decide)))) hC rfl (rn_move rfl ((hF 0 (by decide +kernel)).2 (by decide)))
              · exact Tl.sm_v 51 _ rfl (Tl.wanted_is rfl rfl (show Act.eval a' (.tmp 49) = .bool false from ((hF 49 (by decide +kernel)).1 (by decide)))) hC rfl (rn_move rfl ((hF 3 (by decide +kernel)).2 (by decide)))
              · exact Tl.sm_v 52 _ rfl (Tl.wanted_is rfl rfl (show Act.eval a' (.tmp 49) = .bool false from ((hF 49 (by decide +kernel)).1 (by decide)))) hC rfl (rn_ix22 rfl (show Act.eval a' (.tmp 50) = .slice (some ⟨g, o, none⟩) n c from ((hF 50 (by decide +kernel)).1 (by decide))) (show Act.eval a' (.tmp 51) = .int .i64 (k : Int) from ((hF 51 (by decide +kernel)).1 (by decide))) (by omega))
              · exact Tl.sm_v 53 _ rfl (Tl.wanted_is rfl rfl (show Act.eval a' (.tmp 49) = .bool false from ((hF 49 (by decide +kernel)).1 (by decide)))) hC rfl (rn_fa38_1 rfl (show Act.eval a' (.tmp 52) = .pointer (some ⟨g, o + k * 3, none⟩) from ((hF 52 (by decide +kernel)).1 (by decide))))
              · exact Tl.sm_v 54 _ rfl (Tl.wanted_is rfl rfl (show Act.eval a' (.tmp 49) = .bool false from ((hF 49 (by decide +kernel)).1 (by decide)))) hC rfl (rn_load4 rfl (show Act.eval a' (.tmp 53) = .pointer (some ⟨g, o + k * 3 + 1, none⟩) from ((hF 53 (by decide +kernel)).1 (by decide))) ((hC.cell (p := ⟨g, o + k * 3 + 1, none⟩) HLG.out).trans c1))
              · exact Tl.sm_v 55 _ rfl (Tl.wanted_is rfl rfl (show Act.eval a' (.tmp 49) = .bool false from ((hF 49 (by decide +kernel)).1 (by decide)))) hC rfl (rn_move rfl (show Act.eval a' (.tmp 54) = .bool false from ((hF 54 (by decide +kernel)).1 (by decide))))
              · exact Tl.sm_skip (Tl.wanted_not rfl rfl (show Act.eval a' (.tmp 55) = .bool false from ((hF 55 (by decide +kernel)).1 (by decide)))) (fun d hd => by cases hd; rfl)
              · exact Tl.sm_skip (Tl.wanted_not rfl rfl (show Act.eval a' (.tmp 55) = .bool false from ((hF 55 (by decide +kernel)).1 (by decide)))) (fun d hd => by cases hd; rfl)
              · exact Tl.sm_skip (Tl.wanted_not rfl rfl (show Act.eval a' (.tmp 55) = .bool false from ((hF 55 (by decide +kernel)).1 (by decide)))) (fun d hd => by cases hd; rfl)
              · exact Tl.sm_skip (Tl.wanted_not rfl rfl (show Act.eval a' (.tmp 55) = .bool false from ((hF 55 (by decide +kernel)).1 (by decide)))) (fun d hd => by cases hd; rfl)
              · exact Tl.sm_skip (Tl.wanted_not rfl rfl (show Act.eval a' (.tmp 55) = .bool false from ((hF 55 (by decide +kernel)).1 (by decide)))) (fun d hd => by cases hd; rfl)
              · exact Tl.sm_skip (Tl.wanted_not rfl rfl (show Act.eval a' (.tmp 55) = .bool false from ((hF 55 (by decide +kernel)).1 (by decide)))) (fun d hd => by cases hd; rfl)
              · exact Tl.sm_v 62 _ rfl (Tl.wanted_is rfl rfl (show Act.eval a' (.tmp 49) = .bool false from ((hF 49 (by decide +kernel)).1 (by decide)))) hC rfl (rn_pickF rfl (show Act.eval a' (.tmp 55) = .bool false from ((hF 55 (by decide +kernel)).1 (by decide))) rfl)
              · exact Tl.sm_v 63 _ rfl (Tl.wanted_none rfl) hC rfl (rn_pickF rfl (show Act.eval a' (.tmp 49) = .bool false from ((hF 49 (by decide +kernel)).1 (by decide))) (show Act.eval a' (.tmp 62) = .bool false from ((hF 62 (by decide +kernel)).1 (by decide))))
              intro v' w9 hC hv
              have e63 : v' 63 = .bool false := hv 63 (by decide)
              clear hv
              have HB9 := hid (HB.out.trans (hC.mono HB.out.size))
              have z0 := (hC.cell (p := ⟨g, o + k * 3, none⟩) HLG.out).trans c0
              clear hC c0 c1 c2
              have CD9 := CD.out _ HB9.out
              generalize dirB l (abU x0) = bd at *
              generalize abU x0 = u at *
              simp only [Tl.fill, List.drop]
              simp only [Act.put, List.setIfInBounds_toArray, List.set_cons_succ, List.set_cons_zero, e63]
              generalize v' 15 = y15 at *
              generalize v' 16 = y16 at *
              generalize v' 17 = y17 at *
              generalize v' 18 = y18 at *
              generalize v' 19 = y19 at *
              generalize v' 20 = y20 at *
              generalize v' 21 = y21 at *
              generalize v' 22 = y22 at *
              generalize v' 23 = y23 at *
              generalize v' 24 = y24 at *
              generalize v' 25 = y25 at *
              generalize v' 26 = y26 at *
              generalize v' 27 = y27 at *
              generalize v' 28 = y28 at *
              generalize v' 29 = y29 at *
              generalize v' 30 = y30 at *
              generalize v' 31 = y31 at *
              generalize v' 32 = y32 at *
              generalize v' 33 = y33 at *
              generalize v' 34 = y34 at *
              generalize v' 35 = y35 at *
              generalize v' 36 = y36 at *
              generalize v' 37 = y37 at *
              generalize v' 38 = y38 at *
              generalize v' 39 = y39 at *
              generalize v' 40 = y40 at *
              generalize v' 41 = y41 at *
              generalize v' 42 = y42 at *
              generalize v' 43 = y43 at *
              generalize v' 44 = y44 at *
              generalize v' 45 = y45 at *
              generalize v' 46 = y46 at *
              generalize v' 47 = y47 at *
              generalize v' 48 = y48 at *
              generalize v' 49 = y49 at *
              generalize v' 50 = y50 at *
              generalize v' 51 = y51 at *
              generalize v' 52 = y52 at *
              generalize v' 53 = y53 at *
              generalize v' 54 = y54 at *
              generalize v' 55 = y55 at *
              generalize v' 56 = y56 at *
              generalize v' 57 = y57 at *
              generalize v' 58 = y58 at *
              generalize v' 59 = y59 at *
              generalize v' 60 = y60 at *
              generalize v' 61 = y61 at *
              generalize v' 62 = y62 at *
              cases hab : abB x0 with
              | false =>
                have HA2 : Hid ((List.range (k + 1)).all (okR l) = true) := hid (by rw [HAS.out, HA.out, HOK.out, HOKL.out, hab]; rfl)
                rw [hab] at C3
                clear hab CD9
                go_wp2_with fail
                refine (C3 _).mono ?_
                rintro e wc ⟨rfl, hwc⟩
                rw [hwc]
                clear hwc
                go_wp2_with fail
                go_roundw
                case rel => exact ⟨k + 1, by omega, by rfl, HA2, HB9⟩
                case measure => first | (simp [intOf]; done) | (simp [intOf]; omega)
              | true =>
                rw [hab] at C3
                cases bd with
                | true =>
                  have HA2 : Hid ((List.range (k + 1)).all (okR l) = true) := hid (by rw [HAS.out, HA.out, HOK.out, HOKL.out, hab]; rfl)
                  clear hab
                  go_wp2_with fail
                  refine (C3 _).mono ?_
                  rintro e wc ⟨rfl, hwc⟩
                  rw [hwc]
                  clear hwc
                  go_wp2_with fail
                  refine CD9.mono ?_
                  rintro e wd ⟨rfl, hbd⟩
                  have HBD := hid (HB9.out.trans (hbd.mono HB9.out.size))
                  clear hbd CD9
                  go_wp2_with fail
                  go_roundw
                  case rel => exact ⟨k + 1, by omega, by rfl, HA2, HBD⟩
                  case measure => first | (simp [intOf]; done) | (simp [intOf]; omega)
                | false =>
                  have hrf : r = false := by rw [HR.out, HTP.out]; exact HAN.out (by rw [HOK.out, HOKL.out, hab]; rfl)
                  subst hrf
                  clear hab
                  go_wp2_with fail
                  refine (C3 _).mono ?_
                  rintro e wc ⟨rfl, hwc⟩
                  rw [hwc]
                  clear hwc
                  go_wp2_with fail
                  refine CD9.mono ?_
                  rintro e wd ⟨rfl, hbd⟩
                  have HBD := hid (HB9.out.trans (hbd.mono HB9.out.size))
                  clear hbd CD9
                  go_wp2_with fail
                  go_ret
                  exact ⟨rfl, HBD.out⟩
        · have hk1 : k - 1 < l.length := by omega
          have HK0 := hid hk0
          obtain ⟨g', o', eA, hg', d0, _, _⟩ := fs_cell HL.out HB.out hk1
          obtain ⟨rfl, rfl⟩ : g = g' ∧ o = o' := by simpa using eA
          have wn : IntKind.i64.wrap ((k : Int) - 1) = ((k - 1 : Nat) : Int) := by rw [IntKind.wrap_i64]; omega
          generalize (l.getD (k - 1) default).path = p0 at *
          cases hlp : lt p0 x0 with
          | false =>
            have hrf : r = false := by rw [HR.out, HTP.out]; exact HAN.out (by rw [HOK.out, hm, hlp, decide_eq_false hk0]; rfl)
            have hge : (!lt p0 x0) = true := by rw [hlp]; rfl
            clear hm hlp C3 CD
            go_wp2_with fail
            refine Tl.wp_mix_lit (by kernel_rfl) 49 [15, 16, 17, 18, 19, 20, 21, 22, 23, 24, 25, 26, 27, 28, 29, 30, 31, 32, 33, 34, 35, 36, 37, 38, 39, 40, 41, 42, 43, 44, 45, 46, 47, 48, 49, 50, 51, 52, 53, 54, 55, 56, 57, 58, 59, 60, 61, 62, 63] 80 rfl (by kernel_rfl) (Below wr.heap.size wr) (tqF2 x0 p0 x2 k g o n c) ((Below.refl _ _).drew)
              ⟨fun a' W' hC hF => ?_, fun a' W' hC hF => ?_, fun a' W' hC hF => ?_, fun a' W' hC hF => ?_, fun a' W' hC hF => ?_, fun a' W' hC hF => ?_, fun a' W' hC hF => ?_, fun a' W' hC hF => ?_, fun a' W' hC hF => ?_, fun a' W' hC hF => ?_, fun a' W' hC hF => ?_, fun a' W' hC hF => ?_, fun a' W' hC hF => ?_, fun a' W' hC hF => ?_, fun a' W' hC hF => ?_, fun a' W' hC hF => ?_, fun a' W' hC hF => ?_, fun a' W' hC hF => ?_, fun a' W' hC hF => ?_, fun a' W' hC hF => ?_, fun a' W' hC hF => ?_, fun a' W' hC hF => ?_, fun a' W' hC hF => ?_, fun a' W' hC hF => ?_, fun a' W' hC hF => ?_, fun a' W' hC hF => ?_, fun a' W' hC hF => ?_, fun a' W' hC hF => ?_, fun a' W' hC hF => ?_, fun a' W' hC hF => ?_, fun a' W' hC hF => ?_, fun a' W' hC hF => ?_, fun a' W' hC hF => ?_, fun a' W' hC hF => ?_, fun a' W' hC hF => ?_, fun a' W' hC hF => ?_, fun a' W' hC hF => ?_, fun a' W' hC hF => ?_, fun a' W' hC hF => ?_, fun a' W' hC hF => ?_, fun a' W' hC hF => ?_, fun a' W' hC hF => ?_, fun a' W' hC hF => ?_, fun a' W' hC hF => ?_, fun a' W' hC hF => ?_, fun a' W' hC hF => ?_, fun a' W' hC hF => ?_, fun a' W' hC hF => ?_, fun a' W' hC hF => ?_, trivial⟩ ?_
            · exact Tl.sm_v 15 _ rfl (Tl.wanted_none rfl) hC rfl (rn_move rfl ((hF 0 (by decide +kernel)).2 (by decide)))
            · exact Tl.sm_v 16 _ rfl (Tl.wanted_none rfl) hC rfl (rn_move rfl ((hF 3 (by decide +kernel)).2 (by decide)))
            · exact Tl.sm_v 17 _ rfl (Tl.wanted_none rfl) hC rfl (rn_ix22 rfl (show Act.eval a' (.tmp 15) = .slice (some ⟨g, o, none⟩) n c from ((hF 15 (by decide +kernel)).1 (by decide))) (show Act.eval a' (.tmp 16) = .int .i64 (k : Int) from ((hF 16 (by decide +kernel)).1 (by decide))) (by omega))
            · exact Tl.sm_v 18 _ rfl (Tl.wanted_none rfl) hC rfl (rn_fa38_0 rfl (show Act.eval a' (.tmp 17) = .pointer (some ⟨g, o + k * 3, none⟩) from ((hF 17 (by decide +kernel)).1 (by decide))))
            · exact Tl.sm_v 19 _ rfl (Tl.wanted_none rfl) hC rfl (rn_load9 rfl (show Act.eval a' (.tmp 18) = .pointer (some ⟨g, o + k * 3, none⟩) from ((hF 18 (by decide +kernel)).1 (by decide))) ((hC.cell (p := ⟨g, o + k * 3, none⟩) HLG.out).trans c0))
            · refine Tl.sm_call 15 #[_] (Tl.wanted_none rfl) (rn_call1 rfl rfl (show Act.eval a' (.tmp 19) = .string x0 from ((hF 19 (by decide +kernel)).1 (by decide))) (en15 _ _)) ((CM.out W').mono ?_)
              rintro e W'' ⟨rfl, hb⟩
              exact ⟨_, rfl, hC.trans (hb.mono hC.size), fun d v _ h => h, fun d hd => by cases hd; rfl⟩
            · exact Tl.sm_v 21 _ rfl (Tl.wanted_none rfl) hC rfl (rn_not rfl (show Act.eval a' (.tmp 20) = .bool true from ((hF 20 (by decide +kernel)).1 (by decide))) rfl)
            · exact Tl.sm_v 22 _ rfl (Tl.wanted_none rfl) hC rfl (rn_move rfl (show Act.eval a' (.tmp 21) = .bool false from ((hF 21 (by decide +kernel)).1 (by decide))))
            · exact Tl.sm_v 23 _ rfl (Tl.wanted_is rfl rfl (show Act.eval a' (.tmp 22) = .bool false from ((hF 22 (by decide +kernel)).1 (by decide)))) hC rfl (rn_move rfl ((hF 3 (by decide +kernel)).2 (by decide)))
            · exact Tl.sm_v 24 _ rfl (Tl.wanted_is rfl rfl (show Act.eval a' (.tmp 22) = .bool false from ((hF 22 (by decide +kernel)).1 (by decide)))) hC rfl (rn_gtr3 rfl (show Act.eval a' (.tmp 23) = .int .i64 (k : Int) from ((hF 23 (by decide +kernel)).1 (by decide))) rfl (by have := HK0.out; simp; omega))
            · exact Tl.sm_v 25 _ rfl (Tl.wanted_is rfl rfl (show Act.eval a' (.tmp 22) = .bool false from ((hF 22 (by decide +kernel)).1 (by decide)))) hC rfl (rn_move rfl (show Act.eval a' (.tmp 24) = .bool true from ((hF 24 (by decide +kernel)).1 (by decide))))
            · exact Tl.sm_v 26 _ rfl (Tl.wanted_is rfl rfl (show Act.eval a' (.tmp 25) = .bool true from ((hF 25 (by decide +kernel)).1 (by decide)))) hC rfl (rn_move rfl ((hF 0 (by decide +kernel)).2 (by decide)))
            · exact Tl.sm_v 27 _ rfl (Tl.wanted_is rfl rfl (show Act.eval a' (.tmp 25) = .bool true from ((hF 25 (by decide +kernel)).1 (by decide)))) hC rfl (rn_move rfl ((hF 3 (by decide +kernel)).2 (by decide)))
            · exact Tl.sm_v 28 _ rfl (Tl.wanted_is rfl rfl (show Act.eval a' (.tmp 25) = .bool true from ((hF 25 (by decide +kernel)).1 (by decide)))) hC rfl (rn_ix22 rfl (show Act.eval a' (.tmp 26) = .slice (some ⟨g, o, none⟩) n c from ((hF 26 (by decide +kernel)).1 (by decide))) (show Act.eval a' (.tmp 27) = .int .i64 (k : Int) from ((hF 27 (by decide +kernel)).1 (by decide))) (by omega))
            · exact Tl.sm_v 29 _ rfl (Tl.wanted_is rfl rfl (show Act.eval a' (.tmp 25) = .bool true from ((hF 25 (by decide +kernel)).1 (by decide)))) hC rfl (rn_fa38_0 rfl (show Act.eval a' (.tmp 28) = .pointer (some ⟨g, o + k * 3, none⟩) from ((hF 28 (by decide +kernel)).1 (by decide))))
            · exact Tl.sm_v 30 _ rfl (Tl.wanted_is rfl rfl (show Act.eval a' (.tmp 25) = .bool true from ((hF 25 (by decide +kernel)).1 (by decide)))) hC rfl (rn_load9 rfl (show Act.eval a' (.tmp 29) = .pointer (some ⟨g, o + k * 3, none⟩) from ((hF 29 (by decide +kernel)).1 (by decide))) ((hC.cell (p := ⟨g, o + k * 3, none⟩) HLG.out).trans c0))
            · exact Tl.sm_v 31 _ rfl (Tl.wanted_is rfl rfl (show Act.eval a' (.tmp 25) = .bool true from ((hF 25 (by decide +kernel)).1 (by decide)))) hC rfl (rn_move rfl ((hF 0 (by decide +kernel)).2 (by decide)))
            · exact Tl.sm_v 32 _ rfl (Tl.wanted_is rfl rfl (show Act.eval a' (.tmp 25) = .bool true from ((hF 25 (by decide +kernel)).1 (by decide)))) hC rfl (rn_move rfl ((hF 3 (by decide +kernel)).2 (by decide)))
            · exact Tl.sm_v 33 _ rfl (Tl.wanted_is rfl rfl (show Act.eval a' (.tmp 25) = .bool true from ((hF 25 (by decide +kernel)).1 (by decide)))) hC rfl (rn_sub3 rfl (show Act.eval a' (.tmp 32) = .int .i64 (k : Int) from ((hF 32 (by decide +kernel)).1 (by decide))) rfl wn)
            · exact Tl.sm_v 34 _ rfl (Tl.wanted_is rfl rfl (show Act.eval a' (.tmp 25) = .bool true from ((hF 25 (by decide +kernel)).1 (by decide)))) hC rfl (rn_ix22 rfl (show Act.eval a' (.tmp 31) = .slice (some ⟨g, o, none⟩) n c from ((hF 31 (by decide +kernel)).1 (by decide))) (show Act.eval a' (.tmp 33) = .int .i64 ((k - 1 : Nat) : Int) from ((hF 33 (by decide +kernel)).1 (by decide))) (by omega))
            · exact Tl.sm_v 35 _ rfl (Tl.wanted_is rfl rfl (show Act.eval a' (.tmp 25) = .bool true from ((hF 25 (by decide +kernel)).1 (by decide)))) hC rfl (rn_fa38_0 rfl (show Act.eval a' (.tmp 34) = .pointer (some ⟨g, o + (k - 1) * 3, none⟩) from ((hF 34 (by decide +kernel)).1 (by decide))))
            · exact Tl.sm_v 36 _ rfl (Tl.wanted_is rfl rfl (show Act.eval a' (.tmp 25) = .bool true from ((hF 25 (by decide +kernel)).1 (by decide)))) hC rfl (rn_load9 rfl (show Act.eval a' (.tmp 35) = .pointer (some ⟨g, o + (k - 1) * 3, none⟩) from ((hF 35 (by decide +kernel)).1 (by decide))) ((hC.cell (p := ⟨g, o + (k - 1) * 3, none⟩) HLG.out).trans d0))
            · exact Tl.sm_v 37 _ rfl (Tl.wanted_is rfl rfl (show Act.eval a' (.tmp 25) = .bool true from ((hF 25 (by decide +kernel)).1 (by decide)))) hC rfl (rn_leq9 rfl (show Act.eval a' (.tmp 30) = .string x0 from ((hF 30 (by decide +kernel)).1 (by decide))) (show Act.eval a' (.tmp 36) = .string p0 from ((hF 36 (by decide +kernel)).1 (by decide))) hge)
            · exact Tl.sm_v 38 _ rfl (Tl.wanted_is rfl rfl (show Act.eval a' (.tmp 22) = .bool false from ((hF 22 (by decide +kernel)).1 (by decide)))) hC rfl (rn_pickT rfl (show Act.eval a' (.tmp 25) = .bool true from ((hF 25 (by decide +kernel)).1 (by decide))) (show Act.eval a' (.tmp 37) = .bool true from ((hF 37 (by decide +kernel)).1 (by decide))))
            · exact Tl.sm_v 39 _ rfl (Tl.wanted_none rfl) hC rfl (rn_pickF rfl (show Act.eval a' (.tmp 22) = .bool false from ((hF 22 (by decide +kernel)).1 (by decide))) (show Act.eval a' (.tmp 38) = .bool true from ((hF 38 (by decide +kernel)).1 (by decide))))
            · exact Tl.sm_v 40 _ rfl (Tl.wanted_none rfl) hC rfl (rn_move rfl (show Act.eval a' (.tmp 39) = .bool true from ((hF 39 (by decide +kernel)).1 (by decide))))
            · exact Tl.sm_skip (Tl.wanted_not rfl rfl (show Act.eval a' (.tmp 40) = .bool true from ((hF 40 (by decide +kernel)).1 (by decide)))) (fun d hd => by cases hd; rfl)
            · exact Tl.sm_skip (Tl.wanted_not rfl rfl (show Act.eval a' (.tmp 40) = .bool true from ((hF 40 (by decide +kernel)).1 (by decide)))) (fun d hd => by cases hd; rfl)
            · exact Tl.sm_skip (Tl.wanted_not rfl rfl (show Act.eval a' (.tmp 40) = .bool true from ((hF 40 (by decide +kernel)).1 (by decide)))) (fun d hd => by cases hd; rfl)
            · exact Tl.sm_skip (Tl.wanted_not rfl rfl (show Act.eval a' (.tmp 40) = .bool true from ((hF 40 (by decide +kernel)).1 (by decide)))) (fun d hd => by cases hd; rfl)
            · exact Tl.sm_skip (Tl.wanted_not rfl rfl (show Act.eval a' (.tmp 40) = .bool true from ((hF 40 (by decide +kernel)).1 (by decide)))) (fun d hd => by cases hd; rfl)
            · exact Tl.sm_skip (Tl.wanted_not rfl rfl (show Act.eval a' (.tmp 40) = .bool true from ((hF 40 (by decide +kernel)).1 (by decide)))) (fun d hd => by cases hd; rfl)
            · exact Tl.sm_skip (Tl.wanted_not rfl rfl (show Act.eval a' (.tmp 40) = .bool true from ((hF 40 (by decide +kernel)).1 (by decide)))) (fun d hd => by cases hd; rfl)
            · exact Tl.sm_v 48 _ rfl (Tl.wanted_none rfl) hC rfl (rn_pickT rfl (show Act.eval a' (.tmp 40) = .bool true from ((hF 40 (by decide +kernel)).1 (by decide))) rfl)
            · exact Tl.sm_v 49 _ rfl (Tl.wanted_none rfl) hC rfl (rn_move rfl (show Act.eval a' (.tmp 48) = .bool true from ((hF 48 (by decide +kernel)).1 (by decide))))
            · exact Tl.sm_skip (Tl.wanted_not rfl rfl (show Act.eval a' (.tmp 49) = .bool true from ((hF 49 (by decide +kernel)).1 (by decide)))) (fun d hd => by cases hd; rfl)
            · exact Tl.sm_skip (Tl.wanted_not rfl rfl (show Act.eval a' (.tmp 49) = .bool true from ((hF 49 (by decide +kernel)).1 (by decide)))) (fun d hd => by cases hd; rfl)
            · exact Tl.sm_skip (Tl.wanted_not rfl rfl (show Act.eval a' (.tmp 49) = .bool true from ((hF 49 (by decide +kernel)).1 (by decide)))) (fun d hd => by cases hd; rfl)
            · exact Tl.sm_skip (Tl.wanted_not rfl rfl (show Act.eval a' (.tmp 49) = .bool true from ((hF 49 (by decide +kernel)).1 (by decide)))) (fun d hd => by cases hd; rfl)
            · exact Tl.sm_skip (Tl.wanted_not rfl rfl (show Act.eval a' (.tmp 49) = .bool true from ((hF 49 (by decide +kernel)).1 (by decide)))) (fun d hd => by cases hd; rfl)
            · exact Tl.sm_skip (Tl.wanted_not rfl rfl (show Act.eval a' (.tmp 49) = .bool true from ((hF 49 (by decide +kernel)).1 (by decide)))) (fun d hd => by cases hd; rfl)
            · exact Tl.sm_skip (wanted_undef rfl rfl (show Act.eval a' (.tmp 55) = undef from ((hF 55 (by decide +kernel)).1 (by decide)))) (fun d hd => by cases hd; rfl)
            · exact Tl.sm_skip (wanted_undef rfl rfl (show Act.eval a' (.tmp 55) = undef from ((hF 55 (by decide +kernel)).1 (by decide)))) (fun d hd => by cases hd; rfl)
            · exact Tl.sm_skip (wanted_undef rfl rfl (show Act.eval a' (.tmp 55) = undef from ((hF 55 (by decide +kernel)).1 (by decide)))) (fun d hd => by cases hd; rfl)
            · exact Tl.sm_skip (wanted_undef rfl rfl (show Act.eval a' (.tmp 55) = undef from ((hF 55 (by decide +kernel)).1 (by decide)))) (fun d hd => by cases hd; rfl)
            · exact Tl.sm_skip (wanted_undef rfl rfl (show Act.eval a' (.tmp 55) = undef from ((hF 55 (by decide +kernel)).1 (by decide)))) (fun d hd => by cases hd; rfl)
            · exact Tl.sm_skip (wanted_undef rfl rfl (show Act.eval a' (.tmp 55) = undef from ((hF 55 (by decide +kernel)).1 (by decide)))) (fun d hd => by cases hd; rfl)
            · exact Tl.sm_skip (Tl.wanted_not rfl rfl (show Act.eval a' (.tmp 49) = .bool true from ((hF 49 (by decide +kernel)).1 (by decide)))) (fun d hd => by cases hd; rfl)
            · exact Tl.sm_v 63 _ rfl (Tl.wanted_none rfl) hC rfl (rn_pickT rfl (show Act.eval a' (.tmp 49) = .bool true from ((hF 49 (by decide +kernel)).1 (by decide))) rfl)
            intro v' w9 hC hv
            have e63 : v' 63 = .bool true := hv 63 (by decide)
            clear hv
            have HB9 := hid (HB.out.trans (hC.mono HB.out.size))
            clear hC d0 c0 c1 c2
            simp only [Tl.fill, List.drop]
            simp only [Act.put, List.setIfInBounds_toArray, List.set_cons_succ, List.set_cons_zero, e63]
            subst hrf
            go_wp2_with fail
            go_ret
            exact ⟨rfl, HB9.out⟩
          | true =>
            have hge : (!lt p0 x0) = false := by rw [hlp]; rfl
            have hrise : (decide (k = 0) || lt p0 x0) = true := by rw [hlp, Bool.or_true]
            clear hlp
            by_cases hb0 : 16384 < x2.size
            · have hbig : decide ((16384 : Int) < (x2.size : Int)) = true := decide_eq_true (by omega)
              have hhold : holdB ⟨x0, x1, x2⟩ = false := by
                unfold holdB
                dsimp only
                split
                · exact decide_eq_false (by omega)
                · exact decide_eq_false (by omega)
              have hrf : r = false := by rw [HR.out, HTP.out]; exact HAN.out (by rw [HOK.out, hm, hrise, hhold]; rfl)
              clear hm hhold hrise C3 CD
              go_wp2_with fail
              refine Tl.wp_mix_lit (by kernel_rfl) 49 [15, 16, 17, 18, 19, 20, 21, 22, 23, 24, 25, 26, 27, 28, 29, 30, 31, 32, 33, 34, 35, 36, 37, 38, 39, 40, 41, 42, 43, 44, 45, 46, 47, 48, 49, 50, 51, 52, 53, 54, 55, 56, 57, 58, 59, 60, 61, 62, 63] 80 rfl (by kernel_rfl) (Below wr.heap.size wr) (tqF3b x0 p0 x2 k g o n c) ((Below.refl _ _).drew)
                ⟨fun a' W' hC hF => ?_, fun a' W' hC hF => ?_, fun a' W' hC hF => ?_, fun a' W' hC hF => ?_, fun a' W' hC hF => ?_, fun a' W' hC hF => ?_, fun a' W' hC hF => ?_, fun a' W' hC hF => ?_, fun a' W' hC hF => ?_, fun a' W' hC hF => ?_, fun a' W' hC hF => ?_, fun a' W' hC hF => ?_, fun a' W' hC hF => ?_, fun a' W' hC hF => ?_, fun a' W' hC hF => ?_, fun a' W' hC hF => ?_, fun a' W' hC hF => ?_, fun a' W' hC hF => ?_, fun a' W' hC hF => ?_, fun a' W' hC hF => ?_, fun a' W' hC hF => ?_, fun a' W' hC hF => ?_, fun a' W' hC hF => ?_, fun a' W' hC hF => ?_, fun a' W' hC hF => ?_, fun a' W' hC hF => ?_, fun a' W' hC hF => ?_, fun a' W' hC hF => ?_, fun a' W' hC hF => ?_, fun a' W' hC hF => ?_, fun a' W' hC hF => ?_, fun a' W' hC hF => ?_, fun a' W' hC hF => ?_, fun a' W' hC hF => ?_, fun a' W' hC hF => ?_, fun a' W' hC hF => ?_, fun a' W' hC hF => ?_, fun a' W' hC hF => ?_, fun a' W' hC hF => ?_, fun a' W' hC hF => ?_, fun a' W' hC hF => ?_, fun a' W' hC hF => ?_, fun a' W' hC hF => ?_, fun a' W' hC hF => ?_, fun a' W' hC hF => ?_, fun a' W' hC hF => ?_, fun a' W' hC hF => ?_, fun a' W' hC hF => ?_, fun a' W' hC hF => ?_, trivial⟩ ?_
              · exact Tl.sm_v 15 _ rfl (Tl.wanted_none rfl) hC rfl (rn_move rfl ((hF 0 (by decide +kernel)).2 (by decide)))
              · exact Tl.sm_v 16 _ rfl (Tl.wanted_none rfl) hC rfl (rn_move rfl ((hF 3 (by decide +kernel)).2 (by decide)))
              · exact Tl.sm_v 17 _ rfl (Tl.wanted_none rfl) hC rfl (rn_ix22 rfl (show Act.eval a' (.tmp 15) = .slice (some ⟨g, o, none⟩) n c from ((hF 15 (by decide +kernel)).1 (by decide))) (show Act.eval a' (.tmp 16) = .int .i64 (k : Int) from ((hF 16 (by decide +kernel)).1 (by decide))) (by omega))
              · exact Tl.sm_v 18 _ rfl (Tl.wanted_none rfl) hC rfl (rn_fa38_0 rfl (show Act.eval a' (.tmp 17) = .pointer (some ⟨g, o + k * 3, none⟩) from ((hF 17 (by decide +kernel)).1 (by decide))))
              · exact Tl.sm_v 19 _ rfl (Tl.wanted_none rfl) hC rfl (rn_load9 rfl (show Act.eval a' (.tmp 18) = .pointer (some ⟨g, o + k * 3, none⟩) from ((hF 18 (by decide +kernel)).1 (by decide))) ((hC.cell (p := ⟨g, o + k * 3, none⟩) HLG.out).trans c0))
              · refine Tl.sm_call 15 #[_] (Tl.wanted_none rfl) (rn_call1 rfl rfl (show Act.eval a' (.tmp 19) = .string x0 from ((hF 19 (by decide +kernel)).1 (by decide))) (en15 _ _)) ((CM.out W').mono ?_)
                rintro e W'' ⟨rfl, hb⟩
                exact ⟨_, rfl, hC.trans (hb.mono hC.size), fun d v _ h => h, fun d hd => by cases hd; rfl⟩
              · exact Tl.sm_v 21 _ rfl (Tl.wanted_none rfl) hC rfl (rn_not rfl (show Act.eval a' (.tmp 20) = .bool true from ((hF 20 (by decide +kernel)).1 (by decide))) rfl)
              · exact Tl.sm_v 22 _ rfl (Tl.wanted_none rfl) hC rfl (rn_move rfl (show Act.eval a' (.tmp 21) = .bool false from ((hF 21 (by decide +kernel)).1 (by decide))))
              · exact Tl.sm_v 23 _ rfl (Tl.wanted_is rfl rfl (show Act.eval a' (.tmp 22) = .bool false from ((hF 22 (by decide +kernel)).1 (by decide)))) hC rfl (rn_move rfl ((hF 3 (by decide +kernel)).2 (by decide)))
              · exact Tl.sm_v 24 _ rfl (Tl.wanted_is rfl rfl (show Act.eval a' (.tmp 22) = .bool false from ((hF 22 (by decide +kernel)).1 (by decide)))) hC rfl (rn_gtr3 rfl (show Act.eval a' (.tmp 23) = .int .i64 (k : Int) from ((hF 23 (by decide +kernel)).1 (by decide))) rfl (by have := HK0.out; simp; omega))
              · exact Tl.sm_v 25 _ rfl (Tl.wanted_is rfl rfl (show Act.eval a' (.tmp 22) = .bool false from ((hF 22 (by decide +kernel)).1 (by decide)))) hC rfl (rn_move rfl (show Act.eval a' (.tmp 24) = .bool true from ((hF 24 (by decide +kernel)).1 (by decide))))
              · exact Tl.sm_v 26 _ rfl (Tl.wanted_is rfl rfl (show Act.eval a' (.tmp 25) = .bool true from ((hF 25 (by decide +kernel)).1 (by decide)))) hC rfl (rn_move rfl ((hF 0 (by decide +kernel)).2 (by decide)))
              · exact Tl.sm_v 27 _ rfl (Tl.wanted_is rfl rfl (show Act.eval a' (.tmp 25) = .bool true from ((hF 25 (by decide +kernel)).1 (by decide)))) hC rfl (rn_move rfl ((hF 3 (by decide +kernel)).2 (by decide)))
              · exact Tl.sm_v 28 _ rfl (Tl.wanted_is rfl rfl (show Act.eval a' (.tmp 25) = .bool true from ((hF 25 (by decide +kernel)).1 (by decide)))) hC rfl (rn_ix22 rfl (show Act.eval a' (.tmp 26) = .slice (some ⟨g, o, none⟩) n c from ((hF 26 (by decide +kernel)).1 (by decide))) (show Act.eval a' (.tmp 27) = .int .i64 (k : Int) from ((hF 27 (by decide +kernel)).1 (by decide))) (by omega))
              · exact Tl.sm_v 29 _ rfl (Tl.wanted_is rfl rfl (show Act.eval a' (.tmp 25) = .bool true from ((hF 25 (by decide +kernel)).1 (by decide)))) hC rfl (rn_fa38_0 rfl (show Act.eval a' (.tmp 28) = .pointer (some ⟨g, o + k * 3, none⟩) from ((hF 28 (by decide +kernel)).1 (by decide))))
              · exact Tl.sm_v 30 _ rfl (Tl.wanted_is rfl rfl (show Act.eval a' (.tmp 25) = .bool true from ((hF 25 (by decide +kernel)).1 (by decide)))) hC rfl (rn_load9 rfl (show Act.eval a' (.tmp 29) = .pointer (some ⟨g, o + k * 3, none⟩) from ((hF 29 (by decide +kernel)).1 (by decide))) ((hC.cell (p := ⟨g, o + k * 3, none⟩) HLG.out).trans c0))
              · exact Tl.sm_v 31 _ rfl (Tl.wanted_is rfl rfl (show Act.eval a' (.tmp 25) = .bool true from ((hF 25 (by decide +kernel)).1 (by decide)))) hC rfl (rn_move rfl ((hF 0 (by decide +kernel)).2 (by decide)))
              · exact Tl.sm_v 32 _ rfl (Tl.wanted_is rfl rfl (show Act.eval a' (.tmp 25) = .bool true from ((hF 25 (by decide +kernel)).1 (by decide)))) hC rfl (rn_move rfl ((hF 3 (by decide +kernel)).2 (by decide)))
              · exact Tl.sm_v 33 _ rfl (Tl.wanted_is rfl rfl (show Act.eval a' (.tmp 25) = .bool true from ((hF 25 (by decide +kernel)).1 (by decide)))) hC rfl (rn_sub3 rfl (show Act.eval a' (.tmp 32) = .int .i64 (k : Int) from ((hF 32 (by decide +kernel)).1 (by decide))) rfl wn)
              · exact Tl.sm_v 34 _ rfl (Tl.wanted_is rfl rfl (show Act.eval a' (.tmp 25) = .bool true from ((hF 25 (by decide +kernel)).1 (by decide)))) hC rfl (rn_ix22 rfl (show Act.eval a' (.tmp 31) = .slice (some ⟨g, o, none⟩) n c from ((hF 31 (by decide +kernel)).1 (by decide))) (show Act.eval a' (.tmp 33) = .int .i64 ((k - 1 : Nat) : Int) from ((hF 33 (by decide +kernel)).1 (by decide))) (by omega))
              · exact Tl.sm_v 35 _ rfl (Tl.wanted_is rfl rfl (show Act.eval a' (.tmp 25) = .bool true from ((hF 25 (by decide +kernel)).1 (by decide)))) hC rfl (rn_fa38_0 rfl (show Act.eval a' (.tmp 34) = .pointer (some ⟨g, o + (k - 1) * 3, none⟩) from ((hF 34 (by decide +kernel)).1 (by decide))))
              · exact Tl.sm_v 36 _ rfl (Tl.wanted_is rfl rfl (show Act.eval a' (.tmp 25) = .bool true from ((hF 25 (by decide +kernel)).1 (by decide)))) hC rfl (rn_load9 rfl (show Act.eval a' (.tmp 35) = .pointer (some ⟨g, o + (k - 1) * 3, none⟩) from ((hF 35 (by decide +kernel)).1 (by decide))) ((hC.cell (p := ⟨g, o + (k - 1) * 3, none⟩) HLG.out).trans d0))
              · exact Tl.sm_v 37 _ rfl (Tl.wanted_is rfl rfl (show Act.eval a' (.tmp 25) = .bool true from ((hF 25 (by decide +kernel)).1 (by decide)))) hC rfl (rn_leq9 rfl (show Act.eval a' (.tmp 30) = .string x0 from ((hF 30 (by decide +kernel)).1 (by decide))) (show Act.eval a' (.tmp 36) = .string p0 from ((hF 36 (by decide +kernel)).1 (by decide))) hge)
              · exact Tl.sm_v 38 _ rfl (Tl.wanted_is rfl rfl (show Act.eval a' (.tmp 22) = .bool false from ((hF 22 (by decide +kernel)).1 (by decide)))) hC rfl (rn_pickT rfl (show Act.eval a' (.tmp 25) = .bool true from ((hF 25 (by decide +kernel)).1 (by decide))) (show Act.eval a' (.tmp 37) = .bool false from ((hF 37 (by decide +kernel)).1 (by decide))))
              · exact Tl.sm_v 39 _ rfl (Tl.wanted_none rfl) hC rfl (rn_pickF rfl (show Act.eval a' (.tmp 22) = .bool false from ((hF 22 (by decide +kernel)).1 (by decide))) (show Act.eval a' (.tmp 38) = .bool false from ((hF 38 (by decide +kernel)).1 (by decide))))
              · exact Tl.sm_v 40 _ rfl (Tl.wanted_none rfl) hC rfl (rn_move rfl (show Act.eval a' (.tmp 39) = .bool false from ((hF 39 (by decide +kernel)).1 (by decide))))
              · exact Tl.sm_v 41 _ rfl (Tl.wanted_is rfl rfl (show Act.eval a' (.tmp 40) = .bool false from ((hF 40 (by decide +kernel)).1 (by decide)))) hC rfl (rn_move rfl ((hF 0 (by decide +kernel)).2 (by decide)))
              · exact Tl.sm_v 42 _ rfl (Tl.wanted_is rfl rfl (show Act.eval a' (.tmp 40) = .bool false from ((hF 40 (by decide +kernel)).1 (by decide)))) hC rfl (rn_move rfl ((hF 3 (by decide +kernel)).2 (by decide)))
              · exact Tl.sm_v 43 _ rfl (Tl.wanted_is rfl rfl (show Act.eval a' (.tmp 40) = .bool false from ((hF 40 (by decide +kernel)).1 (by decide)))) hC rfl (rn_ix22 rfl (show Act.eval a' (.tmp 41) = .slice (some ⟨g, o, none⟩) n c from ((hF 41 (by decide +kernel)).1 (by decide))) (show Act.eval a' (.tmp 42) = .int .i64 (k : Int) from ((hF 42 (by decide +kernel)).1 (by decide))) (by omega))
              · exact Tl.sm_v 44 _ rfl (Tl.wanted_is rfl rfl (show Act.eval a' (.tmp 40) = .bool false from ((hF 40 (by decide +kernel)).1 (by decide)))) hC rfl (rn_fa38_2 rfl (show Act.eval a' (.tmp 43) = .pointer (some ⟨g, o + k * 3, none⟩) from ((hF 43 (by decide +kernel)).1 (by decide))))
              · exact Tl.sm_v 45 _ rfl (Tl.wanted_is rfl rfl (show Act.eval a' (.tmp 40) = .bool false from ((hF 40 (by decide +kernel)).1 (by decide)))) hC rfl (rn_load9 rfl (show Act.eval a' (.tmp 44) = .pointer (some ⟨g, o + k * 3 + 2, none⟩) from ((hF 44 (by decide +kernel)).1 (by decide))) ((hC.cell (p := ⟨g, o + k * 3 + 2, none⟩) HLG.out).trans c2))
              · exact Tl.sm_v 46 _ rfl (Tl.wanted_is rfl rfl (show Act.eval a' (.tmp 40) = .bool false from ((hF 40 (by decide +kernel)).1 (by decide)))) hC rfl (rn_len9 rfl (show Act.eval a' (.tmp 45) = .string x2 from ((hF 45 (by decide +kernel)).1 (by decide))) )
              · exact Tl.sm_v 47 _ rfl (Tl.wanted_is rfl rfl (show Act.eval a' (.tmp 40) = .bool false from ((hF 40 (by decide +kernel)).1 (by decide)))) hC rfl (rn_gtr3 rfl (show Act.eval a' (.tmp 46) = .int .i64 (x2.size : Int) from ((hF 46 (by decide +kernel)).1 (by decide))) rfl hbig)
              · exact Tl.sm_v 48 _ rfl (Tl.wanted_none rfl) hC rfl (rn_pickF rfl (show Act.eval a' (.tmp 40) = .bool false from ((hF 40 (by decide +kernel)).1 (by decide))) (show Act.eval a' (.tmp 47) = .bool true from ((hF 47 (by decide +kernel)).1 (by decide))))
              · exact Tl.sm_v 49 _ rfl (Tl.wanted_none rfl) hC rfl (rn_move rfl (show Act.eval a' (.tmp 48) = .bool true from ((hF 48 (by decide +kernel)).1 (by decide))))
              · exact Tl.sm_skip (Tl.wanted_not rfl rfl (show Act.eval a' (.tmp 49) = .bool true from ((hF 49 (by decide +kernel)).1 (by decide)))) (fun d hd => by cases hd; rfl)
              · exact Tl.sm_skip (Tl.wanted_not rfl rfl (show Act.eval a' (.tmp 49) = .bool true from ((hF 49 (by decide +kernel)).1 (by decide)))) (fun d hd => by cases hd; rfl)
              · exact Tl.sm_skip (Tl.wanted_not rfl rfl (show Act.eval a' (.tmp 49) = .bool true from ((hF 49 (by decide +kernel)).1 (by decide)))) (fun d hd => by cases hd; rfl)
              · exact Tl.sm_skip (Tl.wanted_not rfl rfl (show Act.eval a' (.tmp 49) = .bool true from ((hF 49 (by decide +kernel)).1 (by decide)))) (fun d hd => by cases hd; rfl)
              · exact Tl.sm_skip (Tl.wanted_not rfl rfl (show Act.eval a' (.tmp 49) = .bool true from ((hF 49 (by decide +kernel)).1 (by decide)))) (fun d hd => by cases hd; rfl)
              · exact Tl.sm_skip (Tl.wanted_not rfl rfl (show Act.eval a' (.tmp 49) = .bool true from ((hF 49 (by decide +kernel)).1 (by decide)))) (fun d hd => by cases hd; rfl)
              · exact Tl.sm_skip (wanted_undef rfl rfl (show Act.eval a' (.tmp 55) = undef from ((hF 55 (by decide +kernel)).1 (by decide)))) (fun d hd => by cases hd; rfl)
              · exact Tl.sm_skip (wanted_undef rfl rfl (show Act.eval a' (.tmp 55) = undef from ((hF 55 (by decide +kernel)).1 (by decide)))) (fun d hd => by cases hd; rfl)
              · exact Tl.sm_skip (wanted_undef rfl rfl (show Act.eval a' (.tmp 55) = undef from ((hF 55 (by decide +kernel)).1 (by decide)))) (fun d hd => by cases hd; rfl)
              · exact Tl.sm_skip (wanted_undef rfl rfl (show Act.eval a' (.tmp 55) = undef from ((hF 55 (by decide +kernel)).1 (by decide)))) (fun d hd => by cases hd; rfl)
              · exact Tl.sm_skip (wanted_undef rfl rfl (show Act.eval a' (.tmp 55) = undef from ((hF 55 (by decide +kernel)).1 (by decide)))) (fun d hd => by cases hd; rfl)
              · exact Tl.sm_skip (wanted_undef rfl rfl (show Act.eval a' (.tmp 55) = undef from ((hF 55 (by decide +kernel)).1 (by decide)))) (fun d hd => by cases hd; rfl)
              · exact Tl.sm_skip (Tl.wanted_not rfl rfl (show Act.eval a' (.tmp 49) = .bool true from ((hF 49 (by decide +kernel)).1 (by decide)))) (fun d hd => by cases hd; rfl)
              · exact Tl.sm_v 63 _ rfl (Tl.wanted_none rfl) hC rfl (rn_pickT rfl (show Act.eval a' (.tmp 49) = .bool true from ((hF 49 (by decide +kernel)).1 (by decide))) rfl)
              intro v' w9 hC hv
              have e63 : v' 63 = .bool true := hv 63 (by decide)
              clear hv
              have HB9 := hid (HB.out.trans (hC.mono HB.out.size))
              clear hC d0 c0 c1 c2
              simp only [Tl.fill, List.drop]
              simp only [Act.put, List.setIfInBounds_toArray, List.set_cons_succ, List.set_cons_zero, e63]
              subst hrf
              go_wp2_with fail
              go_ret
              exact ⟨rfl, HB9.out⟩
            · have hbig : decide ((16384 : Int) < (x2.size : Int)) = false := decide_eq_false (by omega)
              cases x1 with
              | true =>
                by_cases hz : x2.size = 0
                · have hne : (!decide (x2.size = 0)) = false := by rw [decide_eq_true hz]; rfl
                  have HOKL : Hid (∀ b : Bool, (mayB x0 && ((decide (k = 0) || lt p0 x0) && (holdB ⟨x0, true, x2⟩ && b))) = b) := hid (fun b => by
                    have hh : holdB ⟨x0, true, x2⟩ = true := decide_eq_true hz
                    rw [hm, hrise, hh]; rfl)
                  clear hm hrise hz
                  go_wp2_with fail
                  refine Tl.wp_mix_lit (by kernel_rfl) 49 [15, 16, 17, 18, 19, 20, 21, 22, 23, 24, 25, 26, 27, 28, 29, 30, 31, 32, 33, 34, 35, 36, 37, 38, 39, 40, 41, 42, 43, 44, 45, 46, 47, 48, 49, 50, 51, 52, 53, 54, 55, 56, 57, 58, 59, 60, 61, 62, 63] 80 rfl (by kernel_rfl) (Below wr.heap.size wr) (tqF4b x0 p0 x2 k g o n c) ((Below.refl _ _).drew)
                    ⟨fun a' W' hC hF => ?_, fun a' W' hC hF => ?_, fun a' W' hC hF => ?_, fun a' W' hC hF => ?_, fun a' W' hC hF => ?_, fun a' W' hC hF => ?_, fun a' W' hC hF => ?_, fun a' W' hC hF => ?_, fun a' W' hC hF => ?_, fun a' W' hC hF => ?_, fun a' W' hC hF => ?_, fun a' W' hC hF => ?_, fun a' W' hC hF => ?_, fun a' W' hC hF => ?_, fun a' W' hC hF => ?_, fun a' W' hC hF => ?_, fun a' W' hC hF => ?_, fun a' W' hC hF => ?_, fun a' W' hC hF => ?_, fun a' W' hC hF => ?_, fun a' W' hC hF => ?_, fun a' W' hC hF => ?_, fun a' W' hC hF => ?_, fun a' W' hC hF => ?_, fun a' W' hC hF => ?_, fun a' W' hC hF => ?_, fun a' W' hC hF => ?_, fun a' W' hC hF => ?_, fun a' W' hC hF => ?_, fun a' W' hC hF => ?_, fun a' W' hC hF => ?_, fun a' W' hC hF => ?_, fun a' W' hC hF => ?_, fun a' W' hC hF => ?_, fun a' W' hC hF => ?_, fun a' W' hC hF => ?_, fun a' W' hC hF => ?_, fun a' W' hC hF => ?_, fun a' W' hC hF => ?_, fun a' W' hC hF => ?_, fun a' W' hC hF => ?_, fun a' W' hC hF => ?_, fun a' W' hC hF => ?_, fun a' W' hC hF => ?_, fun a' W' hC hF => ?_, fun a' W' hC hF => ?_, fun a' W' hC hF => ?_, fun a' W' hC hF => ?_, fun a' W' hC hF => ?_, trivial⟩ ?_
                  · exact Tl.sm_v 15 _ rfl (Tl.wanted_none rfl) hC rfl (rn_move rfl ((hF 0 (by decide +kernel)).2 (by decide)))
                  · exact Tl.sm_v 16 _ rfl (Tl.wanted_none rfl) hC rfl (rn_move rfl ((hF 3 (by decide +kernel)).2 (by decide)))
                  · exact Tl.sm_v 17 _ rfl (Tl.wanted_none rfl) hC rfl (rn_ix22 rfl (show Act.eval a' (.tmp 15) = .slice (some ⟨g, o, none⟩) n c from ((hF 15 (by decide +kernel)).1 (by decide))) (show Act.eval a' (.tmp 16) = .int .i64 (k : Int) from ((hF 16 (by decide +kernel)).1 (by decide))) (by omega))
                  · exact Tl.sm_v 18 _ rfl (Tl.wanted_none rfl) hC rfl (rn_fa38_0 rfl (show Act.eval a' (.tmp 17) = .pointer (some ⟨g, o + k * 3, none⟩) from ((hF 17 (by decide +kernel)).1 (by decide))))
                  · exact Tl.sm_v 19 _ rfl (Tl.wanted_none rfl) hC rfl (rn_load9 rfl (show Act.eval a' (.tmp 18) = .pointer (some ⟨g, o + k * 3, none⟩) from ((hF 18 (by decide +kernel)).1 (by decide))) ((hC.cell (p := ⟨g, o + k * 3, none⟩) HLG.out).trans c0))
                  · refine Tl.sm_call 15 #[_] (Tl.wanted_none rfl) (rn_call1 rfl rfl (show Act.eval a' (.tmp 19) = .string x0 from ((hF 19 (by decide +kernel)).1 (by decide))) (en15 _ _)) ((CM.out W').mono ?_)
                    rintro e W'' ⟨rfl, hb⟩
                    exact ⟨_, rfl, hC.trans (hb.mono hC.size), fun d v _ h => h, fun d hd => by cases hd; rfl⟩
                  · exact Tl.sm_v 21 _ rfl (Tl.wanted_none rfl) hC rfl (rn_not rfl (show Act.eval a' (.tmp 20) = .bool true from ((hF 20 (by decide +kernel)).1 (by decide))) rfl)
                  · exact Tl.sm_v 22 _ rfl (Tl.wanted_none rfl) hC rfl (rn_move rfl (show Act.eval a' (.tmp 21) = .bool false from ((hF 21 (by decide +kernel)).1 (by decide))))
                  · exact Tl.sm_v 23 _ rfl (Tl.wanted_is rfl rfl (show Act.eval a' (.tmp 22) = .bool false from ((hF 22 (by decide +kernel)).1 (by decide)))) hC rfl (rn_move rfl ((hF 3 (by decide +kernel)).2 (by decide)))
                  · exact Tl.sm_v 24 _ rfl (Tl.wanted_is rfl rfl (show Act.eval a' (.tmp 22) = .bool false from ((hF 22 (by decide +kernel)).1 (by decide)))) hC rfl (rn_gtr3 rfl (show Act.eval a' (.tmp 23) = .int .i64 (k : Int) from ((hF 23 (by decide +kernel)).1 (by decide))) rfl (by have := HK0.out; simp; omega))
                  · exact Tl.sm_v 25 _ rfl (Tl.wanted_is rfl rfl (show Act.eval a' (.tmp 22) = .bool false from ((hF 22 (by decide +kernel)).1 (by decide)))) hC rfl (rn_move rfl (show Act.eval a' (.tmp 24) = .bool true from ((hF 24 (by decide +kernel)).1 (by decide))))
                  · exact Tl.sm_v 26 _ rfl (Tl.wanted_is rfl rfl (show Act.eval a' (.tmp 25) = .bool true from ((hF 25 (by decide +kernel)).1 (by decide)))) hC rfl (rn_move rfl ((hF 0 (by decide +kernel)).2 (by decide)))
                  · exact Tl.sm_v 27 _ rfl (Tl.wanted_is rfl rfl (show Act.eval a' (.tmp 25) = .bool true from ((hF 25 (by decide +kernel)).1 (by decide)))) hC rfl (rn_move rfl ((hF 3 (by decide +kernel)).2 (by decide)))
                  · exact Tl.sm_v 28 _ rfl (Tl.wanted_is rfl rfl (show Act.eval a' (.tmp 25) = .bool true from ((hF 25 (by decide +kernel)).1 (by decide)))) hC rfl (rn_ix22 rfl (show Act.eval a' (.tmp 26) = .slice (some ⟨g, o, none⟩) n c from ((hF 26 (by decide +kernel)).1 (by decide))) (show Act.eval a' (.tmp 27) = .int .i64 (k : Int) from ((hF 27 (by decide +kernel)).1 (by decide))) (by omega))
                  · exact Tl.sm_v 29 _ rfl (Tl.wanted_is rfl rfl (show Act.eval a' (.tmp 25) = .bool true from ((hF 25 (by decide +kernel)).1 (by decide)))) hC rfl (rn_fa38_0 rfl (show Act.eval a' (.tmp 28) = .pointer (some ⟨g, o + k * 3, none⟩) from ((hF 28 (by decide +kernel)).1 (by decide))))
                  · exact Tl.sm_v 30 _ rfl (Tl.wanted_is rfl rfl (show Act.eval a' (.tmp 25) = .bool true from ((hF 25 (by decide +kernel)).1 (by decide)))) hC rfl (rn_load9 rfl (show Act.eval a' (.tmp 29) = .pointer (some ⟨g, o + k * 3, none⟩) from ((hF 29 (by decide +kernel)).1 (by decide))) ((hC.cell (p := ⟨g, o + k * 3, none⟩) HLG.out).trans c0))
                  · exact Tl.sm_v 31 _ rfl (Tl.wanted_is rfl rfl (show Act.eval a' (.tmp 25) = .bool true from ((hF 25 (by decide +kernel)).1 (by decide)))) hC rfl (rn_move rfl ((hF 0 (by decide +kernel)).2 (by decide)))
                  · exact Tl.sm_v 32 _ rfl (Tl.wanted_is rfl rfl (show Act.eval a' (.tmp 25) = .bool true from ((hF 25 (by decide +kernel)).1 (by decide)))) hC rfl (rn_move rfl ((hF 3 (by decide +kernel)).2 (by decide)))
                  · exact Tl.sm_v 33 _ rfl (Tl.wanted_is rfl rfl (show Act.eval a' (.tmp 25) = .bool true from ((hF 25 (by decide +kernel)).1 (by decide)))) hC rfl (rn_sub3 rfl (show Act.eval a' (.tmp 32) = .int .i64 (k : Int) from ((hF 32 (by decide +kernel)).1 (by decide))) rfl wn)
                  · exact Tl.sm_v 34 _ rfl (Tl.wanted_is rfl rfl (show Act.eval a' (.tmp 25) = .bool true from ((hF 25 (by decide +kernel)).1 (by decide)))) hC rfl (rn_ix22 rfl (show Act.eval a' (.tmp 31) = .slice (some ⟨g, o, none⟩) n c from ((hF 31 (by decide +kernel)).1 (by decide))) (show Act.eval a' (.tmp 33) = .int .i64 ((k - 1 : Nat) : Int) from ((hF 33 (by decide +kernel)).1 (by decide))) (by omega))
                  · exact Tl.sm_v 35 _ rfl (Tl.wanted_is rfl rfl (show Act.eval a' (.tmp 25) = .bool true from ((hF 25 (by decide +kernel)).1 (by decide)))) hC rfl (rn_fa38_0 rfl (show Act.eval a' (.tmp 34) = .pointer (some ⟨g, o + (k - 1) * 3, none⟩) from ((hF 34 (by decide +kernel)).1 (by decide))))
                  · exact Tl.sm_v 36 _ rfl (Tl.wanted_is rfl rfl (show Act.eval a' (.tmp 25) = .bool true from ((hF 25 (by decide +kernel)).1 (by decide)))) hC rfl (rn_load9 rfl (show Act.eval a' (.tmp 35) = .pointer (some ⟨g, o + (k - 1) * 3, none⟩) from ((hF 35 (by decide +kernel)).1 (by decide))) ((hC.cell (p := ⟨g, o + (k - 1) * 3, none⟩) HLG.out).trans d0))
                  · exact Tl.sm_v 37 _ rfl (Tl.wanted_is rfl rfl (show Act.eval a' (.tmp 25) = .bool true from ((hF 25 (by decide +kernel)).1 (by decide)))) hC rfl (rn_leq9 rfl (show Act.eval a' (.tmp 30) = .string x0 from ((hF 30 (by decide +kernel)).1 (by decide))) (show Act.eval a' (.tmp 36) = .string p0 from ((hF 36 (by decide +kernel)).1 (by decide))) hge)
                  · exact Tl.sm_v 38 _ rfl (Tl.wanted_is rfl rfl (show Act.eval a' (.tmp 22) = .bool false from ((hF 22 (by decide +kernel)).1 (by decide)))) hC rfl (rn_pickT rfl (show Act.eval a' (.tmp 25) = .bool true from ((hF 25 (by decide +kernel)).1 (by decide))) (show Act.eval a' (.tmp 37) = .bool false from ((hF 37 (by decide +kernel)).1 (by decide))))
                  · exact Tl.sm_v 39 _ rfl (Tl.wanted_none rfl) hC rfl (rn_pickF rfl (show Act.eval a' (.tmp 22) = .bool false from ((hF 22 (by decide +kernel)).1 (by decide))) (show Act.eval a' (.tmp 38) = .bool false from ((hF 38 (by decide +kernel)).1 (by decide))))
                  · exact Tl.sm_v 40 _ rfl (Tl.wanted_none rfl) hC rfl (rn_move rfl (show Act.eval a' (.tmp 39) = .bool false from ((hF 39 (by decide +kernel)).1 (by decide))))
                  · exact Tl.sm_v 41 _ rfl (Tl.wanted_is rfl rfl (show Act.eval a' (.tmp 40) = .bool false from ((hF 40 (by decide +kernel)).1 (by decide)))) hC rfl (rn_move rfl ((hF 0 (by decide +kernel)).2 (by decide)))
                  · exact Tl.sm_v 42 _ rfl (Tl.wanted_is rfl rfl (show Act.eval a' (.tmp 40) = .bool false from ((hF 40 (by decide +kernel)).1 (by decide)))) hC rfl (rn_move rfl ((hF 3 (by decide +kernel)).2 (by decide)))
                  · exact Tl.sm_v 43 _ rfl (Tl.wanted_is rfl rfl (show Act.eval a' (.tmp 40) = .bool false from ((hF 40 (by decide +kernel)).1 (by decide)))) hC rfl (rn_ix22 rfl (show Act.eval a' (.tmp 41) = .slice (some ⟨g, o, none⟩) n c from ((hF 41 (by decide +kernel)).1 (by decide))) (show Act.eval a' (.tmp 42) = .int .i64 (k : Int) from ((hF 42 (by decide +kernel)).1 (by decide))) (by omega))
                  · exact Tl.sm_v 44 _ rfl (Tl.wanted_is rfl rfl (show Act.eval a' (.tmp 40) = .bool false from ((hF 40 (by decide +kernel)).1 (by decide)))) hC rfl (rn_fa38_2 rfl (show Act.eval a' (.tmp 43) = .pointer (some ⟨g, o + k * 3, none⟩) from ((hF 43 (by decide +kernel)).1 (by decide))))
                  · exact Tl.sm_v 45 _ rfl (Tl.wanted_is rfl rfl (show Act.eval a' (.tmp 40) = .bool false from ((hF 40 (by decide +kernel)).1 (by decide)))) hC rfl (rn_load9 rfl (show Act.eval a' (.tmp 44) = .pointer (some ⟨g, o + k * 3 + 2, none⟩) from ((hF 44 (by decide +kernel)).1 (by decide))) ((hC.cell (p := ⟨g, o + k * 3 + 2, none⟩) HLG.out).trans c2))
                  · exact Tl.sm_v 46 _ rfl (Tl.wanted_is rfl rfl (show Act.eval a' (.tmp 40) = .bool false from ((hF 40 (by decide +kernel)).1 (by decide)))) hC rfl (rn_len9 rfl (show Act.eval a' (.tmp 45) = .string x2 from ((hF 45 (by decide +kernel)).1 (by decide))) )
                  · exact Tl.sm_v 47 _ rfl (Tl.wanted_is rfl rfl (show Act.eval a' (.tmp 40) = .bool false from ((hF 40 (by decide +kernel)).1 (by decide)))) hC rfl (rn_gtr3 rfl (show Act.eval a' (.tmp 46) = .int .i64 (x2.size : Int) from ((hF 46 (by decide +kernel)).1 (by decide))) rfl hbig)
                  · exact Tl.sm_v 48 _ rfl (Tl.wanted_none rfl) hC rfl (rn_pickF rfl (show Act.eval a' (.tmp 40) = .bool false from ((hF 40 (by decide +kernel)).1 (by decide))) (show Act.eval a' (.tmp 47) = .bool false from ((hF 47 (by decide +kernel)).1 (by decide))))
                  · exact Tl.sm_v 49 _ rfl (Tl.wanted_none rfl) hC rfl (rn_move rfl (show Act.eval a' (.tmp 48) = .bool false from ((hF 48 (by decide +kernel)).1 (by decide))))
                  · exact Tl.sm_v 50 _ rfl (Tl.wanted_is rfl rfl (show Act.eval a' (.tmp 49) = .bool false from ((hF 49 (by decide +kernel)).1 (by decide)))) hC rfl (rn_move rfl ((hF 0 (by decide +kernel)).2 (by decide)))
                  · exact Tl.sm_v 51 _ rfl (Tl.wanted_is rfl rfl (show Act.eval a' (.tmp 49) = .bool false from ((hF 49 (by decide +kernel)).1 (by decide)))) hC rfl (rn_move rfl ((hF 3 (by decide +kernel)).2 (by decide)))
                  · exact Tl.sm_v 52 _ rfl (Tl.wanted_is rfl rfl (show Act.eval a' (.tmp 49) = .bool false from ((hF 49 (by decide +kernel)).1 (by decide)))) hC rfl (rn_ix22 rfl (show Act.eval a' (.tmp 50) = .slice (some ⟨g, o, none⟩) n c from ((hF 50 (by decide +kernel)).1 (by decide))) (show Act.eval a' (.tmp 51) = .int .i64 (k : Int) from ((hF 51 (by decide +kernel)).1 (by decide))) (by omega))
                  · exact Tl.sm_v 53 _ rfl (Tl.wanted_is rfl rfl (show Act.eval a' (.tmp 49) = .bool false from ((hF 49 (by decide +kernel)).1 (by decide)))) hC rfl (rn_fa38_1 rfl (show Act.eval a' (.tmp 52) = .pointer (some ⟨g, o + k * 3, none⟩) from ((hF 52 (by decide +kernel)).1 (by decide))))
                  · exact Tl.sm_v 54 _ rfl (Tl.wanted_is rfl rfl (show Act.eval a' (.tmp 49) = .bool false from ((hF 49 (by decide +kernel)).1 (by decide)))) hC rfl (rn_load4 rfl (show Act.eval a' (.tmp 53) = .pointer (some ⟨g, o + k * 3 + 1, none⟩) from ((hF 53 (by decide +kernel)).1 (by decide))) ((hC.cell (p := ⟨g, o + k * 3 + 1, none⟩) HLG.out).trans c1))
                  · exact Tl.sm_v 55 _ rfl (Tl.wanted_is rfl rfl (show Act.eval a' (.tmp 49) = .bool false from ((hF 49 (by decide +kernel)).1 (by decide)))) hC rfl (rn_move rfl (show Act.eval a' (.tmp 54) = .bool true from ((hF 54 (by decide +kernel)).1 (by decide))))
                  · exact Tl.sm_v 56 _ rfl (Tl.wanted_is rfl rfl (show Act.eval a' (.tmp 55) = .bool true from ((hF 55 (by decide +kernel)).1 (by decide)))) hC rfl (rn_move rfl ((hF 0 (by decide +kernel)).2 (by decide)))
                  · exact Tl.sm_v 57 _ rfl (Tl.wanted_is rfl rfl (show Act.eval a' (.tmp 55) = .bool true from ((hF 55 (by decide +kernel)).1 (by decide)))) hC rfl (rn_move rfl ((hF 3 (by decide +kernel)).2 (by decide)))
                  · exact Tl.sm_v 58 _ rfl (Tl.wanted_is rfl rfl (show Act.eval a' (.tmp 55) = .bool true from ((hF 55 (by decide +kernel)).1 (by decide)))) hC rfl (rn_ix22 rfl (show Act.eval a' (.tmp 56) = .slice (some ⟨g, o, none⟩) n c from ((hF 56 (by decide +kernel)).1 (by decide))) (show Act.eval a' (.tmp 57) = .int .i64 (k : Int) from ((hF 57 (by decide +kernel)).1 (by decide))) (by omega))
                  · exact Tl.sm_v 59 _ rfl (Tl.wanted_is rfl rfl (show Act.eval a' (.tmp 55) = .bool true from ((hF 55 (by decide +kernel)).1 (by decide)))) hC rfl (rn_fa38_2 rfl (show Act.eval a' (.tmp 58) = .pointer (some ⟨g, o + k * 3, none⟩) from ((hF 58 (by decide +kernel)).1 (by decide))))
                  · exact Tl.sm_v 60 _ rfl (Tl.wanted_is rfl rfl (show Act.eval a' (.tmp 55) = .bool true from ((hF 55 (by decide +kernel)).1 (by decide)))) hC rfl (rn_load9 rfl (show Act.eval a' (.tmp 59) = .pointer (some ⟨g, o + k * 3 + 2, none⟩) from ((hF 59 (by decide +kernel)).1 (by decide))) ((hC.cell (p := ⟨g, o + k * 3 + 2, none⟩) HLG.out).trans c2))
                  · exact Tl.sm_v 61 _ rfl (Tl.wanted_is rfl rfl (show Act.eval a' (.tmp 55) = .bool true from ((hF 55 (by decide +kernel)).1 (by decide)))) hC rfl (rn_neq9 rfl (show Act.eval a' (.tmp 60) = .string x2 from ((hF 60 (by decide +kernel)).1 (by decide))) rfl hne)
                  · exact Tl.sm_v 62 _ rfl (Tl.wanted_is rfl rfl (show Act.eval a' (.tmp 49) = .bool false from ((hF 49 (by decide +kernel)).1 (by decide)))) hC rfl (rn_pickT rfl (show Act.eval a' (.tmp 55) = .bool true from ((hF 55 (by decide +kernel)).1 (by decide))) (show Act.eval a' (.tmp 61) = .bool false from ((hF 61 (by decide +kernel)).1 (by decide))))
                  · exact Tl.sm_v 63 _ rfl (Tl.wanted_none rfl) hC rfl (rn_pickF rfl (show Act.eval a' (.tmp 49) = .bool false from ((hF 49 (by decide +kernel)).1 (by decide))) (show Act.eval a' (.tmp 62) = .bool false from ((hF 62 (by decide +kernel)).1 (by decide))))
                  intro v' w9 hC hv
                  have e63 : v' 63 = .bool false := hv 63 (by decide)
                  clear hv
                  have HB9 := hid (HB.out.trans (hC.mono HB.out.size))
                  have z0 := (hC.cell (p := ⟨g, o + k * 3, none⟩) HLG.out).trans c0
                  clear hC d0 c0 c1 c2
                  have CD9 := CD.out _ HB9.out
                  generalize dirB l (abU x0) = bd at *
                  generalize abU x0 = u at *
                  simp only [Tl.fill, List.drop]
                  simp only [Act.put, List.setIfInBounds_toArray, List.set_cons_succ, List.set_cons_zero, e63]
                  generalize v' 15 = y15 at *
                  generalize v' 16 = y16 at *
                  generalize v' 17 = y17 at *
                  generalize v' 18 = y18 at *
                  generalize v' 19 = y19 at *
                  generalize v' 20 = y20 at *
                  generalize v' 21 = y21 at *
                  generalize v' 22 = y22 at *
                  generalize v' 23 = y23 at *
                  generalize v' 24 = y24 at *
                  generalize v' 25 = y25 at *
                  generalize v' 26 = y26 at *
                  generalize v' 27 = y27 at *
                  generalize v' 28 = y28 at *
                  generalize v' 29 = y29 at *
                  generalize v' 30 = y30 at *
                  generalize v' 31 = y31 at *
                  generalize v' 32 = y32 at *
                  generalize v' 33 = y33 at *
                  generalize v' 34 = y34 at *
                  generalize v' 35 = y35 at *
                  generalize v' 36 = y36 at *
                  generalize v' 37 = y37 at *
                  generalize v' 38 = y38 at *
                  generalize v' 39 = y39 at *
                  generalize v' 40 = y40 at *
                  generalize v' 41 = y41 at *
                  generalize v' 42 = y42 at *
                  generalize v' 43 = y43 at *
                  generalize v' 44 = y44 at *
                  generalize v' 45 = y45 at *
                  generalize v' 46 = y46 at *
                  generalize v' 47 = y47 at *
                  generalize v' 48 = y48 at *
                  generalize v' 49 = y49 at *
                  generalize v' 50 = y50 at *
                  generalize v' 51 = y51 at *
                  generalize v' 52 = y52 at *
                  generalize v' 53 = y53 at *
                  generalize v' 54 = y54 at *
                  generalize v' 55 = y55 at *
                  generalize v' 56 = y56 at *
                  generalize v' 57 = y57 at *
                  generalize v' 58 = y58 at *
                  generalize v' 59 = y59 at *
                  generalize v' 60 = y60 at *
                  generalize v' 61 = y61 at *
                  generalize v' 62 = y62 at *
                  cases hab : abB x0 with
                  | false =>
                    have HA2 : Hid ((List.range (k + 1)).all (okR l) = true) := hid (by rw [HAS.out, HA.out, HOK.out, HOKL.out, hab]; rfl)
                    rw [hab] at C3
                    clear hab CD9
                    go_wp2_with fail
                    refine (C3 _).mono ?_
                    rintro e wc ⟨rfl, hwc⟩
                    rw [hwc]
                    clear hwc
                    go_wp2_with fail
                    go_roundw
                    case rel => exact ⟨k + 1, by omega, by rfl, HA2, HB9⟩
                    case measure => first | (simp [intOf]; done) | (simp [intOf]; omega)
                  | true =>
                    rw [hab] at C3
                    cases bd with
                    | true =>
                      have HA2 : Hid ((List.range (k + 1)).all (okR l) = true) := hid (by rw [HAS.out, HA.out, HOK.out, HOKL.out, hab]; rfl)
                      clear hab
                      go_wp2_with fail
                      refine (C3 _).mono ?_
                      rintro e wc ⟨rfl, hwc⟩
                      rw [hwc]
                      clear hwc
                      go_wp2_with fail
                      refine CD9.mono ?_
                      rintro e wd ⟨rfl, hbd⟩
                      have HBD := hid (HB9.out.trans (hbd.mono HB9.out.size))
                      clear hbd CD9
                      go_wp2_with fail
                      go_roundw
                      case rel => exact ⟨k + 1, by omega, by rfl, HA2, HBD⟩
                      case measure => first | (simp [intOf]; done) | (simp [intOf]; omega)
                    | false =>
                      have hrf : r = false := by rw [HR.out, HTP.out]; exact HAN.out (by rw [HOK.out, HOKL.out, hab]; rfl)
                      subst hrf
                      clear hab
                      go_wp2_with fail
                      refine (C3 _).mono ?_
                      rintro e wc ⟨rfl, hwc⟩
                      rw [hwc]
                      clear hwc
                      go_wp2_with fail
                      refine CD9.mono ?_
                      rintro e wd ⟨rfl, hbd⟩
                      have HBD := hid (HB9.out.trans (hbd.mono HB9.out.size))
                      clear hbd CD9
                      go_wp2_with fail
                      go_ret
                      exact ⟨rfl, HBD.out⟩
                · have hne : (!decide (x2.size = 0)) = true := by rw [decide_eq_false hz]; rfl
                  have hrf : r = false := by
                    have hh : holdB ⟨x0, true, x2⟩ = false := decide_eq_false hz
                    rw [HR.out, HTP.out]; exact HAN.out (by rw [HOK.out, hm, hrise, hh]; rfl)
                  clear hm hrise hz C3 CD
                  go_wp2_with fail
                  refine Tl.wp_mix_lit (by kernel_rfl) 49 [15, 16, 17, 18, 19, 20, 21, 22, 23, 24, 25, 26, 27, 28, 29, 30, 31, 32, 33, 34, 35, 36, 37, 38, 39, 40, 41, 42, 43, 44, 45, 46, 47, 48, 49, 50, 51, 52, 53, 54, 55, 56, 57, 58, 59, 60, 61, 62, 63] 80 rfl (by kernel_rfl) (Below wr.heap.size wr) (tqF5b x0 p0 x2 k g o n c) ((Below.refl _ _).drew)
                    ⟨fun a' W' hC hF => ?_, fun a' W' hC hF => ?_, fun a' W' hC hF => ?_, fun a' W' hC hF => ?_, fun a' W' hC hF => ?_, fun a' W' hC hF => ?_, fun a' W' hC hF => ?_, fun a' W' hC hF => ?_, fun a' W' hC hF => ?_, fun a' W' hC hF => ?_, fun a' W' hC hF => ?_, fun a' W' hC hF => ?_, fun a' W' hC hF => ?_, fun a' W' hC hF => ?_, fun a' W' hC hF => ?_, fun a' W' hC hF => ?_, fun a' W' hC hF => ?_, fun a' W' hC hF => ?_, fun a' W' hC hF => ?_, fun a' W' hC hF => ?_, fun a' W' hC hF => ?_, fun a' W' hC hF => ?_, fun a' W' hC hF => ?_, fun a' W' hC hF => ?_, fun a' W' hC hF => ?_, fun a' W' hC hF => ?_, fun a' W' hC hF => ?_, fun a' W' hC hF => ?_, fun a' W' hC hF => ?_, fun a' W' hC hF => ?_, fun a' W' hC hF => ?_, fun a' W' hC hF => ?_, fun a' W' hC hF => ?_, fun a' W' hC hF => ?_, fun a' W' hC hF => ?_, fun a' W' hC hF => ?_, fun a' W' hC hF => ?_, fun a' W' hC hF => ?_, fun a' W' hC hF => ?_, fun a' W' hC hF => ?_, fun a' W' hC hF => ?_, fun a' W' hC hF => ?_, fun a' W' hC hF => ?_, fun a' W' hC hF => ?_, fun a' W' hC hF => ?_, fun a' W' hC hF => ?_, fun a' W' hC hF => ?_, fun a' W' hC hF => ?_, fun a' W' hC hF => ?_, trivial⟩ ?_
                  · exact Tl.sm_v 15 _ rfl (Tl.wanted_none rfl) hC rfl (rn_move rfl ((hF 0 (by decide +kernel)).2 (by decide)))
                  · exact Tl.sm_v 16 _ rfl (Tl.wanted_none rfl) hC rfl (rn_move rfl ((hF 3 (by decide +kernel)).2 (by decide)))
                  · exact Tl.sm_v 17 _ rfl (Tl.wanted_none rfl) hC rfl (rn_ix22 rfl (show Act.eval a' (.tmp 15) = .slice (some ⟨g, o, none⟩) n c from ((hF 15 (by decide +kernel)).1 (by decide))) (show Act.eval a' (.tmp 16) = .int .i64 (k : Int) from ((hF 16 (by decide +kernel)).1 (by decide))) (by omega))
                  · exact Tl.sm_v 18 _ rfl (Tl.wanted_none rfl) hC rfl (rn_fa38_0 rfl (show Act.eval a' (.tmp 17) = .pointer (some ⟨g, o + k * 3, none⟩) from ((hF 17 (by decide +kernel)).1 (by decide))))
                  · exact Tl.sm_v 19 _ rfl (Tl.wanted_none rfl) hC rfl (rn_load9 rfl (show Act.eval a' (.tmp 18) = .pointer (some ⟨g, o + k * 3, none⟩) from ((hF 18 (by decide +kernel)).1 (by decide))) ((hC.cell (p := ⟨g, o + k * 3, none⟩) HLG.out).trans c0))
                  · refine Tl.sm_call 15 #[_] (Tl.wanted_none rfl) (rn_call1 rfl rfl (show Act.eval a' (.tmp 19) = .string x0 from ((hF 19 (by decide +kernel)).1 (by decide))) (en15 _ _)) ((CM.out W').mono ?_)
                    rintro e W'' ⟨rfl, hb⟩
                    exact ⟨_, rfl, hC.trans (hb.mono hC.size), fun d v _ h => h, fun d hd => by cases hd; rfl⟩
                  · exact Tl.sm_v 21 _ rfl (Tl.wanted_none rfl) hC rfl (rn_not rfl (show Act.eval a' (.tmp 20) = .bool true from ((hF 20 (by decide +kernel)).1 (by decide))) rfl)
                  · exact Tl.sm_v 22 _ rfl (Tl.wanted_none rfl) hC rfl (rn_move rfl (show Act.eval a' (.tmp 21) = .bool false from ((hF 21 (by decide +kernel)).1 (by decide))))
                  · exact Tl.sm_v 23 _ rfl (Tl.wanted_is rfl rfl (show Act.eval a' (.tmp 22) = .bool false from ((hF 22 (by decide +kernel)).1 (by decide)))) hC rfl (rn_move rfl ((hF 3 (by decide +kernel)).2 (by decide)))
                  · exact Tl.sm_v 24 _ rfl (Tl.wanted_is rfl rfl (show Act.eval a' (.tmp 22) = .bool false from ((hF 22 (by decide +kernel)).1 (by decide)))) hC rfl (rn_gtr3 rfl (show Act.eval a' (.tmp 23) = .int .i64 (k : Int) from ((hF 23 (by decide +kernel)).1 (by decide))) rfl (by have := HK0.out; simp; omega))
                  · exact Tl.sm_v 25 _ rfl (Tl.wanted_is rfl rfl (show Act.eval a' (.tmp 22) = .bool false from ((hF 22 (by decide +kernel)).1 (by decide)))) hC rfl (rn_move rfl (show Act.eval a' (.tmp 24) = .bool true from ((hF 24 (by decide +kernel)).1 (by decide))))
                  · exact Tl.sm_v 26 _ rfl (Tl.wanted_is rfl rfl (show Act.eval a' (.tmp 25) = .bool true from ((hF 25 (by decide +kernel)).1 (by decide)))) hC rfl (rn_move rfl ((hF 0 (by decide +kernel)).2 (by decide)))
                  · exact Tl.sm_v 27 _ rfl (Tl.wanted_is rfl rfl (show Act.eval a' (.tmp 25) = .bool true from ((hF 25 (by decide +kernel)).1 (by decide)))) hC rfl (rn_move rfl ((hF 3 (by decide +kernel)).2 (by decide)))
                  · exact Tl.sm_v 28 _ rfl (Tl.wanted_is rfl rfl (show Act.eval a' (.tmp 25) = .bool true from ((hF 25 (by decide +kernel)).1 (by decide)))) hC rfl (rn_ix22 rfl (show Act.eval a' (.tmp 26) = .slice (some ⟨g, o, none⟩) n c from ((hF 26 (by decide +kernel)).1 (by decide))) (show Act.eval a' (.tmp 27) = .int .i64 (k : Int) from ((hF 27 (by decide +kernel)).1 (by decide))) (by omega))
                  · exact Tl.sm_v 29 _ rfl (Tl.wanted_is rfl rfl (show Act.eval a' (.tmp 25) = .bool true from ((hF 25 (by decide +kernel)).1 (by decide)))) hC rfl (rn_fa38_0 rfl (show Act.eval a' (.tmp 28) = .pointer (some ⟨g, o + k * 3, none⟩) from ((hF 28 (by decide +kernel)).1 (by decide))))
                  · exact Tl.sm_v 30 _ rfl (Tl.wanted_is rfl rfl (show Act.eval a' (.tmp 25) = .bool true from ((hF 25 (by decide +kernel)).1 (by decide)))) hC rfl (rn_load9 rfl (show Act.eval a' (.tmp 29) = .pointer (some ⟨g, o + k * 3, none⟩) from ((hF 29 (by decide +kernel)).1 (by decide))) ((hC.cell (p := ⟨g, o + k * 3, none⟩) HLG.out).trans c0))
                  · exact Tl.sm_v 31 _ rfl (Tl.wanted_is rfl rfl (show Act.eval a' (.tmp 25) = .bool true from ((hF 25 (by decide +kernel)).1 (by decide)))) hC rfl (rn_move rfl ((hF 0 (by decide +kernel)).2 (by decide)))
                  · exact Tl.sm_v 32 _ rfl (Tl.wanted_is rfl rfl (show Act.eval a' (.tmp 25) = .bool true from ((hF 25 (by decide +kernel)).1 (by decide)))) hC rfl (rn_move rfl ((hF 3 (by decide +kernel)).2 (by decide)))
                  · exact Tl.sm_v 33 _ rfl (Tl.wanted_is rfl rfl (show Act.eval a' (.tmp 25) = .bool true from ((hF 25 (by decide +kernel)).1 (by decide)))) hC rfl (rn_sub3 rfl (show Act.eval a' (.tmp 32) = .int .i64 (k : Int) from ((hF 32 (by decide +kernel)).1 (by decide))) rfl wn)
                  · exact Tl.sm_v 34 _ rfl (Tl.wanted_is rfl rfl (show Act.eval a' (.tmp 25) = .bool true from ((hF 25 (by decide +kernel)).1 (by decide)))) hC rfl (rn_ix22 rfl (show Act.eval a' (.tmp 31) = .slice (some ⟨g, o, none⟩) n c from ((hF 31 (by decide +kernel)).1 (by decide))) (show Act.eval a' (.tmp 33) = .int .i64 ((k - 1 : Nat) : Int) from ((hF 33 (by decide +kernel)).1 (by decide))) (by omega))
                  · exact Tl.sm_v 35 _ rfl (Tl.wanted_is rfl rfl (show Act.eval a' (.tmp 25) = .bool true from ((hF 25 (by decide +kernel)).1 (by decide)))) hC rfl (rn_fa38_0 rfl (show Act.eval a' (.tmp 34) = .pointer (some ⟨g, o + (k - 1) * 3, none⟩) from ((hF 34 (by decide +kernel)).1 (by decide))))
                  · exact Tl.sm_v 36 _ rfl (Tl.wanted_is rfl rfl (show Act.eval a' (.tmp 25) = .bool true from ((hF 25 (by decide +kernel)).1 (by decide)))) hC rfl (rn_load9 rfl (show Act.eval a' (.tmp 35) = .pointer (some ⟨g, o + (k - 1) * 3, none⟩) from ((hF 35 (by decide +kernel)).1 (by decide))) ((hC.cell (p := ⟨g, o + (k - 1) * 3, none⟩) HLG.out).trans d0))
                  · exact Tl.sm_v 37 _ rfl (Tl.wanted_is rfl rfl (show Act.eval a' (.tmp 25) = .bool true from ((hF 25 (by decide +kernel)).1 (by decide)))) hC rfl (rn_leq9 rfl (show Act.eval a' (.tmp 30) = .string x0 from ((hF 30 (by decide +kernel)).1 (by decide))) (show Act.eval a' (.tmp 36) = .string p0 from ((hF 36 (by decide +kernel)).1 (by decide))) hge)
                  · exact Tl.sm_v 38 _ rfl (Tl.wanted_is rfl rfl (show Act.eval a' (.tmp 22) = .bool false from ((hF 22 (by decide +kernel)).1 (by decide)))) hC rfl (rn_pickT rfl (show Act.eval a' (.tmp 25) = .bool true from ((hF 25 (by decide +kernel)).1 (by decide))) (show Act.eval a' (.tmp 37) = .bool false from ((hF 37 (by decide +kernel)).1 (by decide))))
                  · exact Tl.sm_v 39 _ rfl (Tl.wanted_none rfl) hC rfl (rn_pickF rfl (show Act.eval a' (.tmp 22) = .bool false from ((hF 22 (by decide +kernel)).1 (by decide))) (show Act.eval a' (.tmp 38) = .bool false from ((hF 38 (by decide +kernel)).1 (by decide))))
                  · exact Tl.sm_v 40 _ rfl (Tl.wanted_none rfl) hC rfl (rn_move rfl (show Act.eval a' (.tmp 39) = .bool false from ((hF 39 (by decide +kernel)).1 (by decide))))
                  · exact Tl.sm_v 41 _ rfl (Tl.wanted_is rfl rfl (show Act.eval a' (.tmp 40) = .bool false from ((hF 40 (by decide +kernel)).1 (by decide)))) hC rfl (rn_move rfl ((hF 0 (by decide +kernel)).2 (by decide)))
                  · exact Tl.sm_v 42 _ rfl (Tl.wanted_is rfl rfl (show Act.eval a' (.tmp 40) = .bool false from ((hF 40 (by decide +kernel)).1 (by decide)))) hC rfl (rn_move rfl ((hF 3 (by decide +kernel)).2 (by decide)))
                  · exact Tl.sm_v 43 _ rfl (Tl.wanted_is rfl rfl (show Act.eval a' (.tmp 40) = .bool false from ((hF 40 (by decide +kernel)).1 (by decide)))) hC rfl (rn_ix22 rfl (show Act.eval a' (.tmp 41) = .slice (some ⟨g, o, none⟩) n c from ((hF 41 (by decide +kernel)).1 (by decide))) (show Act.eval a' (.tmp 42) = .int .i64 (k : Int) from ((hF 42 (by decide +kernel)).1 (by decide))) (by omega))
                  · exact Tl.sm_v 44 _ rfl (Tl.wanted_is rfl rfl (show Act.eval a' (.tmp 40) = .bool false from ((hF 40 (by decide +kernel)).1 (by decide)))) hC rfl (rn_fa38_2 rfl (show Act.eval a' (.tmp 43) = .pointer (some ⟨g, o + k * 3, none⟩) from ((hF 43 (by decide +kernel)).1 (by decide))))
                  · exact Tl.sm_v 45 _ rfl (Tl.wanted_is rfl rfl (show Act.eval a' (.tmp 40) = .bool false from ((hF 40 (by decide +kernel)).1 (by decide)))) hC rfl (rn_load9 rfl (show Act.eval a' (.tmp 44) = .pointer (some ⟨g, o + k * 3 + 2, none⟩) from ((hF 44 (by decide +kernel)).1 (by decide))) ((hC.cell (p := ⟨g, o + k * 3 + 2, none⟩) HLG.out).trans c2))
                  · exact Tl.sm_v 46 _ rfl (Tl.wanted_is rfl rfl (show Act.eval a' (.tmp 40) = .bool false from ((hF 40 (by decide +kernel)).1 (by decide)))) hC rfl (rn_len9 rfl (show Act.eval a' (.tmp 45) = .string x2 from ((hF 45 (by decide +kernel)).1 (by decide))) )
                  · exact Tl.sm_v 47 _ rfl (Tl.wanted_is rfl rfl (show Act.eval a' (.tmp 40) = .bool false from ((hF 40 (by decide +kernel)).1 (by decide)))) hC rfl (rn_gtr3 rfl (show Act.eval a' (.tmp 46) = .int .i64 (x2.size : Int) from ((hF 46 (by decide +kernel)).1 (by decide))) rfl hbig)
                  · exact Tl.sm_v 48 _ rfl (Tl.wanted_none rfl) hC rfl (rn_pickF rfl (show Act.eval a' (.tmp 40) = .bool false from ((hF 40 (by decide +kernel)).1 (by decide))) (show Act.eval a' (.tmp 47) = .bool false from ((hF 47 (by decide +kernel)).1 (by decide))))
                  · exact Tl.sm_v 49 _ rfl (Tl.wanted_none rfl) hC rfl (rn_move rfl (show Act.eval a' (.tmp 48) = .bool false from ((hF 48 (by decide +kernel)).1 (by decide))))
                  · exact Tl.sm_v 50 _ rfl (Tl.wanted_is rfl rfl (show Act.eval a' (.tmp 49) = .bool false from ((hF 49 (by decide +kernel)).1 (by decide)))) hC rfl (rn_move rfl ((hF 0 (by decide +kernel)).2 (by decide)))
                  · exact Tl.sm_v 51 _ rfl (Tl.wanted_is rfl rfl (show Act.eval a' (.tmp 49) = .bool false from ((hF 49 (by decide +kernel)).1 (by decide)))) hC rfl (rn_move rfl ((hF 3 (by decide +kernel)).2 (by decide)))
                  · exact Tl.sm_v 52 _ rfl (Tl.wanted_is rfl rfl (show Act.eval a' (.tmp 49) = .bool false from ((hF 49 (by decide +kernel)).1 (by decide)))) hC rfl (rn_ix22 rfl (show Act.eval a' (.tmp 50) = .slice (some ⟨g, o, none⟩) n c from ((hF 50 (by decide +kernel)).1 (by decide))) (show Act.eval a' (.tmp 51) = .int .i64 (k : Int) from ((hF 51 (by decide +kernel)).1 (by decide))) (by omega))
                  · exact Tl.sm_v 53 _ rfl (Tl.wanted_is rfl rfl (show Act.eval a' (.tmp 49) = .bool false from ((hF 49 (by decide +kernel)).1 (by decide)))) hC rfl (rn_fa38_1 rfl (show Act.eval a' (.tmp 52) = .pointer (some ⟨g, o + k * 3, none⟩) from ((hF 52 (by decide +kernel)).1 (by decide))))
                  · exact Tl.sm_v 54 _ rfl (Tl.wanted_is rfl rfl (show Act.eval a' (.tmp 49) = .bool false from ((hF 49 (by decide +kernel)).1 (by decide)))) hC rfl (rn_load4 rfl (show Act.eval a' (.tmp 53) = .pointer (some ⟨g, o + k * 3 + 1, none⟩) from ((hF 53 (by decide +kernel)).1 (by decide))) ((hC.cell (p := ⟨g, o + k * 3 + 1, none⟩) HLG.out).trans c1))
                  · exact Tl.sm_v 55 _ rfl (Tl.wanted_is rfl rfl (show Act.eval a' (.tmp 49) = .bool false from ((hF 49 (by decide +kernel)).1 (by decide)))) hC rfl (rn_move rfl (show Act.eval a' (.tmp 54) = .bool true from ((hF 54 (by decide +kernel)).1 (by decide))))
                  · exact Tl.sm_v 56 _ rfl (Tl.wanted_is rfl rfl (show Act.eval a' (.tmp 55) = .bool true from ((hF 55 (by decide +kernel)).1 (by decide)))) hC rfl (rn_move rfl ((hF 0 (by decide +kernel)).2 (by decide)))
                  · exact Tl.sm_v 57 _ rfl (Tl.wanted_is rfl rfl (show Act.eval a' (.tmp 55) = .bool true from ((hF 55 (by decide +kernel)).1 (by decide)))) hC rfl (rn_move rfl ((hF 3 (by decide +kernel)).2 (by decide)))
                  · exact Tl.sm_v 58 _ rfl (Tl.wanted_is rfl rfl (show Act.eval a' (.tmp 55) = .bool true from ((hF 55 (by decide +kernel)).1 (by decide)))) hC rfl (rn_ix22 rfl (show Act.eval a' (.tmp 56) = .slice (some ⟨g, o, none⟩) n c from ((hF 56 (by decide +kernel)).1 (by decide))) (show Act.eval a' (.tmp 57) = .int .i64 (k : Int) from ((hF 57 (by decide +kernel)).1 (by decide))) (by omega))
                  · exact Tl.sm_v 59 _ rfl (Tl.wanted_is rfl rfl (show Act.eval a' (.tmp 55) = .bool true from ((hF 55 (by decide +kernel)).1 (by decide)))) hC rfl (rn_fa38_2 rfl (show Act.eval a' (.tmp 58) = .pointer (some ⟨g, o + k * 3, none⟩) from ((hF 58 (by decide +kernel)).1 (by decide))))
                  · exact Tl.sm_v 60 _ rfl (Tl.wanted_is rfl rfl (show Act.eval a' (.tmp 55) = .bool true from ((hF 55 (by decide +kernel)).1 (by decide)))) hC rfl (rn_load9 rfl (show Act.eval a' (.tmp 59) = .pointer (some ⟨g, o + k * 3 + 2, none⟩) from ((hF 59 (by decide +kernel)).1 (by decide))) ((hC.cell (p := ⟨g, o + k * 3 + 2, none⟩) HLG.out).trans c2))
                  · exact Tl.sm_v 61 _ rfl (Tl.wanted_is rfl rfl (show Act.eval a' (.tmp 55) = .bool true from ((hF 55 (by decide +kernel)).1 (by decide)))) hC rfl (rn_neq9 rfl (show Act.eval a' (.tmp 60) = .string x2 from ((hF 60 (by decide +kernel)).1 (by decide))) rfl hne)
                  · exact Tl.sm_v 62 _ rfl (Tl.wanted_is rfl rfl (show Act.eval a' (.tmp 49) = .bool false from ((hF 49 (by decide +kernel)).1 (by decide)))) hC rfl (rn_pickT rfl (show Act.eval a' (.tmp 55) = .bool true from ((hF 55 (by decide +kernel)).1 (by decide))) (show Act.eval a' (.tmp 61) = .bool true from ((hF 61 (by decide +kernel)).1 (by decide))))
                  · exact Tl.sm_v 63 _ rfl (Tl.wanted_none rfl) hC rfl (rn_pickF rfl (show Act.eval a' (.tmp 49) = .bool false from ((hF 49 (by decide +kernel)).1 (by decide))) (show Act.eval a' (.tmp 62) = .bool true from ((hF 62 (by decide +kernel)).1 (by decide))))
                  intro v' w9 hC hv
                  have e63 : v' 63 = .bool true := hv 63 (by decide)
                  clear hv
                  have HB9 := hid (HB.out.trans (hC.mono HB.out.size))
                  clear hC d0 c0 c1 c2
                  simp only [Tl.fill, List.drop]
                  simp only [Act.put, List.setIfInBounds_toArray, List.set_cons_succ, List.set_cons_zero, e63]
                  subst hrf
                  go_wp2_with fail
                  go_ret
                  exact ⟨rfl, HB9.out⟩
              | false =>
                have HOKL : Hid (∀ b : Bool, (mayB x0 && ((decide (k = 0) || lt p0 x0) && (holdB ⟨x0, false, x2⟩ && b))) = b) := hid (fun b => by
                  have hh : holdB ⟨x0, false, x2⟩ = true := decide_eq_true (by show x2.size ≤ 16384; omega)
                  rw [hm, hrise, hh]; rfl)
                clear hm hrise
                go_wp2_with fail
                refine Tl.wp_mix_lit (by kernel_rfl) 49 [15, 16, 17, 18, 19, 20, 21, 22, 23, 24, 25, 26, 27, 28, 29, 30, 31, 32, 33, 34, 35, 36, 37, 38, 39, 40, 41, 42, 43, 44, 45, 46, 47, 48, 49, 50, 51, 52, 53, 54, 55, 56, 57, 58, 59, 60, 61, 62, 63] 80 rfl (by kernel_rfl) (Below wr.heap.size wr) (tqF6b x0 p0 x2 k g o n c) ((Below.refl _ _).drew)
                  ⟨fun a' W' hC hF => ?_, fun a' W' hC hF => ?_, fun a' W' hC hF => ?_, fun a' W' hC hF => ?_, fun a' W' hC hF => ?_, fun a' W' hC hF => ?_, fun a' W' hC hF => ?_, fun a' W' hC hF => ?_, fun a' W' hC hF => ?_, fun a' W' hC hF => ?_, fun a' W' hC hF => ?_, fun a' W' hC hF => ?_, fun a' W' hC hF => ?_, fun a' W' hC hF => ?_, fun a' W' hC hF => ?_, fun a' W' hC hF => ?_, fun a' W' hC hF => ?_, fun a' W' hC hF => ?_, fun a' W' hC hF => ?_, fun a' W' hC hF => ?_, fun a' W' hC hF => ?_, fun a' W' hC hF => ?_, fun a' W' hC hF => ?_, fun a' W' hC hF => ?_, fun a' W' hC hF => ?_, fun a' W' hC hF => ?_, fun a' W' hC hF => ?_, fun a' W' hC hF => ?_, fun a' W' hC hF => ?_, fun a' W' hC hF => ?_, fun a' W' hC hF => ?_, fun a' W' hC hF => ?_, fun a' W' hC hF => ?_, fun a' W' hC hF => ?_, fun a' W' hC hF => ?_, fun a' W' hC hF => ?_, fun a' W' hC hF => ?_, fun a' W' hC hF => ?_, fun a' W' hC hF => ?_, fun a' W' hC hF => ?_, fun a' W' hC hF => ?_, fun a' W' hC hF => ?_, fun a' W' hC hF => ?_, fun a' W' hC hF => ?_, fun a' W' hC hF => ?_, fun a' W' hC hF => ?_, fun a' W' hC hF => ?_, fun a' W' hC hF => ?_, fun a' W' hC hF => ?_, trivial⟩ ?_
                · exact Tl.sm_v 15 _ rfl (Tl.wanted_none rfl) hC rfl (rn_move rfl ((hF 0 (by decide +kernel)).2 (by decide)))
                · exact Tl.sm_v 16 _ rfl (Tl.wanted_none rfl) hC rfl (rn_move rfl ((hF 3 (by decide +kernel)).2 (by decide)))
                · exact Tl.sm_v 17 _ rfl (Tl.wanted_none rfl) hC rfl (rn_ix22 rfl (show Act.eval a' (.tmp 15) = .slice (some ⟨g, o, none⟩) n c from ((hF 15 (by decide +kernel)).1 (by decide))) (show Act.eval a' (.tmp 16) = .int .i64 (k : Int) from ((hF 16 (by decide +kernel)).1 (by decide))) (by omega))
                · exact Tl.sm_v 18 _ rfl (Tl.wanted_none rfl) hC rfl (rn_fa38_0 rfl (show Act.eval a' (.tmp 17) = .pointer (some ⟨g, o + k * 3, none⟩) from ((hF 17 (by decide +kernel)).1 (by decide))))
                · exact Tl.sm_v 19 _ rfl (Tl.wanted_none rfl) hC rfl (rn_load9 rfl (show Act.eval a' (.tmp 18) = .pointer (some ⟨g, o + k * 3, none⟩) from ((hF 18 (by decide +kernel)).1 (by decide))) ((hC.cell (p := ⟨g, o + k * 3, none⟩) HLG.out).trans c0))
                · refine Tl.sm_call 15 #[_] (Tl.wanted_none rfl) (rn_call1 rfl rfl (show Act.eval a' (.tmp 19) = .string x0 from ((hF 19 (by decide +kernel)).1 (by decide))) (en15 _ _)) ((CM.out W').mono ?_)
                  rintro e W'' ⟨rfl, hb⟩
                  exact ⟨_, rfl, hC.trans (hb.mono hC.size), fun d v _ h => h, fun d hd => by cases hd; rfl⟩
                · exact Tl.sm_v 21 _ rfl (Tl.wanted_none rfl) hC rfl (rn_not rfl (show Act.eval a' (.tmp 20) = .bool true from ((hF 20 (by decide +kernel)).1 (by decide))) rfl)
                · exact Tl.sm_v 22 _ rfl (Tl.wanted_none rfl) hC rfl (rn_move rfl (show Act.eval a' (.tmp 21) = .bool false from ((hF 21 (by decide +kernel)).1 (by decide))))
                · exact Tl.sm_v 23 _ rfl (Tl.wanted_is rfl rfl (show Act.eval a' (.tmp 22) = .bool false from ((hF 22 (by decide +kernel)).1 (by decide)))) hC rfl (rn_move rfl ((hF 3 (by decide +kernel)).2 (by decide)))
                · exact Tl.sm_v 24 _ rfl (Tl.wanted_is rfl rfl (show Act.eval a' (.tmp 22) = .bool false from ((hF 22 (by decide +kernel)).1 (by decide)))) hC rfl (rn_gtr3 rfl (show Act.eval a' (.tmp 23) = .int .i64 (k : Int) from ((hF 23 (by decide +kernel)).1 (by decide))) rfl (by have := HK0.out; simp; omega))
                · exact Tl.sm_v 25 _ rfl (Tl.wanted_is rfl rfl (show Act.eval a' (.tmp 22) = .bool false from ((hF 22 (by decide +kernel)).1 (by decide)))) hC rfl (rn_move rfl (show Act.eval a' (.tmp 24) = .bool true from ((hF 24 (by decide +kernel)).1 (by decide))))
                · exact Tl.sm_v 26 _ rfl (Tl.wanted_is rfl rfl (show Act.eval a' (.tmp 25) = .bool true from ((hF 25 (by decide +kernel)).1 (by decide)))) hC rfl (rn_move rfl ((hF 0 (by decide +kernel)).2 (by decide)))
                · exact Tl.sm_v 27 _ rfl (Tl.wanted_is rfl rfl (show Act.eval a' (.tmp 25) = .bool true from ((hF 25 (by decide +kernel)).1 (by decide)))) hC rfl (rn_move rfl ((hF 3 (by decide +kernel)).2 (by decide)))
                · exact Tl.sm_v 28 _ rfl (Tl.wanted_is rfl rfl (show Act.eval a' (.tmp 25) = .bool true from ((hF 25 (by decide +kernel)).1 (by decide)))) hC rfl (rn_ix22 rfl (show Act.eval a' (.tmp 26) = .slice (some ⟨g, o, none⟩) n c from ((hF 26 (by decide +kernel)).1 (by decide))) (show Act.eval a' (.tmp 27) = .int .i64 (k : Int) from ((hF 27 (by decide +kernel)).1 (by decide))) (by omega))
                · exact Tl.sm_v 29 _ rfl (Tl.wanted_is rfl rfl (show Act.eval a' (.tmp 25) = .bool true from ((hF 25 (by decide +kernel)).1 (by decide)))) hC rfl (rn_fa38_0 rfl (show Act.eval a' (.tmp 28) = .pointer (some ⟨g, o + k * 3, none⟩) from ((hF 28 (by decide +kernel)).1 (by decide))))
                · exact Tl.sm_v 30 _ rfl (Tl.wanted_is rfl rfl (show Act.eval a' (.tmp 25) = .bool true from ((hF 25 (by decide +kernel)).1 (by decide)))) hC rfl (rn_load9 rfl (show Act.eval a' (.tmp 29) = .pointer (some ⟨g, o + k * 3, none⟩) from ((hF 29 (by decide +kernel)).1 (by decide))) ((hC.cell (p := ⟨g, o + k * 3, none⟩) HLG.out).trans c0))
                · exact Tl.sm_v 31 _ rfl (Tl.wanted_is rfl rfl (show Act.eval a' (.tmp 25) = .bool true from ((hF 25 (by decide +kernel)).1 (by decide)))) hC rfl (rn_move rfl ((hF 0 (by decide +kernel)).2 (by decide)))
                · exact Tl.sm_v 32 _ rfl (Tl.wanted_is rfl rfl (show Act.eval a' (.tmp 25) = .bool true from ((hF 25 (by decide +kernel)).1 (by decide)))) hC rfl (rn_move rfl ((hF 3 (by decide +kernel)).2 (by decide)))
                · exact Tl.sm_v 33 _ rfl (Tl.wanted_is rfl rfl (show Act.eval a' (.tmp 25) = .bool true from ((hF 25 (by decide +kernel)).1 (by decide)))) hC rfl (rn_sub3 rfl (show Act.eval a' (.tmp 32) = .int .i64 (k : Int) from ((hF 32 (by decide +kernel)).1 (by decide))) rfl wn)
                · exact Tl.sm_v 34 _ rfl (Tl.wanted_is rfl rfl (show Act.eval a' (.tmp 25) = .bool true from ((hF 25 (by decide +kernel)).1 (by decide)))) hC rfl (rn_ix22 rfl (show Act.eval a' (.tmp 31) = .slice (some ⟨g, o, none⟩) n c from ((hF 31 (by decide +kernel)).1 (by decide))) (show Act.eval a' (.tmp 33) = .int .i64 ((k - 1 : Nat) : Int) from ((hF 33 (by decide +kernel)).1 (by decide))) (by omega))
                · exact Tl.sm_v 35 _ rfl (Tl.wanted_is rfl rfl (show Act.eval a' (.tmp 25) = .bool true from ((hF 25 (by decide +kernel)).1 (by decide)))) hC rfl (rn_fa38_0 rfl (show Act.eval a' (.tmp 34) = .pointer (some ⟨g, o + (k - 1) * 3, none⟩) from ((hF 34 (by decide +kernel)).1 (by decide))))
                · exact Tl.sm_v 36 _ rfl (Tl.wanted_is rfl rfl (show Act.eval a' (.tmp 25) = .bool true from ((hF 25 (by decide +kernel)).1 (by decide)))) hC rfl (rn_load9 rfl (show Act.eval a' (.tmp 35) = .pointer (some ⟨g, o + (k - 1) * 3, none⟩) from ((hF 35 (by decide +kernel)).1 (by decide))) ((hC.cell (p := ⟨g, o + (k - 1) * 3, none⟩) HLG.out).trans d0))
                · exact Tl.sm_v 37 _ rfl (Tl.wanted_is rfl rfl (show Act.eval a' (.tmp 25) = .bool true from ((hF 25 (by decide +kernel)).1 (by decide)))) hC rfl (rn_leq9 rfl (show Act.eval a' (.tmp 30) = .string x0 from ((hF 30 (by decide +kernel)).1 (by decide))) (show Act.eval a' (.tmp 36) = .string p0 from ((hF 36 (by decide +kernel)).1 (by decide))) hge)
                · exact Tl.sm_v 38 _ rfl (Tl.wanted_is rfl rfl (show Act.eval a' (.tmp 22) = .bool false from ((hF 22 (by decide +kernel)).1 (by decide)))) hC rfl (rn_pickT rfl (show Act.eval a' (.tmp 25) = .bool true from ((hF 25 (by decide +kernel)).1 (by decide))) (show Act.eval a' (.tmp 37) = .bool false from ((hF 37 (by decide +kernel)).1 (by decide))))
                · exact Tl.sm_v 39 _ rfl (Tl.wanted_none rfl) hC rfl (rn_pickF rfl (show Act.eval a' (.tmp 22) = .bool false from ((hF 22 (by decide +kernel)).1 (by decide))) (show Act.eval a' (.tmp 38) = .bool false from ((hF 38 (by decide +kernel)).1 (by decide))))
                · exact Tl.sm_v 40 _ rfl (Tl.wanted_none rfl) hC rfl (rn_move rfl (show Act.eval a' (.tmp 39) = .bool false from ((hF 39 (by decide +kernel)).1 (by decide))))
                · exact Tl.sm_v 41 _ rfl (Tl.wanted_is rfl rfl (show Act.eval a' (.tmp 40) = .bool false from ((hF 40 (by decide +kernel)).1 (by decide)))) hC rfl (rn_move rfl ((hF 0 (by decide +kernel)).2 (by decide)))
                · exact Tl.sm_v 42 _ rfl (Tl.wanted_is rfl rfl (show Act.eval a' (.tmp 40) = .bool false from ((hF 40 (by decide +kernel)).1 (by decide)))) hC rfl (rn_move rfl ((hF 3 (by decide +kernel)).2 (by decide)))
                · exact Tl.sm_v 43 _ rfl (Tl.wanted_is rfl rfl (show Act.eval a' (.tmp 40) = .bool false from ((hF 40 (by decide +kernel)).1 (by decide)))) hC rfl (rn_ix22 rfl (show Act.eval a' (.tmp 41) = .slice (some ⟨g, o, none⟩) n c from ((hF 41 (by decide +kernel)).1 (by decide))) (show Act.eval a' (.tmp 42) = .int .i64 (k : Int) from ((hF 42 (by decide +kernel)).1 (by decide))) (by omega))
                · exact Tl.sm_v 44 _ rfl (Tl.wanted_is rfl rfl (show Act.eval a' (.tmp 40) = .bool false from ((hF 40 (by decide +kernel)).1 (by decide)))) hC rfl (rn_fa38_2 rfl (show Act.eval a' (.tmp 43) = .pointer (some ⟨g, o + k * 3, none⟩) from ((hF 43 (by decide +kernel)).1 (by decide))))
                · exact Tl.sm_v 45 _ rfl (Tl.wanted_is rfl rfl (show Act.eval a' (.tmp 40) = .bool false from ((hF 40 (by decide +kernel)).1 (by decide)))) hC rfl (rn_load9 rfl (show Act.eval a' (.tmp 44) = .pointer (some ⟨g, o + k * 3 + 2, none⟩) from ((hF 44 (by decide +kernel)).1 (by decide))) ((hC.cell (p := ⟨g, o + k * 3 + 2, none⟩) HLG.out).trans c2))
                · exact Tl.sm_v 46 _ rfl (Tl.wanted_is rfl rfl (show Act.eval a' (.tmp 40) = .bool false from ((hF 40 (by decide +kernel)).1 (by decide)))) hC rfl (rn_len9 rfl (show Act.eval a' (.tmp 45) = .string x2 from ((hF 45 (by decide +kernel)).1 (by decide))) )
                · exact Tl.sm_v 47 _ rfl (Tl.wanted_is rfl rfl (show Act.eval a' (.tmp 40) = .bool false from ((hF 40 (by decide +kernel)).1 (by decide)))) hC rfl (rn_gtr3 rfl (show Act.eval a' (.tmp 46) = .int .i64 (x2.size : Int) from ((hF 46 (by decide +kernel)).1 (by decide))) rfl hbig)
                · exact Tl.sm_v 48 _ rfl (Tl.wanted_none rfl) hC rfl (rn_pickF rfl (show Act.eval a' (.tmp 40) = .bool false from ((hF 40 (by decide +kernel)).1 (by decide))) (show Act.eval a' (.tmp 47) = .bool false from ((hF 47 (by decide +kernel)).1 (by decide))))
                · exact Tl.sm_v 49 _ rfl (Tl.wanted_none rfl) hC rfl (rn_move rfl (show Act.eval a' (.tmp 48) = .bool false from ((hF 48 (by decide +kernel)).1 (by decide))))
                · exact Tl.sm_v 50 _ rfl (Tl.wanted_is rfl rfl (show Act.eval a' (.tmp 49) = .bool false from ((hF 49 (by decide +kernel)).1 (by decide)))) hC rfl (rn_move rfl ((hF 0 (by decide +kernel)).2 (by decide)))
                · exact Tl.sm_v 51 _ rfl (Tl.wanted_is rfl rfl (show Act.eval a' (.tmp 49) = .bool false from ((hF 49 (by decide +kernel)).1 (by decide)))) hC rfl (rn_move rfl ((hF 3 (by decide +kernel)).2 (by decide)))
                · exact Tl.sm_v 52 _ rfl (Tl.wanted_is rfl rfl (show Act.eval a' (.tmp 49) = .bool false from ((hF 49 (by decide +kernel)).1 (by decide)))) hC rfl (rn_ix22 rfl (show Act.eval a' (.tmp 50) = .slice (some ⟨g, o, none⟩) n c from ((hF 50 (by decide +kernel)).1 (by decide))) (show Act.eval a' (.tmp 51) = .int .i64 (k : Int) from ((hF 51 (by decide +kernel)).1 (by decide))) (by omega))
                · exact Tl.sm_v 53 _ rfl (Tl.wanted_is rfl rfl (show Act.eval a' (.tmp 49) = .bool false from ((hF 49 (by decide +kernel)).1 (by decide)))) hC rfl (rn_fa38_1 rfl (show Act.eval a' (.tmp 52) = .pointer (some ⟨g, o + k * 3, none⟩) from ((hF 52 (by decide +kernel)).1 (by decide))))
                · exact Tl.sm_v 54 _ rfl (Tl.wanted_is rfl rfl (show Act.eval a' (.tmp 49) = .bool false from ((hF 49 (by decide +kernel)).1 (by decide)))) hC rfl (rn_load4 rfl (show Act.eval a' (.tmp 53) = .pointer (some ⟨g, o + k * 3 + 1, none⟩) from ((hF 53 (by decide +kernel)).1 (by decide))) ((hC.cell (p := ⟨g, o + k * 3 + 1, none⟩) HLG.out).trans c1))
                · exact Tl.sm_v 55 _ rfl (Tl.wanted_is rfl rfl (show Act.eval a' (.tmp 49) = .bool false from ((hF 49 (by decide +kernel)).1 (by decide)))) hC rfl (rn_move rfl (show Act.eval a' (.tmp 54) = .bool false from ((hF 54 (by decide +kernel)).1 (by decide))))
                · exact Tl.sm_skip (Tl.wanted_not rfl rfl (show Act.eval a' (.tmp 55) = .bool false from ((hF 55 (by decide +kernel)).1 (by decide)))) (fun d hd => by cases hd; rfl)
                · exact Tl.sm_skip (Tl.wanted_not rfl rfl (show Act.eval a' (.tmp 55) = .bool false from ((hF 55 (by decide +kernel)).1 (by decide)))) (fun d hd => by cases hd; rfl)
                · exact Tl.sm_skip (Tl.wanted_not rfl rfl (show Act.eval a' (.tmp 55) = .bool false from ((hF 55 (by decide +kernel)).1 (by decide)))) (fun d hd => by cases hd; rfl)
                · exact Tl.sm_skip (Tl.wanted_not rfl rfl (show Act.eval a' (.tmp 55) = .bool false from ((hF 55 (by decide +kernel)).1 (by decide)))) (fun d hd => by cases hd; rfl)
                · exact Tl.sm_skip (Tl.wanted_not rfl rfl (show Act.eval a' (.tmp 55) = .bool false from ((hF 55 (by decide +kernel)).1 (by decide)))) (fun d hd => by cases hd; rfl)
                · exact Tl.sm_skip (Tl.wanted_not rfl rfl (show Act.eval a' (.tmp 55) = .bool false from ((hF 55 (by decide +kernel)).1 (by decide)))) (fun d hd => by cases hd; rfl)
                · exact Tl.sm_v 62 _ rfl (Tl.wanted_is rfl rfl (show Act.eval a' (.tmp 49) = .bool false from ((hF 49 (by decide +kernel)).1 (by decide)))) hC rfl (rn_pickF rfl (show Act.eval a' (.tmp 55) = .bool false from ((hF 55 (by decide +kernel)).1 (by decide))) rfl)
                · exact Tl.sm_v 63 _ rfl (Tl.wanted_none rfl) hC rfl (rn_pickF rfl (show Act.eval a' (.tmp 49) = .bool false from ((hF 49 (by decide +kernel)).1 (by decide))) (show Act.eval a' (.tmp 62) = .bool false from ((hF 62 (by decide +kernel)).1 (by decide))))
                intro v' w9 hC hv
                have e63 : v' 63 = .bool false := hv 63 (by decide)
                clear hv
                have HB9 := hid (HB.out.trans (hC.mono HB.out.size))
                have z0 := (hC.cell (p := ⟨g, o + k * 3, none⟩) HLG.out).trans c0
                clear hC d0 c0 c1 c2
                have CD9 := CD.out _ HB9.out
                generalize dirB l (abU x0) = bd at *
                generalize abU x0 = u at *
                simp only [Tl.fill, List.drop]
                simp only [Act.put, List.setIfInBounds_toArray, List.set_cons_succ, List.set_cons_zero, e63]
                generalize v' 15 = y15 at *
                generalize v' 16 = y16 at *
                generalize v' 17 = y17 at *
                generalize v' 18 = y18 at *
                generalize v' 19 = y19 at *
                generalize v' 20 = y20 at *
                generalize v' 21 = y21 at *
                generalize v' 22 = y22 at *
                generalize v' 23 = y23 at *
                generalize v' 24 = y24 at *
                generalize v' 25 = y25 at *
                generalize v' 26 = y26 at *
                generalize v' 27 = y27 at *
                generalize v' 28 = y28 at *
                generalize v' 29 = y29 at *
                generalize v' 30 = y30 at *
                generalize v' 31 = y31 at *
                generalize v' 32 = y32 at *
                generalize v' 33 = y33 at *
                generalize v' 34 = y34 at *
                generalize v' 35 = y35 at *
                generalize v' 36 = y36 at *
                generalize v' 37 = y37 at *
                generalize v' 38 = y38 at *
                generalize v' 39 = y39 at *
                generalize v' 40 = y40 at *
                generalize v' 41 = y41 at *
                generalize v' 42 = y42 at *
                generalize v' 43 = y43 at *
                generalize v' 44 = y44 at *
                generalize v' 45 = y45 at *
                generalize v' 46 = y46 at *
                generalize v' 47 = y47 at *
                generalize v' 48 = y48 at *
                generalize v' 49 = y49 at *
                generalize v' 50 = y50 at *
                generalize v' 51 = y51 at *
                generalize v' 52 = y52 at *
                generalize v' 53 = y53 at *
                generalize v' 54 = y54 at *
                generalize v' 55 = y55 at *
                generalize v' 56 = y56 at *
                generalize v' 57 = y57 at *
                generalize v' 58 = y58 at *
                generalize v' 59 = y59 at *
                generalize v' 60 = y60 at *
                generalize v' 61 = y61 at *
                generalize v' 62 = y62 at *
                cases hab : abB x0 with
                | false =>
                  have HA2 : Hid ((List.range (k + 1)).all (okR l) = true) := hid (by rw [HAS.out, HA.out, HOK.out, HOKL.out, hab]; rfl)
                  rw [hab] at C3
                  clear hab CD9
                  go_wp2_with fail
                  refine (C3 _).mono ?_
                  rintro e wc ⟨rfl, hwc⟩
                  rw [hwc]
                  clear hwc
                  go_wp2_with fail
                  go_roundw
                  case rel => exact ⟨k + 1, by omega, by rfl, HA2, HB9⟩
                  case measure => first | (simp [intOf]; done) | (simp [intOf]; omega)
                | true =>
                  rw [hab] at C3
                  cases bd with
                  | true =>
                    have HA2 : Hid ((List.range (k + 1)).all (okR l) = true) := hid (by rw [HAS.out, HA.out, HOK.out, HOKL.out, hab]; rfl)
                    clear hab
                    go_wp2_with fail
                    refine (C3 _).mono ?_
                    rintro e wc ⟨rfl, hwc⟩
                    rw [hwc]
                    clear hwc
                    go_wp2_with fail
                    refine CD9.mono ?_
                    rintro e wd ⟨rfl, hbd⟩
                    have HBD := hid (HB9.out.trans (hbd.mono HB9.out.size))
                    clear hbd CD9
                    go_wp2_with fail
                    go_roundw
                    case rel => exact ⟨k + 1, by omega, by rfl, HA2, HBD⟩
                    case measure => first | (simp [intOf]; done) | (simp [intOf]; omega)
                  | false =>
                    have hrf : r = false := by rw [HR.out, HTP.out]; exact HAN.out (by rw [HOK.out, HOKL.out, hab]; rfl)
                    subst hrf
                    clear hab
                    go_wp2_with fail
                    refine (C3 _).mono ?_
                    rintro e wc ⟨rfl, hwc⟩
                    rw [hwc]
                    clear hwc
                    go_wp2_with fail
                    refine CD9.mono ?_
                    rintro e wd ⟨rfl, hbd⟩
                    have HBD := hid (HB9.out.trans (hbd.mono HB9.out.size))
                    clear hbd CD9
                    go_wp2_with fail
                    go_ret
                    exact ⟨rfl, HBD.out⟩
    · obtain rfl : n = k := by omega
      have j1 : ¬ ((n : Int) < (n : Int)) := by omega
      have hrt : r = true := by rw [HR.out, HTP.out]; exact HA.out
      subst hrt
      go_wp2_with fail
      go_ret
      exact ⟨rfl, HB.out⟩
end Go.Proofs.YtnhekngmgjnodaaDoor
