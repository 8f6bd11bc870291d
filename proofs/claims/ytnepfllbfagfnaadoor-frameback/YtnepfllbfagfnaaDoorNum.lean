/- The document's roots, over Nat: just what its words do. No program in it. -/
import Derived.Test.YtnepfllbfagfnaaDoorMath
namespace Go.Proofs.YtnepfllbfagfnaaDoor
namespace Ref
def dg (n : Nat) : List Nat := [n % 65536, n / 65536 % 65536, n / 65536 / 65536 % 65536, n / 65536 / 65536 / 65536]
/-- one digit's product, behind k steps -/
def inn (a : Nat) (b : List Nat) (i : Nat) (o : List Nat) : Nat → List Nat × Nat
  | 0 => (o, 0)
  | k + 1 => match inn a b i o k with
    | (p, c) => (p.set (i + k) (((p.getD (i + k) 0 + a * b.getD k 0 % 18446744073709551616) % 18446744073709551616 + c) % 18446744073709551616 % 65536), ((p.getD (i + k) 0 + a * b.getD k 0 % 18446744073709551616) % 18446744073709551616 + c) % 18446744073709551616 / 65536)
def outer (a b : List Nat) : Nat → List Nat
  | 0 => List.replicate (a.length + b.length) 0
  | i + 1 => match inn (a.getD i 0) b i (outer a b i) b.length with
    | (p, c) => p.set (i + b.length) ((p.getD (i + b.length) 0 + c) % 18446744073709551616)
def tms (a b : List Nat) : List Nat := outer a b a.length
def want (n nt i : Nat) : Nat := if nt ≤ i ∧ i < nt + 4 then (dg n).getD (i - nt) 0 else 0
def ab (a : List Nat) (n nt : Nat) : Nat → Bool
  | 0 => false
  | i + 1 => if a.getD i 0 = want n nt i then ab a n nt i else decide (want n nt i < a.getD i 0)
def addAt (k : Nat) : Nat := 68719476736 / 2 ^ k
def cubed (root : Nat) (d : List Nat) : List Nat := if root = 3 then tms (tms d d) d else tms d d
def nts (root : Nat) : Nat := if root = 3 then 6 else 4
def bit (n root x add : Nat) : Nat :=
  match cubed root (dg ((x + add) % 18446744073709551616)) with
  | q => if ab q n (nts root) q.length then x else (x + add) % 18446744073709551616
def bitsTo (n root : Nat) : Nat → Nat
  | 0 => 0
  | k + 1 => bit n root (bitsTo n root k) (addAt k)
def bitsOf (n root : Nat) : Nat := bitsTo n root 37 % 4294967296
def primes : List Nat := [2, 3, 5, 7, 11, 13, 17, 19, 23, 29, 31, 37, 41, 43, 47, 53, 59, 61, 67, 71, 73, 79, 83, 89, 97, 101, 103, 107, 109, 113, 127, 131, 137, 139, 149, 151, 157, 163, 167, 173, 179, 181, 191, 193, 197, 199, 211, 223, 227, 229, 233, 239, 241, 251, 257, 263, 269, 271, 277, 281, 283, 293, 307, 311]
/-- is n a prime: as the words look for it -/
def lp (n : Nat) : Nat → Nat → Bool → Bool
  | 0, _, is => is
  | f + 1, d, is => if d * d ≤ n ∧ is = true then lp n f (d + 1) (decide (n % d ≠ 0)) else is
def isP (n : Nat) : Bool := lp n 40 2 true
/-- how many primes are below n -/
def cnt (n : Nat) : Nat := (primes.filter (fun p => Nat.blt p n)).length
theorem inn_length (a : Nat) (b : List Nat) (i : Nat) (o : List Nat) (k : Nat) : (inn a b i o k).1.length = o.length := by
  induction k with
  | zero => rfl
  | succ k ih => simp only [inn, List.length_set, ih]
theorem outer_length (a b : List Nat) (i : Nat) : (outer a b i).length = a.length + b.length := by
  induction i with
  | zero => exact List.length_replicate
  | succ i ih => simp only [outer, List.length_set, inn_length, ih]
theorem tms_length (a b : List Nat) : (tms a b).length = a.length + b.length := outer_length a b _
theorem dg_length (n : Nat) : (dg n).length = 4 := rfl
set_option maxRecDepth 100000 in
theorem cnt_facts : ∀ n : Fin 312, (isP n.val = true → 2 ≤ n.val → primes.getD (cnt n.val) 0 = n.val ∧ cnt (n.val + 1) = cnt n.val + 1 ∧ cnt n.val < 64) ∧ (isP n.val = false → cnt (n.val + 1) = cnt n.val) := by decide +kernel
set_option maxRecDepth 100000 in
theorem cnt_low : ∀ n : Fin 312, cnt n.val < 64 := by decide +kernel
theorem cnt_end : cnt 312 = 64 := by decide +kernel
theorem cnt_two : cnt 2 = 0 := by decide +kernel
end Ref
end Go.Proofs.YtnepfllbfagfnaaDoor
