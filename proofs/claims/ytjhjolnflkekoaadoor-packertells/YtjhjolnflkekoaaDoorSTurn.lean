/- Rows of numbers as cells, and the numbers that a walk writes, brought to plain ones. No program in it. -/
import Derived.Test.YtjhjolnflkekoaaDoorSHeap
import Derived.Laws.BitsAllLaws
import Derived.Test.YtjhjolnflkekoaaDoorProg
import Derived.WalkKit
import Derived.WalkSpells
import Derived.WalkLawsBesides
namespace Go.Proofs.YtjhjolnflkekoaaDoor.S
open Go.RowKit
theorem ret_int {k : IntKind} {a b : Int} (h : a = b) : Ending.returned (.int k a) = .returned (.int k b) := by rw [h]
theorem wrap_i64_of {n : Int} (h1 : -9223372036854775808 ≤ n) (h2 : n ≤ 9223372036854775807) : IntKind.i64.wrap n = n := by
  simp [IntKind.wrap, IntKind.bits, IntKind.signed]; omega
def U8s (b : List Nat) : Array Value := (b.map fun x : Nat => Value.int .u8 (x : Int)).toArray
def U32s (b : List Nat) : Array Value := (b.map fun x : Nat => Value.int .u32 (x : Int)).toArray
theorem U8s_size (b : List Nat) : (U8s b).size = b.length := by simp [U8s]
theorem U32s_size (b : List Nat) : (U32s b).size = b.length := by simp [U32s]
theorem U8s_get (b : List Nat) (i : Nat) (h : i < b.length) : (U8s b)[i]? = some (.int .u8 ((b.getD i 0 : Nat) : Int)) := by
  simp [U8s, List.getD_eq_getElem?_getD, List.getElem?_eq_getElem h]
theorem U32s_get (b : List Nat) (i : Nat) (h : i < b.length) : (U32s b)[i]? = some (.int .u32 ((b.getD i 0 : Nat) : Int)) := by
  simp [U32s, List.getD_eq_getElem?_getD, List.getElem?_eq_getElem h]
def S8v (s : Sha.S8) : Array Value := #[.int .u32 (s.a : Int), .int .u32 (s.b : Int), .int .u32 (s.c : Int), .int .u32 (s.d : Int), .int .u32 (s.e : Int), .int .u32 (s.f : Int), .int .u32 (s.g : Int), .int .u32 (s.h : Int)]
/-- the tables hold what they are laid as -/
structure Tabs (w : World) : Prop where
  sq : HasC w 0 (S8v Sha.init)
  cu : HasC w 1 (U32s Sha.cube)
theorem getD_lt (l : List Nat) (m : Nat) (hm : 0 < m) (h : ∀ x ∈ l, x < m) (i : Nat) : l.getD i 0 < m := by
  rw [List.getD_eq_getElem?_getD]
  by_cases hj : i < l.length
  · rw [List.getElem?_eq_getElem hj]; exact h _ (List.getElem_mem hj)
  · rw [List.getElem?_eq_none (by omega)]; exact hm
/-- a list, filled up by noughts -/
def fillUp (l : List Nat) (n : Nat) : List Nat := l ++ List.replicate (n - l.length) 0
theorem fillUp_length (l : List Nat) (n : Nat) (h : l.length ≤ n) : (fillUp l n).length = n := by simp [fillUp]; omega
theorem fillUp_full (l : List Nat) (n : Nat) (h : l.length = n) : fillUp l n = l := by simp [fillUp, h]
theorem fillUp_get (l : List Nat) (n i : Nat) (h : i < l.length) : (fillUp l n).getD i 0 = l.getD i 0 := by
  simp [fillUp, List.getD_eq_getElem?_getD, List.getElem?_append_left h]
theorem fillUp_snoc (l : List Nat) (n x k : Nat) (hk : k = l.length) (h : l.length < n) : (U32s (fillUp l n)).setIfInBounds k (.int .u32 (x : Int)) = U32s (fillUp (l ++ [x]) n) := by
  subst hk
  have e : List.replicate (n - l.length) 0 = 0 :: List.replicate (n - (l ++ [x]).length) (0 : Nat) := by
    rw [← List.replicate_succ]; congr 1; simp; omega
  unfold U32s fillUp
  rw [e]
  apply Array.toList_inj.1
  simp
theorem cell_set_drew {w : World} {a q : Addr} {u v : Value} (h : w.cell? q = some v) (hne : a.block ≠ q.block) : (w.setCell a u).drew.cell? q = some v := by
  rw [World.cell?_drew, World.cell?_setCell_other (h := fun e => hne (by rw [e])), h]
theorem cell_set_off {w : World} {b i j : Nat} {u v : Value} (h : w.cell? ⟨b, j, none⟩ = some v) (hne : i ≠ j) : (w.setCell ⟨b, i, none⟩ u).drew.cell? ⟨b, j, none⟩ = some v := by
  rw [World.cell?_drew, World.cell?_setCell_other (h := fun e => hne (congrArg Addr.off e)), h]
theorem or4 (p q r s : Nat) (hp : p < 256) (hq : q < 256) (hr : r < 256) (hs : s < 256) :
    bits BinOp.or IntKind.u32 (bits BinOp.or IntKind.u32 (bits BinOp.or IntKind.u32 (IntKind.u32.wrap (IntKind.u32.wrap (p : Int) * 16777216)) (IntKind.u32.wrap (IntKind.u32.wrap (q : Int) * 65536))) (IntKind.u32.wrap (IntKind.u32.wrap (r : Int) * 256))) (IntKind.u32.wrap (s : Int))
      = ((p * 16777216 + q * 65536 + r * 256 + s : Nat) : Int) := by
  have e1 : IntKind.u32.wrap (IntKind.u32.wrap (p : Int) * 16777216) = ((p * 16777216 : Nat) : Int) := by
    rw [IntKind.wrap_u32', IntKind.wrap_u32']; omega
  have e2 : IntKind.u32.wrap (IntKind.u32.wrap (q : Int) * 65536) = ((q * 65536 : Nat) : Int) := by
    rw [IntKind.wrap_u32', IntKind.wrap_u32']; omega
  have e3 : IntKind.u32.wrap (IntKind.u32.wrap (r : Int) * 256) = ((r * 256 : Nat) : Int) := by
    rw [IntKind.wrap_u32', IntKind.wrap_u32']; omega
  have e4 : IntKind.u32.wrap (s : Int) = ((s : Nat) : Int) := by
    rw [IntKind.wrap_u32']; omega
  have j1 : p * 16777216 ||| q * 65536 = p * 16777216 + q * 65536 := nat_join 24 _ _ (by omega) (by omega)
  have j2 : (p * 16777216 + q * 65536) ||| r * 256 = p * 16777216 + q * 65536 + r * 256 := nat_join 16 _ _ (by omega) (by omega)
  have j3 : (p * 16777216 + q * 65536 + r * 256) ||| s = p * 16777216 + q * 65536 + r * 256 + s := nat_join 8 _ _ (by omega) (by omega)
  rw [e1, e2, e3, e4, u32_or_nat _ _ (by omega) (by omega), j1, u32_or_nat _ _ (by omega) (by omega), j2, u32_or_nat _ _ (by omega) (by omega), j3]
theorem firstWs_succ (b : List Nat) (k : Nat) : Sha.firstWs b (k + 1) = Sha.firstWs b k ++ [Sha.word b k] := by
  simp [Sha.firstWs, List.range_succ]
theorem sig_close (p a b n : Nat) (m : Int) (hm : m = (n : Int)) (hp : p < 4294967296) (ha : a < 4294967296) (hb : b < 4294967296) :
    bits BinOp.xor IntKind.u32 (bits BinOp.xor IntKind.u32 (a : Int) (b : Int)) ((p : Int) / m) = ((a ^^^ b ^^^ p / n : Nat) : Int) := by
  subst hm
  have hx : a ^^^ b < 2 ^ 32 := Nat.xor_lt_two_pow (by omega) (by omega)
  rw [u32_xor_nat a b ha hb, ← Int.natCast_ediv, u32_xor_nat _ _ (by omega) (Nat.lt_of_le_of_lt (Nat.div_le_self _ _) hp)]
theorem sig0_close (p : Nat) (hp : p < 4294967296) : bits BinOp.xor IntKind.u32 (bits BinOp.xor IntKind.u32 ((Sha.rotr p 7 : Nat) : Int) ((Sha.rotr p 18 : Nat) : Int)) ((p : Int) / 8) = ((Sha.sig0 p : Nat) : Int) :=
  sig_close p _ _ 8 8 rfl hp (Sha.rotr_lt _ _ hp) (Sha.rotr_lt _ _ hp)
theorem sig1_close (q : Nat) (hq : q < 4294967296) : bits BinOp.xor IntKind.u32 (bits BinOp.xor IntKind.u32 ((Sha.rotr q 17 : Nat) : Int) ((Sha.rotr q 19 : Nat) : Int)) ((q : Int) / 1024) = ((Sha.sig1 q : Nat) : Int) :=
  sig_close q _ _ 1024 1024 rfl hq (Sha.rotr_lt _ _ hq) (Sha.rotr_lt _ _ hq)
theorem next_close (r s p q : Nat) : ((((r : Int) + (s : Int)) % 4294967296 + ((Sha.sig0 p : Nat) : Int)) % 4294967296 + ((Sha.sig1 q : Nat) : Int)) % 4294967296 = ((Sha.nextW r s p q : Nat) : Int) := by
  unfold Sha.nextW; omega
theorem not32 (e : Nat) (he : e < 4294967296) : 4294967295 ^^^ e = 4294967295 - e := by
  have h := BitVec.toNat_not (x := BitVec.ofNat 32 e)
  rw [BitVec.not_def, BitVec.toNat_xor, BitVec.toNat_allOnes, BitVec.toNat_ofNat, Nat.mod_eq_of_lt (by omega)] at h
  exact h
theorem not32_close (e : Nat) (he : e < 4294967296) : bits BinOp.xor IntKind.u32 (if IntKind.u32.signed = true then -1 else IntKind.u32.max) (e : Int) = ((4294967295 - e : Nat) : Int) := by
  have : (if IntKind.u32.signed = true then -1 else IntKind.u32.max) = ((4294967295 : Nat) : Int) := by decide
  rw [this, u32_xor_nat _ _ (by decide) he, not32 e he]
theorem xor_lt32 {a b : Nat} (ha : a < 4294967296) (hb : b < 4294967296) : a ^^^ b < 4294967296 := by
  have : a ^^^ b < 2 ^ 32 := Nat.xor_lt_two_pow (by omega) (by omega)
  omega
theorem and_lt32 {a b : Nat} (ha : a < 4294967296) : a &&& b < 4294967296 := Nat.lt_of_le_of_lt Nat.and_le_left ha
theorem xor3_close (a b c : Nat) (ha : a < 4294967296) (hb : b < 4294967296) (hc : c < 4294967296) :
    bits BinOp.xor IntKind.u32 (bits BinOp.xor IntKind.u32 (a : Int) (b : Int)) (c : Int) = ((a ^^^ b ^^^ c : Nat) : Int) := by
  rw [u32_xor_nat a b ha hb, u32_xor_nat _ _ (xor_lt32 ha hb) hc]
theorem tX_close (e f g h k w : Nat) (he : e < 4294967296) (hf : f < 4294967296) (hg : g < 4294967296) :
    ((h : Int) + bits BinOp.xor IntKind.u32 (bits BinOp.xor IntKind.u32 ((Sha.rotr e 6 : Nat) : Int) ((Sha.rotr e 11 : Nat) : Int)) ((Sha.rotr e 25 : Nat) : Int)
      + bits BinOp.xor IntKind.u32 (bits BinOp.and IntKind.u32 (e : Int) (f : Int)) (bits BinOp.and IntKind.u32 (bits BinOp.xor IntKind.u32 (if IntKind.u32.signed = true then -1 else IntKind.u32.max) (e : Int)) (g : Int))
      + (k : Int) + (w : Int)) % 4294967296 = ((Sha.tX e f g h k w : Nat) : Int) := by
  rw [xor3_close _ _ _ (Sha.rotr_lt _ _ he) (Sha.rotr_lt _ _ he) (Sha.rotr_lt _ _ he), not32_close e he, u32_and_nat _ _ he hf, u32_and_nat _ _ (by omega) hg, u32_xor_nat _ _ (and_lt32 he) (and_lt32 (by omega))]
  unfold Sha.tX
  omega
theorem tY_close (a b c : Nat) (ha : a < 4294967296) (hb : b < 4294967296) (hc : c < 4294967296) :
    (bits BinOp.xor IntKind.u32 (bits BinOp.xor IntKind.u32 ((Sha.rotr a 2 : Nat) : Int) ((Sha.rotr a 13 : Nat) : Int)) ((Sha.rotr a 22 : Nat) : Int)
      + bits BinOp.xor IntKind.u32 (bits BinOp.xor IntKind.u32 (bits BinOp.and IntKind.u32 (a : Int) (b : Int)) (bits BinOp.and IntKind.u32 (a : Int) (c : Int))) (bits BinOp.and IntKind.u32 (b : Int) (c : Int))) % 4294967296 = ((Sha.tY a b c : Nat) : Int) := by
  rw [xor3_close _ _ _ (Sha.rotr_lt _ _ ha) (Sha.rotr_lt _ _ ha) (Sha.rotr_lt _ _ ha), u32_and_nat _ _ ha hb, u32_and_nat _ _ ha hc, u32_and_nat _ _ hb hc, xor3_close _ _ _ (and_lt32 ha) (and_lt32 ha) (and_lt32 hb)]
  unfold Sha.tY
  omega
def S8.L (s : Sha.S8) : List Nat := [s.a, s.b, s.c, s.d, s.e, s.f, s.g, s.h]
theorem S8v_L (s : Sha.S8) : S8v s = U32s (S8.L s) := rfl
/-- the first j of the numbers with the others added -/
def part (s t : Sha.S8) (j : Nat) : List Nat := (S8.L (Sha.plus s t)).take j ++ (S8.L s).drop j
theorem eight {j : Nat} (hj : j < 8) : j = 0 ∨ j = 1 ∨ j = 2 ∨ j = 3 ∨ j = 4 ∨ j = 5 ∨ j = 6 ∨ j = 7 := by omega
theorem part_length (s t : Sha.S8) (j : Nat) (hj : j ≤ 8) : (part s t j).length = 8 := by
  have h : ∀ x : Sha.S8, (S8.L x).length = 8 := fun _ => rfl
  simp [part, h]; omega
theorem part_get (s t : Sha.S8) (j : Nat) (hj : j < 8) : (part s t j).getD j 0 = (S8.L s).getD j 0 := by
  rcases eight hj with rfl | rfl | rfl | rfl | rfl | rfl | rfl | rfl <;> rfl
theorem part_step (s t : Sha.S8) (j : Nat) (hj : j < 8) : (U32s (part s t j)).setIfInBounds j (.int .u32 (((((S8.L s).getD j 0 : Nat) : Int) + (((S8.L t).getD j 0 : Nat) : Int)) % 4294967296)) = U32s (part s t (j + 1)) := by
  have h : ∀ x y : Nat, ((x : Int) + (y : Int)) % 4294967296 = (((x + y) % 4294967296 : Nat) : Int) := fun x y => by omega
  rw [h]
  rcases eight hj with rfl | rfl | rfl | rfl | rfl | rfl | rfl | rfl <;> rfl
theorem part_8 (s t : Sha.S8) : U32s (part s t 8) = S8v (Sha.plus s t) := rfl
end Go.Proofs.YtjhjolnflkekoaaDoor.S
/- The contract of turn: a turn of 32 bits, by 1 to 31 places; nothing in memory changes. -/
namespace Go.Proofs.YtjhjolnflkekoaaDoor.S
open Go.RowKit
theorem and31 (n : Nat) (h1 : 1 ≤ n) (h2 : n ≤ 31) : bits .and .u64 (IntKind.u64.wrap (-(n : Int))) 31 = 32 - (n : Int) := by
  have : n = 1 ∨ n = 2 ∨ n = 3 ∨ n = 4 ∨ n = 5 ∨ n = 6 ∨ n = 7 ∨ n = 8 ∨ n = 9 ∨ n = 10 ∨ n = 11 ∨ n = 12 ∨ n = 13 ∨ n = 14 ∨ n = 15 ∨ n = 16 ∨ n = 17 ∨ n = 18 ∨ n = 19 ∨ n = 20 ∨ n = 21 ∨ n = 22 ∨ n = 23 ∨ n = 24 ∨ n = 25 ∨ n = 26 ∨ n = 27 ∨ n = 28 ∨ n = 29 ∨ n = 30 ∨ n = 31 := by omega
  rcases this with rfl | rfl | rfl | rfl | rfl | rfl | rfl | rfl | rfl | rfl | rfl | rfl | rfl | rfl | rfl | rfl | rfl | rfl | rfl | rfl | rfl | rfl | rfl | rfl | rfl | rfl | rfl | rfl | rfl | rfl | rfl <;> decide +kernel
theorem rot_close (x n : Nat) (hx : x < 4294967296) (h2 : n ≤ 31) :
    bits BinOp.or IntKind.u32 (↑x * 2 ^ (32 - n) % 4294967296) (↑x / 2 ^ (32 - (32 - n))) = ((Sha.rotr x n : Nat) : Int) := by
  have e1 : ((x : Int) * 2 ^ (32 - n) % 4294967296) = ((x * 2 ^ (32 - n) % 4294967296 : Nat) : Int) := by simp
  have e2 : ((x : Int) / 2 ^ (32 - (32 - n))) = ((x / 2 ^ n : Nat) : Int) := by
    rw [show 32 - (32 - n) = n by omega]; simp
  rw [e1, e2, u32_or_nat _ _ (Nat.mod_lt _ (by decide)) (Nat.lt_of_le_of_lt (Nat.div_le_self _ _) hx)]
  rfl
theorem rot_any (x n : Nat) (w : World) (hx : x < 4294967296) (h1 : 1 ≤ n) (h2 : n ≤ 31) :
    Calls Tryd.prog 60 #[.int .u32 x, .int .i64 (-(n : Int))] w fun e w' => e = .returned (.int .u32 (Sha.rotr x n : Nat)) ∧ w' = w := by
  have ha := and31 n h1 h2
  go_enter Tryd.func60, Tryd.ntmps60
  go_wp2
  go_ret
  exact ⟨ret_int (rot_close x n hx h2), rfl⟩
theorem turn_any (x n : Nat) (w : World) (hx : x < 4294967296) (h1 : 1 ≤ n) (h2 : n ≤ 31) :
    Calls Tryd.prog 56 #[.int .u32 x, .int .i64 n] w fun e w' => e = .returned (.int .u32 (Sha.rotr x n : Nat)) ∧ w' = w := by
  go_enter Tryd.func56, Tryd.ntmps56
  go_wp2_with (go_at_call 60; refine (rot_any _ _ _ hx h1 h2).mono ?_; rintro e w' ⟨rfl, rfl⟩)
  go_ret
  exact ⟨rfl, rfl⟩
/-- the same, at a number as a walk writes it -/
theorem turn_lit (x : Nat) (n : Int) (w : World) (hx : x < 4294967296) (h1 : 1 ≤ n) (h2 : n ≤ 31) :
    Calls Tryd.prog 56 #[.int .u32 x, .int .i64 n] w fun e w' => e = .returned (.int .u32 (Sha.rotr x n.toNat : Nat)) ∧ w' = w := by
  obtain ⟨m, rfl⟩ := Int.eq_ofNat_of_zero_le (show 0 ≤ n by omega)
  rw [Int.toNat_natCast]
  exact turn_any x m w hx (by omega) (by omega)
end Go.Proofs.YtjhjolnflkekoaaDoor.S
