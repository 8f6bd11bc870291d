/- What is appended: a string's bytes to a row, a string to a list of strings. -/
import Derived.Test.YteapbbaollmniaaGreatDoorCCStr
import Derived.Test.YteapbbaollmniaaGreatDoorCConv
import Derived.Test.YteapbbaollmniaaGreatDoorCCEnc
import Derived.WalkKit
import Derived.ProofKit
import Derived.OpenShut
import Derived.Lib.SmallJoins
import Derived.Carry
import Derived.SliceStrings
import Derived.Maps.OwnSet
namespace Go.Proofs.YteapbbaollmniaaGreatDoor.C
open Go.RowKit
end Go.Proofs.YteapbbaollmniaaGreatDoor.C
/- The document's One, and its matrix of a code; what is too large. -/
namespace Go.Proofs.YteapbbaollmniaaGreatDoor.C.Mx
open Go.RowKit
end Go.Proofs.YteapbbaollmniaaGreatDoor.C.Mx
/- The document's Encode. -/
namespace Go.Proofs.YteapbbaollmniaaGreatDoor.C
open Go.RowKit
end Go.Proofs.YteapbbaollmniaaGreatDoor.C
/- Lists of strings held against each other; the document's Encode, whatever is handed in. -/
namespace Go.Proofs.YteapbbaollmniaaGreatDoor.C
open Go.RowKit
theorem rn_at28 {ev : Operand → Value} {o : Oper} {w : World} {x y : Operand} {g q n c k : Nat} (ho : o.op = .indexAddr 80 x y) (hx : ev x = .slice (some ⟨g, q, none⟩) n c) (hy : ev y = .int .i64 (k : Int)) (h : k < n) : (execOp ev o).run Tryz.prog w = .ok (.value (.pointer (some ⟨g, q + k, none⟩))) w := by
  have h1 : (k : Int) < (n : Int) := by omega
  simp [execOp, ho, hx, hy, go_sem, h1]
theorem rn_load9 {ev : Operand → Value} {o : Oper} {w : World} {x : Operand} {g k : Nat} {v : Value} (ho : o.op = .load 9 x) (hx : ev x = .pointer (some ⟨g, k, none⟩)) (hc : w.cell? ⟨g, k, none⟩ = some v) : (execOp ev o).run Tryz.prog w = .ok (.value v) w := by
  simp [execOp, ho, hx, go_sem, hc]
theorem str_beq {a b : List Nat} (ha : ∀ x ∈ a, x < 256) (hb : ∀ x ∈ b, x < 256) : ((ofBs a).toList == (ofBs b).toList) = decide (a = b) := by
  by_cases h : a = b
  · subst h; rw [decide_eq_true rfl]; exact str_eq _
  · rw [decide_eq_false h]; exact str_ne ha hb h
theorem rn_neqS {ev : Operand → Value} {o : Oper} {w : World} {x y : Operand} {a b : List Nat} (ho : o.op = .binOp .neq 9 x y 9) (hx : ev x = .string (ofBs a)) (hy : ev y = .string (ofBs b)) (ha : ∀ x ∈ a, x < 256) (hb : ∀ x ∈ b, x < 256) : (execOp ev o).run Tryz.prog w = .ok (.value (.bool (!decide (a = b)))) w := by
  have e := str_beq ha hb
  simp [execOp, ho, hx, hy, go_sem, e]
end Go.Proofs.YteapbbaollmniaaGreatDoor.C
/- What is handed in: codes, lists of numbers, lists of strings, as they are read. -/
namespace Go.Proofs.YteapbbaollmniaaGreatDoor.C
open Go.ChangeShapes Go.WideShapes Go.ChangeAt Go.RowKit Go.Joins Go.WideMaps Go.WideElems
/-- numbers of 64 bits -/
def Ints64 (W : World) (v : Value) (zs : List Int) : Prop := Mx.Ints W v zs ∧ ∀ j, -9223372036854775808 ≤ zs.getD j 0 ∧ zs.getD j 0 ≤ 9223372036854775807
end Go.Proofs.YteapbbaollmniaaGreatDoor.C
/- A map of numbers to their places, which a call made itself; which numbers may be a payload's; which are at hand. -/
namespace Go.Proofs.YteapbbaollmniaaGreatDoor.C
open Go.RowKit
theorem key3 : Go.Maps.Keyed Tryz.prog 3 := Go.Maps.int_keyed Tryz.underlying3
theorem zero3 (w : World) : (zeroValue 3).run Tryz.prog w = .ok (.int .i64 0) w := by kernel_rfl
def I64 (z : Int) : Prop := -9223372036854775808 ≤ z ∧ z ≤ 9223372036854775807
theorem wf64 {z : Int} (h : I64 z) : (Lit.int .i64 z).wf = true := by
  obtain ⟨h1, h2⟩ := h
  have e : IntKind.i64.min = -9223372036854775808 := by decide
  simp [Lit.wf]
  exact ⟨by omega, h2⟩
/-- block b is a map that tells of each of the first k numbers at which place it stands -/
def PMap (w : World) (b k : Nat) (zs : List Int) : Prop := ∃ D : DataW Unit, w.ownsMap Tryz.prog 3 (plainElem Tryz.prog 3) b k D ∧ Go.Maps.IsMap D ∧ ∀ z, I64 z → (Go.Maps.has D (.int .i64 z) = true ↔ ∃ j, j < k ∧ zs.getD j 0 = z) ∧ ∀ j, j < k → zs.getD j 0 = z → (∀ i, i < k → zs.getD i 0 = z → i = j) → D.atKey (.int .i64 z) (.lit (.int .i64 0)) = .lit (.int .i64 (j : Int))
theorem PMap.lt {w : World} {b k : Nat} {zs : List Int} (h : PMap w b k zs) : b < w.heap.size := by
  obtain ⟨D, h1, _⟩ := h
  exact h1.lt
theorem PMap.below {w w' : World} {b k : Nat} {zs : List Int} (h : PMap w b k zs) (hb : Below w.heap.size w w') : PMap w' b k zs := by
  have hl := h.lt
  obtain ⟨D, ⟨es, clock, h1, h2⟩, h3⟩ := h
  exact ⟨D, ⟨es, clock, by rw [hb.block b hl]; exact h1, h2⟩, h3⟩
theorem PMap.made (w : World) (zs : List Int) : PMap (w.alloc (.map #[] 0)) w.heap.size 0 zs := by
  refine ⟨.map [], World.ownsMap_made _ _ _ _, ⟨_, rfl⟩, fun z _ => ⟨⟨fun h => (by cases h), fun ⟨j, hj, _⟩ => absurd hj (by omega)⟩, fun j hj => absurd hj (by omega)⟩⟩
theorem PMap.look {w : World} {b k : Nat} {zs : List Int} (h : PMap w b k zs) {z : Int} (hz : I64 z) : ∃ c : Int, (Instr.lookup 201 (.map (some b)) (.int .i64 z) true).run Tryz.prog w = .ok (.tuple #[.int .i64 c, .bool (decide (∃ j, j < k ∧ zs.getD j 0 = z))]) w := by
  obtain ⟨D, h1, h2, h3⟩ := h
  obtain ⟨v, ps, hrun, hv⟩ := h1.look_ok key3 Tryz.underlying201 (zero3 _) (plainElem_int Tryz.underlying3 (by decide)) (Go.Maps.keyOf_int_mk Tryz.underlying3 (wf64 hz))
  obtain ⟨c, rfl, hc, hwc⟩ := plainElem_int_inv Tryz.underlying3 hv
  refine ⟨c, ?_⟩
  have e : Go.Maps.has D (.int .i64 z) = decide (∃ j, j < k ∧ zs.getD j 0 = z) := by
    rw [Bool.eq_iff_iff, (h3 z hz).1, decide_eq_true_iff]
  rw [← e]; exact hrun
theorem PMap.at {w : World} {b k : Nat} {zs : List Int} (h : PMap w b k zs) {z : Int} (hz : I64 z) (j : Nat) (hj : j < k) (he : zs.getD j 0 = z) (hu : ∀ i, i < k → zs.getD i 0 = z → i = j) : (Instr.lookup 201 (.map (some b)) (.int .i64 z) false).run Tryz.prog w = .ok (.int .i64 (j : Int)) w := by
  obtain ⟨D, h1, h2, h3⟩ := h
  obtain ⟨c, hrun, hat, hwc⟩ := h1.lookup_int key3 Tryz.underlying201 Tryz.underlying3 (zero3 _) (Go.Maps.keyOf_int_mk Tryz.underlying3 (wf64 hz))
  have := (h3 z hz).2 j hj he hu
  rw [this] at hat
  have e : c = (j : Int) := by
    have := hat
    simp only [DataW.lit.injEq, Lit.int.injEq] at this
    exact this.2.symm
  rw [← e]; exact hrun
theorem PMap.put {w : World} {b k : Nat} {zs : List Int} (h : PMap w b k zs) (hk : k < maxLen) (hz : I64 (zs.getD k 0)) (hkz : I64 (k : Int)) (hnew : ¬ ∃ j, j < k ∧ zs.getD j 0 = zs.getD k 0) : ∃ w', (Instr.mapUpdate 201 (.map (some b)) (.int .i64 (zs.getD k 0)) (.int .i64 (k : Int))).run Tryz.prog w = .ok () w' ∧ PMap w' b (k + 1) zs ∧ w.grownBy w' (some b) := by
  obtain ⟨D, h1, h2, h3⟩ := h
  obtain ⟨w', hrun, r1, r2⟩ := h1.update key3 Tryz.underlying201 hk (Go.Maps.keyOf_int_mk Tryz.underlying3 (wf64 hz)) (plainElem_int Tryz.underlying3 (wf64 hkz))
  have hkl : WideAt.IsKeyLit (.int .i64 (zs.getD k 0)) := trivial
  refine ⟨w', hrun, ⟨_, r1, h2.put _ _, fun z hzz => ?_⟩, r2⟩
  by_cases e : z = zs.getD k 0
  · subst e
    refine ⟨⟨fun _ => ⟨k, by omega, rfl⟩, fun _ => Go.Maps.has_put_same h2 hkl _⟩, fun j hj he hu => ?_⟩
    obtain rfl : k = j := hu k (by omega) rfl
    exact Go.Maps.atKey_put_same h2 hkl _ _
  · have hne : (Lit.int .i64 z) ≠ .int .i64 (zs.getD k 0) := fun hh => e (by simpa using hh)
    rw [Go.Maps.has_put_other hne, Go.Maps.atKey_put_other hne]
    refine ⟨⟨fun hh => ?_, fun ⟨j, hj, he⟩ => ?_⟩, fun j hj he hu => ?_⟩
    · obtain ⟨j, hj, he⟩ := (h3 z hzz).1.1 hh
      exact ⟨j, by omega, he⟩
    · by_cases hjk : j = k
      · subst hjk; exact absurd he.symm e
      · exact (h3 z hzz).1.2 ⟨j, by omega, he⟩
    · by_cases hjk : j = k
      · subst hjk; exact absurd he.symm e
      · exact (h3 z hzz).2 j (by omega) he (fun i hi hei => hu i (by omega) hei)
theorem mayNumber_any (K N n : Int) (w : World) : Calls Tryz.prog 84 #[cv K N, .int .i64 n] w fun e w' => e = .returned (.bool (decide (0 ≤ n ∧ n < N))) ∧ Below w.heap.size w w' := by
  have bA : Below w.heap.size w (w.alloc (.cells #[.int .i64 K, .int .i64 N] 23)) := (Below.refl _ _).alloc (Nat.le_refl _) _
  have c1 : (w.alloc (.cells #[.int .i64 K, .int .i64 N] 23)).cell? ⟨w.heap.size, 1, none⟩ = some (.int .i64 N) := (Has.new w w.heap.size _ 23 rfl).cell 1
  unfold cv
  by_cases h1 : 0 ≤ n
  · have d1 : decide ((0 : Int) ≤ n) = true := decide_eq_true h1
    have HE : Hid (decide (0 ≤ n ∧ n < N) = decide (n < N)) := by unfold Hid; rw [decide_eq_decide]; exact ⟨fun h => h.2, fun h => ⟨h1, h⟩⟩
    rw [HE.out]
    go_enter Tryz.func84, Tryz.ntmps84
    go_wp2_with fail
    go_ret
    exact ⟨rfl, bA⟩
  · have d1 : decide ((0 : Int) ≤ n) = false := decide_eq_false h1
    have HE : Hid (decide (0 ≤ n ∧ n < N) = false) := by unfold Hid; rw [decide_eq_false_iff_not]; exact fun h => h1 h.1
    rw [HE.out]
    go_enter Tryz.func84, Tryz.ntmps84
    go_wp2_with fail
    go_ret
    exact ⟨rfl, bA⟩
/-- numbers that may be payloads', each once -/
def goodZ (N : Int) (zs : List Int) : Prop := ∀ j, j < zs.length → (0 ≤ zs.getD j 0 ∧ zs.getD j 0 < N) ∧ ∀ i, i < j → zs.getD i 0 ≠ zs.getD j 0
instance (N : Int) (zs : List Int) : Decidable (goodZ N zs) := by unfold goodZ; infer_instance
theorem goodZ_inj {N : Int} {zs : List Int} (h : goodZ N zs) {i j : Nat} (hi : i < zs.length) (hj : j < zs.length) (e : zs.getD i 0 = zs.getD j 0) : i = j := by
  by_cases h1 : i < j
  · exact absurd e ((h j hj).2 i h1)
  · by_cases h2 : j < i
    · exact absurd e.symm ((h i hi).2 j h2)
    · omega
set_option maxRecDepth 20000 in
theorem atHand_any (K N : Int) (vz : Value) (zs : List Int) (w : World) (hz : Ints64 w vz zs) :
    Calls Tryz.prog 127 #[cv K N, vz] w fun e w' => Below w.heap.size w w' ∧ if goodZ N zs then ∃ b, e = .returned (.tuple #[.map (some b), .bool true]) ∧ PMap w' b zs.length zs else e = .returned (.tuple #[.map none, .bool false]) := by
  obtain ⟨⟨a, cap, rfl, hl, hc⟩, hwf⟩ := hz
  have HW := hid hwf
  have HC := hid hc
  have bA : Below w.heap.size w (w.alloc (.cells #[.int .i64 K, .int .i64 N] 23)) := (Below.refl _ _).alloc (Nat.le_refl _) _
  have hbox : Has (w.alloc (.cells #[.int .i64 K, .int .i64 N] 23)) w.heap.size #[.int .i64 K, .int .i64 N] 23 := Has.new w w.heap.size _ 23 rfl
  have hmm := @run_makeMap Tryz.prog
  have hP0 := hid (PMap.made (w.alloc (.cells #[.int .i64 K, .int .i64 N] 23)) zs)
  have bB : Below (w.heap.size + 1) (w.alloc (.cells #[.int .i64 K, .int .i64 N] 23)) ((w.alloc (.cells #[.int .i64 K, .int .i64 N] 23)).alloc (.map #[] 0)) := (Below.refl _ _).alloc (by simp) _
  have es : (w.alloc (.cells #[.int .i64 K, .int .i64 N] 23)).heap.size = w.heap.size + 1 := by simp
  have HB := hid hbox
  rw [es] at hP0
  clear hc hwf hbox
  generalize hn : zs.length = n at *
  unfold cv
  go_enter Tryz.func127, Tryz.ntmps127
  go_wp2_with fail
  go_loopg [14] n (fun g1 s14 wx => ∃ k : Nat, k + g1 = n ∧ s14 = .int .i64 (k : Int) ∧ Hid (PMap wx (w.heap.size + 1) k zs) ∧ Hid (∀ j, j < k → (0 ≤ zs.getD j 0 ∧ zs.getD j 0 < N) ∧ ∀ i, i < j → zs.getD i 0 ≠ zs.getD j 0) ∧ Below (w.heap.size + 1) (w.alloc (.cells #[.int .i64 K, .int .i64 N] 23)) wx)
  case atStart => exact ⟨0, by omega, rfl, hP0, fun j hj => absurd hj (by omega), bB⟩
  case round =>
    obtain ⟨k, hkg, rfl, hP, hG, hb⟩ := hrel
    clear hP0 bB
    have hBw : Below w.heap.size w wr := bA.trans (hb.mono (by omega))
    have hbx := HB.out.below hb (by omega)
    cases gk with
    | zero =>
      have hz1 : ¬ ((k : Int) < (n : Int)) := by omega
      have hkn : k = n := by omega
      have hgood : goodZ N zs := fun j hj => hG.out j (by omega)
      have HP' : Hid (PMap wr (w.heap.size + 1) n zs) := by unfold Hid; rw [← hkn]; exact hP.out
      clear hP hG hkn
      go_wp2_with fail
      go_ret2
      exact ⟨hBw, ⟨_, rfl, HP'.out⟩⟩
    | succ g1 =>
      have hz1 : (k : Int) < (n : Int) := by omega
      have hk : k < n := by omega
      obtain ⟨g, o, rfl, hg, hd⟩ := HC.out (by omega)
      have q0 := cell_below hBw hg (hd k hk)
      have hzi : I64 (zs.getD k 0) := HW.out k
      obtain ⟨c, hlook⟩ := hP.out.look hzi
      have c0 : wr.cell? ⟨w.heap.size, 0, none⟩ = some (.int .i64 K) := hbx.cell 0
      have c1 : wr.cell? ⟨w.heap.size, 1, none⟩ = some (.int .i64 N) := hbx.cell 1
      by_cases hin : ∃ j, j < k ∧ zs.getD j 0 = zs.getD k 0
      · rw [decide_eq_true hin] at hlook
        have hbad : ¬ goodZ N zs := fun hgd => by
          obtain ⟨j, hj, he⟩ := hin
          exact (hgd k (by omega)).2 j hj he
        generalize zs.getD k 0 = zk at *
        clear hP hG hd
        go_wp2_with fail
        go_ret2
        exact ⟨hBw, rfl⟩
      · rw [decide_eq_false hin] at hlook
        by_cases hr : 0 ≤ zs.getD k 0 ∧ zs.getD k 0 < N
        · have HPut : Hid (∀ W, Below wr.heap.size wr W → ∃ w', (Instr.mapUpdate 201 (.map (some (w.heap.size + 1))) (.int .i64 (zs.getD k 0)) (.int .i64 (k : Int))).run Tryz.prog W = .ok () w' ∧ PMap w' (w.heap.size + 1) (k + 1) zs ∧ W.grownBy w' (some (w.heap.size + 1))) := fun W hW =>
            (hP.out.below hW).put (by unfold maxLen; omega) hzi ⟨by omega, by omega⟩ hin
          have hG' : Hid (∀ j, j < k + 1 → (0 ≤ zs.getD j 0 ∧ zs.getD j 0 < N) ∧ ∀ i, i < j → zs.getD i 0 ≠ zs.getD j 0) := fun j hj => by
            by_cases hjk : j < k
            · exact hG.out j hjk
            · obtain rfl : j = k := by omega
              exact ⟨hr, fun i hi he => hin ⟨i, hi, he⟩⟩
          generalize zs.getD k 0 = zk at *
          have hml : w.heap.size + 1 < wr.heap.size := hP.out.lt
          clear hP hG hd
          go_wp2_with fail
          refine (mayNumber_any K N zk wr).mono ?_
          rintro e w2 ⟨rfl, b2⟩
          rw [decide_eq_true hr]
          obtain ⟨w3, hput, hP3, hgr⟩ := HPut.out w2 b2
          have HP3 := hid hP3
          have hb3 : Below (w.heap.size + 1) (w.alloc (.cells #[.int .i64 K, .int .i64 N] 23)) w3 := (hb.trans (b2.mono (by omega))).grown hgr (by have := b2.size; omega) (fun j hj => by cases hj; exact Nat.le_refl _)
          clear HPut hP3 hgr hlook
          go_wp2_with fail
          go_roundg g1
          case measure => omega
          case rel => exact ⟨k + 1, by omega, by first | rfl | simp, HP3, hG', hb3⟩
        · have hbad : ¬ goodZ N zs := fun hgd => hr (hgd k (by omega)).1
          generalize zs.getD k 0 = zk at *
          clear hP hG hd
          go_wp2_with fail
          refine (mayNumber_any K N zk wr).mono ?_
          rintro e w2 ⟨rfl, b2⟩
          rw [decide_eq_false hr]
          go_wp2_with fail
          go_ret2
          exact ⟨belowCall hBw b2, rfl⟩
end Go.Proofs.YteapbbaollmniaaGreatDoor.C
