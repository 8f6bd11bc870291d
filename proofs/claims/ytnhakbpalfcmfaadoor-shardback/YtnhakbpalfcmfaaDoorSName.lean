/- What is laid when a call begins; the contracts of Name, Code and mayIndex. -/
import Derived.Test.YtnhakbpalfcmfaaDoorSum
import Derived.Test.YtnhakbpalfcmfaaDoorBack
import Derived.Test.YtnhakbpalfcmfaaDoorMany
import Derived.Lib.ItoaLen
import Derived.Lib.AppendIntMem
namespace Go.Proofs.YtnhakbpalfcmfaaDoor
open Go.RowKit
/-- what the tables and the errors of the library hold -/
structure Lay (w : World) : Prop where
  ht : Tabs w
  pw : HasC w 5 (Lib.pow10Tab.map fun z => Value.int .u64 z).toArray
  er : ∃ tp p, HasC w 2 #[.iface tp p]
theorem Lay.below {w W : World} (h : Lay w) (hb : Below w.heap.size w W) : Lay W :=
  ⟨h.ht.below' hb, h.pw.below hb h.pw.lt, by obtain ⟨tp, p, q⟩ := h.er; exact ⟨tp, p, q.below hb q.lt⟩⟩
theorem var_of_hasC {w : World} {g : Nat} {name : String} {cs : Array Value} (hg : Tryd.prog.globalNamed name = some g) (h : HasC w g cs) : w.var? Tryd.prog name = some cs := by
  obtain ⟨t, fr, h⟩ := h
  unfold World.var?
  rw [hg]
  simp [h]
theorem gPow : Tryd.prog.globalNamed "internal/strconv.uint64pow10" = some 5 := by kernel_rfl
theorem gSyn : Tryd.prog.globalNamed "strconv.ErrSyntax" = some 2 := by kernel_rfl
/-- a number's digits, with a - ahead of one below 0 -/
def dec (n : Int) : List Nat := (Lib.itoa n).map (·.toNat)
theorem dec_str (n : Int) : (⟨(Lib.itoa n).toArray⟩ : ByteArray) = ofBs (dec n) := by
  unfold ofBs dec
  rw [List.map_map]
  congr 2
  symm
  have : List.map ((fun x : Nat => x.toUInt8) ∘ fun x : UInt8 => x.toNat) (Lib.itoa n) = List.map id (Lib.itoa n) := by
    apply List.map_congr_left
    intro x _
    simp [Function.comp]
  rw [this, List.map_id]
theorem ofBs_append (a b : List Nat) : ofBs (a ++ b) = ofBs a ++ ofBs b := by
  unfold ofBs
  apply ByteArray.ext
  rw [ByteArray.data_append]
  simp
theorem dec_lt (n : Int) : ∀ x ∈ dec n, x < 256 := by
  intro x hx
  simp only [dec, List.mem_map] at hx
  obtain ⟨b, _, rfl⟩ := hx
  exact b.toNat_lt
theorem dec_length (n : Int) (h0 : -9223372036854775808 ≤ n) (h1 : n ≤ 9223372036854775807) : (dec n).length ≤ 21 := by
  unfold dec; rw [List.length_map]; exact Lib.itoa_length_le n h0 h1
/-- an object's name -/
def nm (d : List Nat) (i : Int) : List Nat := Sha.hex d ++ [46] ++ dec i
theorem itoa_any (n : Int) (h0 : -9223372036854775808 ≤ n) (h1 : n ≤ 9223372036854775807) (w : World) (hl : Lay w) :
    Calls Tryd.prog 27 #[.int .i64 n] w fun e w' => e = .returned (.string (ofBs (dec n))) ∧ Below w.heap.size w w' := by
  refine (Tryd.strconv_Itoa n h0 h1 w (var_of_hasC gPow hl.pw)).mono ?_
  rintro e w' ⟨rfl, k, os, rfl⟩
  rw [dec_str]
  exact ⟨rfl, Lib.below_grow _ _ (Nat.le_refl _) _ _⟩
theorem name_any (d : ByteArray) (i : Int) (hd : d.size ≤ 400000000000) (h0 : -9223372036854775808 ≤ i) (h1 : i ≤ 9223372036854775807) (w : World) (hl : Lay w) :
    Calls Tryd.prog 13 #[.string d, .int .i64 i] w fun e w' => e = .returned (.string (ofBs (nm (bs d) i))) ∧ Below w.heap.size w w' := by
  have z1 : (ofBs (Sha.hex (bs d))).size = 2 * d.size := by rw [ofBs_size, hex_length, bs_length]
  have z2 : (ofBs (dec i)).size ≤ 21 := by rw [ofBs_size]; exact dec_length i h0 h1
  have E : Hid (ofBs (Sha.hex (bs d)) ++ ⟨#[46]⟩ ++ ofBs (dec i) = ofBs (nm (bs d) i)) := by
    unfold Hid nm; rw [ofBs_append, ofBs_append]; rfl
  go_enter Tryd.func13, Tryd.ntmps13
  go_wp2_with fail
  refine (hex_any d (by omega) w).mono ?_
  rintro e w1 ⟨rfl, b1⟩
  have hB := itoa_any i h0 h1 w1 (hl.below b1)
  generalize ofBs (Sha.hex (bs d)) = A at *
  generalize ofBs (dec i) = B at *
  have q1 : ¬ 9223372036854775807 < A.size + 1 := by omega
  have q2 : ¬ 9223372036854775807 < A.size + 1 + B.size := by omega
  clear z1 z2
  go_wp2_with fail
  refine hB.mono ?_
  rintro e w2 ⟨rfl, b2⟩
  go_wp2_with fail
  go_ret
  exact ⟨by rw [E.out]; rfl, belowCall b1 b2⟩
/-- whether a code may be -/
def okC (K N : Int) : Bool := decide (1 ≤ K) && decide (K ≤ N) && decide (N ≤ 12)
set_option maxRecDepth 20000 in
theorem code_any (K N : Int) (w : World) : Calls Tryd.prog 15 #[.agg #[.int .i64 K, .int .i64 N]] w fun e w' => e = .returned (.bool (okC K N)) ∧ Below w.heap.size w w' := by
  go_enter Tryd.func15, Tryd.ntmps15
  go_wp2
  all_goals
    go_ret
    refine ⟨?_, (Below.refl _ _).alloc (Nat.le_refl _) _⟩
    simp_all [okC] <;> omega
set_option maxRecDepth 20000 in
theorem refCode_any (K N : Int) (w : World) : Calls Tryd.prog 16 #[.agg #[.int .i64 K, .int .i64 N]] w fun e w' => e = .returned (.bool (okC K N)) ∧ Below w.heap.size w w' := by
  go_enter Tryd.func16, Tryd.ntmps16
  go_wp2
  all_goals
    go_ret
    refine ⟨?_, (Below.refl _ _).alloc (Nat.le_refl _) _⟩
    simp_all [okC] <;> omega
theorem may_any (i n : Int) (w : World) : Calls Tryd.prog 18 #[.int .i64 i, .int .i64 n] w fun e w' => e = .returned (.bool (decide (0 ≤ i) && decide (i < n))) ∧ w' = w := by
  go_enter Tryd.func18, Tryd.ntmps18
  go_wp2
  all_goals
    go_ret
    refine ⟨?_, rfl⟩
    simp_all <;> omega
end Go.Proofs.YtnhakbpalfcmfaaDoor
