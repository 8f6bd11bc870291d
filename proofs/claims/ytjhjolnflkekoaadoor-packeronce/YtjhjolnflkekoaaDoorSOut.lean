/- A strings.Builder that a call made itself, by the bytes that it holds; strings out of plain numbers. -/
import Derived.Test.YtjhjolnflkekoaaDoorSShelf
import Derived.Test.YtjhjolnflkekoaaDoorSCopy
namespace Go.Proofs.YtjhjolnflkekoaaDoor.S
open Go.RowKit
/-- a string of these bytes -/
def ofBs (l : List Nat) : ByteArray := ⟨(l.map fun x => x.toUInt8).toArray⟩
theorem bs_ofBs (l : List Nat) (h : ∀ x ∈ l, x < 256) : bs (ofBs l) = l := by
  unfold bs ofBs
  simp only [List.map_map]
  have : List.map ((fun x : UInt8 => x.toNat) ∘ fun x : Nat => x.toUInt8) l = List.map id l := by
    apply List.map_congr_left
    intro x hx
    have := h x hx
    simp [Function.comp]
    omega
  rw [this, List.map_id]
theorem ofBs_size (l : List Nat) : (ofBs l).size = l.length := by
  show ((l.map fun x => x.toUInt8).toArray).size = _
  simp
theorem cells_u8 (l : List Nat) (h : ∀ x ∈ l, x < 256) : Lib.byteCells (l.map fun x => x.toUInt8) = (U8s l).toList := by
  unfold Lib.byteCells U8s
  simp only [List.map_map]
  apply List.map_congr_left
  intro x hx
  have := h x hx
  simp [Function.comp]
  omega
/-- the builder in block b holds these bytes -/
def Holds (b : Nat) (l : List Nat) (w : World) : Prop := Lib.IsBuilder 80 5 b b (U8s l).toList w
theorem Holds.lt {b : Nat} {l : List Nat} {w : World} (h : Holds b l w) : b < w.heap.size := h.elim (fun x => x.lt) (fun x => x.lt)
theorem Holds.fresh (w : World) (b : Nat) (hb : b = w.heap.size) : Holds b [] (w.alloc (.cells #[.pointer none, .slice none 0 0] 80)) := by
  subst hb; exact Lib.fresh_isBuilder 80 5 w
theorem write_any (b : Nat) (l : List Nat) (x : Int) (y : Nat) (w : World) (hx : x = (y : Int)) (h : Holds b l w) (hl : l.length ≤ 100000000000000) :
    Calls Tryd.prog 46 #[.pointer (some ⟨b, 0, none⟩), .int .u8 x] w fun e w' => e = .returned .nilIface ∧ Holds b (l ++ [y]) w' ∧ Below b w w' := by
  subst hx
  refine (Tryd.Builder_WriteByte b b _ _ w h (by rw [Array.length_toList, U8s_size]; omega) (Nat.le_of_lt h.lt)).mono ?_
  rintro e w' ⟨rfl, h1, h2⟩
  refine ⟨rfl, Or.inr ?_, h2⟩
  have e : (U8s l).toList ++ [Value.int .u8 (y : Int)] = (U8s (l ++ [y])).toList := by simp [U8s]
  rw [← e]; exact h1
theorem tell_any (b : Nat) (l : List Nat) (w : World) (h : Holds b l w) (hl : ∀ x ∈ l, x < 256) :
    Calls Tryd.prog 47 #[.pointer (some ⟨b, 0, none⟩)] w fun e w' => e = .returned (.string (ofBs l)) ∧ Below b w w' := by
  have h' : Lib.IsBuilder 80 5 b b (Lib.byteCells (l.map fun x => x.toUInt8)) w := by rw [cells_u8 l hl]; exact h
  exact Tryd.Builder_String_any b b _ w h' (Nat.le_of_lt h.lt)
end Go.Proofs.YtjhjolnflkekoaaDoor.S
