/- Hashes in memory; the contracts of New, Len, and of what a nil hash answers. -/
import Derived.Test.YtjhjolnflkekoaaDoorSFeed
import Derived.Test.YtjhjolnflkekoaaDoorSEnding
import Derived.Test.YtjhjolnflkekoaaDoorSTell
namespace Go.Proofs.YtjhjolnflkekoaaDoor.S
open Go.RowKit
/-- all blocks of w but b stand in w' as they stood -/
structure Only (b : Nat) (w w' : World) : Prop where
  os : w'.os = w.os
  tape : w'.tape = w.tape
  output : w'.output = w.output
  size : w.heap.size ≤ w'.heap.size
  block : ∀ k, k < w.heap.size → k ≠ b → w'.heap[k]? = w.heap[k]?
theorem Only.below {b B : Nat} {w w' : World} (h : Only b w w') (hB : B ≤ b) (hw : B ≤ w.heap.size) : Below B w w' :=
  ⟨h.os, h.tape, h.output, h.size, fun k hk => h.block k (by omega) (by omega)⟩
theorem Only.of_below {b : Nat} {w w' : World} (h : Below w.heap.size w w') : Only b w w' :=
  ⟨h.os, h.tape, h.output, h.size, fun k hk _ => h.block k hk⟩
theorem Only.refl (b : Nat) (w : World) : Only b w w := ⟨rfl, rfl, rfl, Nat.le_refl _, fun _ _ _ => rfl⟩
theorem Only.trans {b : Nat} {x y z : World} (h : Only b x y) (k : Only b y z) : Only b x z :=
  ⟨k.os.trans h.os, k.tape.trans h.tape, k.output.trans h.output, Nat.le_trans h.size k.size, fun i hi hne => (k.block i (Nat.lt_of_lt_of_le hi h.size) hne).trans (h.block i hi hne)⟩
theorem Only.drew {b : Nat} {w w' : World} (h : Only b w w') : Only b w w'.drew := ⟨h.os, h.tape, h.output, h.size, h.block⟩
theorem Only.setCell {b : Nat} {w w' : World} (h : Only b w w') (i : Nat) (v : Value) : Only b w (w'.setCell ⟨b, i, none⟩ v) :=
  h.trans ⟨rfl, rfl, rfl, by simp, fun k _ hne => Below.heap_setCell _ _ _ _ hne⟩
theorem Has.only {w w' : World} {b k : Nat} {cs : Array Value} {t : TypeId} (h : Has w k cs t) (ho : Only b w w') (hne : k ≠ b) : Has w' k cs t := by
  have hl := h.lt
  unfold Has at h ⊢; rw [ho.block k hl hne]; exact h
theorem HasC.only {w w' : World} {b k : Nat} {cs : Array Value} (h : HasC w k cs) (ho : Only b w w') (hne : k ≠ b) : HasC w' k cs := by
  have hl := h.lt
  obtain ⟨t, fr, h⟩ := h
  exact ⟨t, fr, by rw [ho.block k hl hne]; exact h⟩
theorem Tabs.only {w w' : World} {b : Nat} (h : Tabs w) (ho : Only b w w') (hb : 1 < b) : Tabs w' := ⟨h.sq.only ho (by omega), h.cu.only ho (by omega)⟩
/-- a hash's cells -/
def hashCells (t : Sha.S8) (rv : Value) (n : Nat) : Array Value := #[.int .u32 (t.a : Int), .int .u32 (t.b : Int), .int .u32 (t.c : Int), .int .u32 (t.d : Int), .int .u32 (t.e : Int), .int .u32 (t.f : Int), .int .u32 (t.g : Int), .int .u32 (t.h : Int), rv, .int .i64 (n : Int)]
/-- the hash in block b has had these bytes added -/
def IsHash (w : World) (b : Nat) (l : List Nat) : Prop := ∃ rv, Has w b (hashCells (Sha.eat Sha.init l) rv l.length) 67 ∧ IsBytes w rv (Sha.left l)
theorem IsBytes.only {w w' : World} {b : Nat} {v : Value} {l : List Nat} {cs : Array Value} (h : IsBytes w v l) (ho : Only b w w') (hb : Has w b cs 67) : IsBytes w' v l := by
  obtain ⟨sp, rfl, h⟩ := h
  refine ⟨sp, rfl, fun hp => ?_⟩
  obtain ⟨rb, cs', t, h1, h2, h3, h4, h5⟩ := h hp
  refine ⟨rb, cs', t, h1, h2.only ho ?_, h3, h4, h5⟩
  rintro rfl
  unfold Has at h2 hb
  rw [hb] at h2
  simp at h2
  exact h5 h2.2.symm
theorem IsBytes.below {w w' : World} {v : Value} {l : List Nat} (h : IsBytes w v l) (ho : Below w.heap.size w w') : IsBytes w' v l := by
  obtain ⟨sp, rfl, h⟩ := h
  refine ⟨sp, rfl, fun hp => ?_⟩
  obtain ⟨rb, cs', t, h1, h2, h3, h4, h5⟩ := h hp
  exact ⟨rb, cs', t, h1, h2.below ho h2.lt, h3, h4, h5⟩
theorem IsHash.lt {w : World} {b : Nat} {l : List Nat} (h : IsHash w b l) : b < w.heap.size := by obtain ⟨_, h, _⟩ := h; exact h.lt
theorem IsHash.below {w w' : World} {b : Nat} {l : List Nat} (h : IsHash w b l) (ho : Below w.heap.size w w') : IsHash w' b l := by
  obtain ⟨rv, h1, h2⟩ := h
  exact ⟨rv, h1.below ho h1.lt, h2.below ho⟩
theorem IsHash.only {w w' : World} {b k : Nat} {l m : List Nat} (h : IsHash w k l) (hb : IsHash w b m) (ho : Only b w w') (hne : k ≠ b) : IsHash w' k l := by
  obtain ⟨rv, h1, h2⟩ := h
  obtain ⟨_, h3, _⟩ := hb
  exact ⟨rv, h1.only ho hne, h2.only ho h3⟩
namespace Sha
/-- the digest of bytes -/
def digest (l : List Nat) : List Nat := tell (eat init (l ++ ending l.length))
end Sha
theorem new_any (w : World) (ht : Tabs w) : Calls Tryd.prog 21 #[] w fun e w' => e = .returned (.pointer (some ⟨w.heap.size, 0, none⟩)) ∧ IsHash w' w.heap.size [] ∧ Below w.heap.size w w' := by
  have k0 : w.cell? ⟨0, 0, none⟩ = some (.int .u32 1779033703) := ht.sq.cell 0
  have k1 : w.cell? ⟨0, 1, none⟩ = some (.int .u32 3144134277) := ht.sq.cell 1
  have k2 : w.cell? ⟨0, 2, none⟩ = some (.int .u32 1013904242) := ht.sq.cell 2
  have k3 : w.cell? ⟨0, 3, none⟩ = some (.int .u32 2773480762) := ht.sq.cell 3
  have k4 : w.cell? ⟨0, 4, none⟩ = some (.int .u32 1359893119) := ht.sq.cell 4
  have k5 : w.cell? ⟨0, 5, none⟩ = some (.int .u32 2600822924) := ht.sq.cell 5
  have k6 : w.cell? ⟨0, 6, none⟩ = some (.int .u32 528734635) := ht.sq.cell 6
  have k7 : w.cell? ⟨0, 7, none⟩ = some (.int .u32 1541459225) := ht.sq.cell 7
  go_enter Tryd.func21, Tryd.ntmps21
  go_wp2
  go_ret
  refine ⟨rfl, ⟨.slice none 0 0, Has.new w w.heap.size _ 67 rfl, ⟨none, rfl, fun h => by simp [Sha.left] at h⟩⟩, (Below.refl _ _).alloc (Nat.le_refl _) _⟩
end Go.Proofs.YtjhjolnflkekoaaDoor.S
