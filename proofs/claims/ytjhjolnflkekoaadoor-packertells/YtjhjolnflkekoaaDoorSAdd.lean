/- Hashes in memory; the contracts of New, Len, and of what a nil hash answers. -/
import Derived.Test.YtjhjolnflkekoaaDoorSFeed
import Derived.Test.YtjhjolnflkekoaaDoorSTell
import Derived.Deep.RegionWith
namespace Go.Proofs.YtjhjolnflkekoaaDoor.S
open Go.RowKit
/-- all blocks of w but b stand in w' as they stood -/
structure Only (b : Nat) (w w' : World) : Prop where
  os : w'.os = w.os
  tape : w'.tape = w.tape
  output : w'.output = w.output
  size : w.heap.size ≤ w'.heap.size
  block : ∀ k, k < w.heap.size → k ≠ b → w'.heap[k]? = w.heap[k]?
theorem Only.below {b B : Nat} {w w' : World} (h : Only b w w') (hB : B ≤ b) (hw : B ≤ w.heap.size) : Below B w w' :=
  ⟨h.os, h.tape, h.output, h.size, fun k hk => h.block k (by omega) (by omega)⟩
theorem Only.of_below {b : Nat} {w w' : World} (h : Below w.heap.size w w') : Only b w w' :=
  ⟨h.os, h.tape, h.output, h.size, fun k hk _ => h.block k hk⟩
theorem Only.refl (b : Nat) (w : World) : Only b w w := ⟨rfl, rfl, rfl, Nat.le_refl _, fun _ _ _ => rfl⟩
theorem Only.trans {b : Nat} {x y z : World} (h : Only b x y) (k : Only b y z) : Only b x z :=
  ⟨k.os.trans h.os, k.tape.trans h.tape, k.output.trans h.output, Nat.le_trans h.size k.size, fun i hi hne => (k.block i (Nat.lt_of_lt_of_le hi h.size) hne).trans (h.block i hi hne)⟩
theorem Only.drew {b : Nat} {w w' : World} (h : Only b w w') : Only b w w'.drew := ⟨h.os, h.tape, h.output, h.size, h.block⟩
theorem Only.setCell {b : Nat} {w w' : World} (h : Only b w w') (i : Nat) (v : Value) : Only b w (w'.setCell ⟨b, i, none⟩ v) :=
  h.trans ⟨rfl, rfl, rfl, by simp, fun k _ hne => Below.heap_setCell _ _ _ _ hne⟩
theorem Has.only {w w' : World} {b k : Nat} {cs : Array Value} {t : TypeId} (h : Has w k cs t) (ho : Only b w w') (hne : k ≠ b) : Has w' k cs t := by
  have hl := h.lt
  unfold Has at h ⊢; rw [ho.block k hl hne]; exact h
theorem HasC.only {w w' : World} {b k : Nat} {cs : Array Value} (h : HasC w k cs) (ho : Only b w w') (hne : k ≠ b) : HasC w' k cs := by
  have hl := h.lt
  obtain ⟨t, fr, h⟩ := h
  exact ⟨t, fr, by rw [ho.block k hl hne]; exact h⟩
theorem Tabs.only {w w' : World} {b : Nat} (h : Tabs w) (ho : Only b w w') (hb : 1 < b) : Tabs w' := ⟨h.sq.only ho (by omega), h.cu.only ho (by omega)⟩
/-- a hash's cells -/
def hashCells (t : Sha.S8) (rv : Value) (n : Nat) : Array Value := #[.int .u32 (t.a : Int), .int .u32 (t.b : Int), .int .u32 (t.c : Int), .int .u32 (t.d : Int), .int .u32 (t.e : Int), .int .u32 (t.f : Int), .int .u32 (t.g : Int), .int .u32 (t.h : Int), rv, .int .i64 (n : Int)]
/-- the hash in block b has had these bytes added -/
def IsHash (w : World) (b : Nat) (l : List Nat) : Prop := ∃ rv, Has w b (hashCells (Sha.eat Sha.init l) rv l.length) 67 ∧ IsBytes w rv (Sha.left l)
theorem IsBytes.only {w w' : World} {b : Nat} {v : Value} {l : List Nat} {cs : Array Value} (h : IsBytes w v l) (ho : Only b w w') (hb : Has w b cs 67) : IsBytes w' v l := by
  obtain ⟨sp, rfl, h⟩ := h
  refine ⟨sp, rfl, fun hp => ?_⟩
  obtain ⟨rb, cs', t, h1, h2, h3, h4, h5⟩ := h hp
  refine ⟨rb, cs', t, h1, h2.only ho ?_, h3, h4, h5⟩
  rintro rfl
  unfold Has at h2 hb
  rw [hb] at h2
  simp at h2
  exact h5 h2.2.symm
theorem IsBytes.below {w w' : World} {v : Value} {l : List Nat} (h : IsBytes w v l) (ho : Below w.heap.size w w') : IsBytes w' v l := by
  obtain ⟨sp, rfl, h⟩ := h
  refine ⟨sp, rfl, fun hp => ?_⟩
  obtain ⟨rb, cs', t, h1, h2, h3, h4, h5⟩ := h hp
  exact ⟨rb, cs', t, h1, h2.below ho h2.lt, h3, h4, h5⟩
theorem IsHash.lt {w : World} {b : Nat} {l : List Nat} (h : IsHash w b l) : b < w.heap.size := by obtain ⟨_, h, _⟩ := h; exact h.lt
theorem IsHash.below {w w' : World} {b : Nat} {l : List Nat} (h : IsHash w b l) (ho : Below w.heap.size w w') : IsHash w' b l := by
  obtain ⟨rv, h1, h2⟩ := h
  exact ⟨rv, h1.below ho h1.lt, h2.below ho⟩
theorem IsHash.only {w w' : World} {b k : Nat} {l m : List Nat} (h : IsHash w k l) (hb : IsHash w b m) (ho : Only b w w') (hne : k ≠ b) : IsHash w' k l := by
  obtain ⟨rv, h1, h2⟩ := h
  obtain ⟨_, h3, _⟩ := hb
  exact ⟨rv, h1.only ho hne, h2.only ho h3⟩
namespace Sha
/-- the digest of bytes -/
def digest (l : List Nat) : List Nat := tell (eat init (l ++ ending l.length))
end Sha
theorem new_any (w : World) (ht : Tabs w) : Calls Tryd.prog 21 #[] w fun e w' => e = .returned (.pointer (some ⟨w.heap.size, 0, none⟩)) ∧ IsHash w' w.heap.size [] ∧ Below w.heap.size w w' := by
  have k0 : w.cell? ⟨0, 0, none⟩ = some (.int .u32 1779033703) := ht.sq.cell 0
  have k1 : w.cell? ⟨0, 1, none⟩ = some (.int .u32 3144134277) := ht.sq.cell 1
  have k2 : w.cell? ⟨0, 2, none⟩ = some (.int .u32 1013904242) := ht.sq.cell 2
  have k3 : w.cell? ⟨0, 3, none⟩ = some (.int .u32 2773480762) := ht.sq.cell 3
  have k4 : w.cell? ⟨0, 4, none⟩ = some (.int .u32 1359893119) := ht.sq.cell 4
  have k5 : w.cell? ⟨0, 5, none⟩ = some (.int .u32 2600822924) := ht.sq.cell 5
  have k6 : w.cell? ⟨0, 6, none⟩ = some (.int .u32 528734635) := ht.sq.cell 6
  have k7 : w.cell? ⟨0, 7, none⟩ = some (.int .u32 1541459225) := ht.sq.cell 7
  go_enter Tryd.func21, Tryd.ntmps21
  go_wp2
  go_ret
  refine ⟨rfl, ⟨.slice none 0 0, Has.new w w.heap.size _ 67 rfl, ⟨none, rfl, fun h => by simp [Sha.left] at h⟩⟩, (Below.refl _ _).alloc (Nat.le_refl _) _⟩
end Go.Proofs.YtjhjolnflkekoaaDoor.S
/- The contract of Add: the bytes are added; of what was there nothing but the hash changes. -/
namespace Go.Proofs.YtjhjolnflkekoaaDoor.S
open Go.RowKit
theorem feed_lit (s : Sha.S8) (hs : s.ok) (rv : Value) (l : List Nat) (hl : l.length < 64) (hlb : ∀ x ∈ l, x < 256) (str : ByteArray) (hstr : str.size ≤ 1000000000000) (w : World) (ht : Tabs w) (hv : IsBytes w rv l) :
    Calls Tryd.prog 33 #[.agg #[.int .u32 (s.a : Int), .int .u32 (s.b : Int), .int .u32 (s.c : Int), .int .u32 (s.d : Int), .int .u32 (s.e : Int), .int .u32 (s.f : Int), .int .u32 (s.g : Int), .int .u32 (s.h : Int)], rv, .string str] w fun e w' => ∃ (nb : Nat) (cs : List Nat) (m : Sha.S8) (k : Nat),
      e = .returned (.tuple #[.agg #[.int .u32 (m.a : Int), .int .u32 (m.b : Int), .int .u32 (m.c : Int), .int .u32 (m.d : Int), .int .u32 (m.e : Int), .int .u32 (m.f : Int), .int .u32 (m.g : Int), .int .u32 (m.h : Int)], .slice (some ⟨nb, 0, none⟩) k k]) ∧ Hid (m = Sha.eat s (l ++ bs str)) ∧ Hid (k = (Sha.left (l ++ bs str)).length)
      ∧ w.heap.size ≤ nb ∧ Has w' nb (U8s cs) 76 ∧ Hid (k ≤ cs.length) ∧ Hid (cs.take k = Sha.left (l ++ bs str)) ∧ Below w.heap.size w w' := by
  refine (feed_any s hs rv l hl hlb str hstr w ht hv).mono ?_
  rintro e w' ⟨nb, cs, rfl, h1, h2, h3, h4, h5⟩
  exact ⟨nb, cs, _, _, rfl, rfl, rfl, h1, h2, h3, h4, h5⟩
theorem Has.eqv {w : World} {b : Nat} {cs cs' : Array Value} {t : TypeId} (h : Has w b cs t) (e : cs = cs') : Has w b cs' t := e ▸ h
set_option maxRecDepth 20000 in
set_option maxHeartbeats 1000000 in
theorem add_any (w : World) (ht : Tabs w) (b : Nat) (l : List Nat) (hlb : ∀ x ∈ l, x < 256) (h : IsHash w b l) (s : ByteArray) (hs : l.length + s.size ≤ 1000000000000) :
    Calls Tryd.prog 22 #[.pointer (some ⟨b, 0, none⟩), .string s] w fun e w' => e = .returned (.int .i64 0) ∧ IsHash w' b (l ++ bs s) ∧ Only b w w' := by
  obtain ⟨rv, h1, h2⟩ := h
  have hfe : Hid (∀ W, Tabs W → IsBytes W rv (Sha.left l) → _) := fun W hT hv => feed_lit (Sha.eat Sha.init l) (Sha.eat_ok _ _ Sha.init_ok) rv (Sha.left l) (by rw [Sha.left_length]; omega) (Sha.left_lt _ hlb) s (by omega) W hT hv
  have hea : Hid (Sha.eat (Sha.eat Sha.init l) (Sha.left l ++ bs s) = Sha.eat Sha.init (l ++ bs s)) := Sha.eat_app _ _ _
  have hle : Hid (Sha.left (Sha.left l ++ bs s) = Sha.left (l ++ bs s)) := Sha.left_app _ _
  have c0 : w.cell? ⟨b, 0, none⟩ = some (.int .u32 ((Sha.eat Sha.init l).a : Int)) := h1.cell 0
  have c1 : w.cell? ⟨b, 1, none⟩ = some (.int .u32 ((Sha.eat Sha.init l).b : Int)) := h1.cell 1
  have c2 : w.cell? ⟨b, 2, none⟩ = some (.int .u32 ((Sha.eat Sha.init l).c : Int)) := h1.cell 2
  have c3 : w.cell? ⟨b, 3, none⟩ = some (.int .u32 ((Sha.eat Sha.init l).d : Int)) := h1.cell 3
  have c4 : w.cell? ⟨b, 4, none⟩ = some (.int .u32 ((Sha.eat Sha.init l).e : Int)) := h1.cell 4
  have c5 : w.cell? ⟨b, 5, none⟩ = some (.int .u32 ((Sha.eat Sha.init l).f : Int)) := h1.cell 5
  have c6 : w.cell? ⟨b, 6, none⟩ = some (.int .u32 ((Sha.eat Sha.init l).g : Int)) := h1.cell 6
  have c7 : w.cell? ⟨b, 7, none⟩ = some (.int .u32 ((Sha.eat Sha.init l).h : Int)) := h1.cell 7
  have c8 : w.cell? ⟨b, 8, none⟩ = some rv := h1.cell 8
  have c9 : w.cell? ⟨b, 9, none⟩ = some (.int .i64 (l.length : Int)) := h1.cell 9
  generalize Sha.eat Sha.init l = t at *
  go_enter Tryd.func22, Tryd.ntmps22
  go_wp2
  go_region_with (go_at_call 33; refine (hfe.out _ (by exact ⟨ht.sq, ht.cu⟩) (by exact h2)).mono ?_; rintro e w1 ⟨nb, cs, m, k, rfl, hm, hk, hnb, hnh, hkc, hck, hbl⟩; have q : Has w1 b _ 67 := h1.drew.below hbl h1.drew.lt; have d0 : w1.cell? ⟨b, 0, none⟩ = some (.int .u32 (t.a : Int)) := q.cell 0; have d1 : w1.cell? ⟨b, 1, none⟩ = some (.int .u32 (t.b : Int)) := q.cell 1; have d2 : w1.cell? ⟨b, 2, none⟩ = some (.int .u32 (t.c : Int)) := q.cell 2; have d3 : w1.cell? ⟨b, 3, none⟩ = some (.int .u32 (t.d : Int)) := q.cell 3; have d4 : w1.cell? ⟨b, 4, none⟩ = some (.int .u32 (t.e : Int)) := q.cell 4; have d5 : w1.cell? ⟨b, 5, none⟩ = some (.int .u32 (t.f : Int)) := q.cell 5; have d6 : w1.cell? ⟨b, 6, none⟩ = some (.int .u32 (t.g : Int)) := q.cell 6; have d7 : w1.cell? ⟨b, 7, none⟩ = some (.int .u32 (t.h : Int)) := q.cell 7; have d8 : w1.cell? ⟨b, 8, none⟩ = some rv := q.cell 8; have d9 : w1.cell? ⟨b, 9, none⟩ = some (.int .i64 (l.length : Int)) := q.cell 9; have f0 := q.frozen 0; have f1 := q.frozen 1; have f2 := q.frozen 2; have f3 := q.frozen 3; have f4 := q.frozen 4; have f5 := q.frozen 5; have f6 := q.frozen 6; have f7 := q.frozen 7; have f8 := q.frozen 8; have f9 := q.frozen 9)
  all_goals go_wp2
  all_goals go_light
  all_goals go_ret
  all_goals
    have hbw : b < w.heap.size := h1.lt
    have hnb' : w.heap.size ≤ nb := hnb
    have hm' : m = Sha.eat Sha.init (l ++ bs s) := hm.out.trans hea.out
    have hk' : k = (Sha.left (l ++ bs s)).length := by rw [hk.out, hle.out]
    have hck' : cs.take k = Sha.left (l ++ bs s) := by rw [hck.out, hle.out]
    refine ⟨rfl, ⟨.slice (some ⟨nb, 0, none⟩) k k, Has.eqv ((((((((((q.set 0 _).set 1 _).set 2 _).set 3 _).set 4 _).set 5 _).set 6 _).set 7 _).set 8 _).set 9 _) ?_, ⟨some ⟨nb, 0, none⟩, by rw [hk'], fun _ => ⟨nb, cs, 76, rfl, ?_, by rw [← hk']; exact hkc.out, by rw [← hk']; exact hck', by decide⟩⟩⟩, ?_⟩
    · rw [← hm', List.length_append, bs_length]
      simp [hashCells]
    · iterate 10 refine Has.other ?_ _ _ (show nb ≠ b by omega)
      exact hnh
    · iterate 10 apply Only.setCell
      exact Only.of_below (w := w) ⟨hbl.os, hbl.tape, hbl.output, hbl.size, hbl.block⟩
end Go.Proofs.YtjhjolnflkekoaaDoor.S
