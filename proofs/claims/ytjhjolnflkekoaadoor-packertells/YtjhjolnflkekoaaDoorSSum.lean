/- The contract of a hash's Sum: the digest of all that was added; of what was there nothing changes. -/
import Derived.Test.YtjhjolnflkekoaaDoorSAdd
import Derived.Deep.RegionHeld3
namespace Go.Proofs.YtjhjolnflkekoaaDoor.S
open Go.RowKit
theorem belowCall {w W W' : World} (h : Below w.heap.size w W) (hb : Below W.heap.size W W') : Below w.heap.size w W' := h.trans (hb.mono h.size)
theorem belowAlloc {w W : World} (h : Below w.heap.size w W) (o : Obj) : Below w.heap.size w (W.alloc o) := h.alloc h.size o
theorem belowSet {w W : World} (h : Below w.heap.size w W) (k i : Nat) (v : Value) (hk : w.heap.size ≤ k) : Below w.heap.size w (W.setCell ⟨k, i, none⟩ v) := h.setCell hk v
theorem Tabs.below' {w W : World} (h : Tabs w) (hb : Below w.heap.size w W) : Tabs W := ⟨h.sq.below hb h.sq.lt, h.cu.below hb h.cu.lt⟩
theorem hashAll {w : World} {b : Nat} {t : Sha.S8} {rv : Value} {n : Nat} {W : World} (h : Has w b (hashCells t rv n) 67) (hb : Below w.heap.size w W) :
    Below w.heap.size w W ∧ W.cell? ⟨b, 0, none⟩ = some (.int .u32 (t.a : Int)) ∧ W.cell? ⟨b, 1, none⟩ = some (.int .u32 (t.b : Int)) ∧ W.cell? ⟨b, 2, none⟩ = some (.int .u32 (t.c : Int)) ∧ W.cell? ⟨b, 3, none⟩ = some (.int .u32 (t.d : Int)) ∧ W.cell? ⟨b, 4, none⟩ = some (.int .u32 (t.e : Int)) ∧ W.cell? ⟨b, 5, none⟩ = some (.int .u32 (t.f : Int)) ∧ W.cell? ⟨b, 6, none⟩ = some (.int .u32 (t.g : Int)) ∧ W.cell? ⟨b, 7, none⟩ = some (.int .u32 (t.h : Int)) ∧ W.cell? ⟨b, 8, none⟩ = some rv ∧ W.cell? ⟨b, 9, none⟩ = some (.int .i64 (n : Int)) := by
  have h := h.below hb h.lt
  exact ⟨hb, h.cell 0, h.cell 1, h.cell 2, h.cell 3, h.cell 4, h.cell 5, h.cell 6, h.cell 7, h.cell 8, h.cell 9⟩
set_option maxRecDepth 20000 in
set_option maxHeartbeats 1000000 in
theorem hashSum_any (w : World) (ht : Tabs w) (b : Nat) (l : List Nat) (hlb : ∀ x ∈ l, x < 256) (h : IsHash w b l) (hs : l.length ≤ 900000000000) :
    Calls Tryd.prog 23 #[.pointer (some ⟨b, 0, none⟩)] w fun e w' => e = .returned (.string (ofBs (Sha.digest l))) ∧ Below w.heap.size w w' := by
  obtain ⟨rv, h1, h2⟩ := h
  have hlen : (ofBs (Sha.ending l.length)).size ≤ 1000000000000 := by
    rw [ofBs_size]; simp [Sha.ending, Sha.be8]; have := Sha.noughts_lt l.length; omega
  have hfe : Hid (∀ W, Tabs W → IsBytes W rv (Sha.left l) → _) := fun W hT hv => feed_lit (Sha.eat Sha.init l) (Sha.eat_ok _ _ Sha.init_ok) rv (Sha.left l) (by rw [Sha.left_length]; omega) (Sha.left_lt _ hlb) (ofBs (Sha.ending l.length)) hlen W hT hv
  have hen : Hid (∀ W, _) := fun W => ending_any l.length (by omega) W
  have hdi : Hid (∀ m, m = Sha.eat (Sha.eat Sha.init l) (Sha.left l ++ bs (ofBs (Sha.ending l.length))) → Sha.tell m = Sha.digest l ∧ m.ok) := by
    intro m hm
    rw [bs_ofBs _ (Sha.ending_lt _), Sha.eat_app] at hm
    subst hm
    exact ⟨rfl, Sha.eat_ok _ _ Sha.init_ok⟩
  clear hlen
  generalize Sha.eat Sha.init l = t at *
  go_enter Tryd.func23, Tryd.ntmps23
  go_wp2
  go_region_held3 (fun W => Below w.heap.size w W ∧ W.cell? ⟨b, 0, none⟩ = some (.int .u32 (t.a : Int)) ∧ W.cell? ⟨b, 1, none⟩ = some (.int .u32 (t.b : Int)) ∧ W.cell? ⟨b, 2, none⟩ = some (.int .u32 (t.c : Int)) ∧ W.cell? ⟨b, 3, none⟩ = some (.int .u32 (t.d : Int)) ∧ W.cell? ⟨b, 4, none⟩ = some (.int .u32 (t.e : Int)) ∧ W.cell? ⟨b, 5, none⟩ = some (.int .u32 (t.f : Int)) ∧ W.cell? ⟨b, 6, none⟩ = some (.int .u32 (t.g : Int)) ∧ W.cell? ⟨b, 7, none⟩ = some (.int .u32 (t.h : Int)) ∧ W.cell? ⟨b, 8, none⟩ = some rv ∧ W.cell? ⟨b, 9, none⟩ = some (.int .i64 (l.length : Int))) ((refine hashAll h1 ?_; first | (iterate 8 (refine belowSet ?_ _ _ _ (by omega))); exact hB2 | exact Below.drew (Below.refl _ _) | exact hB1 | exact hB2 | exact belowAlloc hB2 _ | exact belowAlloc hB1 _ | exact Below.drew (belowAlloc (Below.refl _ _) _))) (first
    | (go_at_call 34; refine (hen.out _).mono ?_; rintro e w1 ⟨rfl, hb1⟩; have hB1 : Below w.heap.size w w1 := belowCall (And.left (by assumption)) hb1; have hz1 := hB1.size; try (have qd := fun i => hb1.cell (p := ⟨w.heap.size, i, none⟩) (by simp); have qf := fun i => hb1.frozen (p := ⟨w.heap.size, i, none⟩) (by simp); have d0 := qd 0; simp at d0; have f0 := qf 0; simp at f0; have d1 := qd 1; simp at d1; have f1 := qf 1; simp at f1; have d2 := qd 2; simp at d2; have f2 := qf 2; simp at f2; have d3 := qd 3; simp at d3; have f3 := qf 3; simp at f3; have d4 := qd 4; simp at d4; have f4 := qf 4; simp at f4; have d5 := qd 5; simp at d5; have f5 := qf 5; simp at f5; have d6 := qd 6; simp at d6; have f6 := qf 6; simp at f6; have d7 := qd 7; simp at d7; have f7 := qf 7; simp at f7; clear qd qf; have hq : w.heap.size < w1.heap.size := (by have := hb1.size; simp at this; omega)))
    | (go_at_call 33; refine (hfe.out _ (ht.below' (And.left (by assumption))) (h2.below (And.left (by assumption)))).mono ?_; rintro e w2 ⟨nb, cs, m, k, rfl, hm, hk, hnb, hnh, hkc, hck, hb2⟩; have hB2 : Below w.heap.size w w2 := belowCall (And.left (by assumption)) hb2; have hz2 := hB2.size; try (first | (have e0 := (hb2.cell (p := ⟨w.heap.size, 0, none⟩) hq).trans d0; have g0 := (hb2.frozen (p := ⟨w.heap.size, 0, none⟩) hq).trans f0; have e1 := (hb2.cell (p := ⟨w.heap.size, 1, none⟩) hq).trans d1; have g1 := (hb2.frozen (p := ⟨w.heap.size, 1, none⟩) hq).trans f1; have e2 := (hb2.cell (p := ⟨w.heap.size, 2, none⟩) hq).trans d2; have g2 := (hb2.frozen (p := ⟨w.heap.size, 2, none⟩) hq).trans f2; have e3 := (hb2.cell (p := ⟨w.heap.size, 3, none⟩) hq).trans d3; have g3 := (hb2.frozen (p := ⟨w.heap.size, 3, none⟩) hq).trans f3; have e4 := (hb2.cell (p := ⟨w.heap.size, 4, none⟩) hq).trans d4; have g4 := (hb2.frozen (p := ⟨w.heap.size, 4, none⟩) hq).trans f4; have e5 := (hb2.cell (p := ⟨w.heap.size, 5, none⟩) hq).trans d5; have g5 := (hb2.frozen (p := ⟨w.heap.size, 5, none⟩) hq).trans f5; have e6 := (hb2.cell (p := ⟨w.heap.size, 6, none⟩) hq).trans d6; have g6 := (hb2.frozen (p := ⟨w.heap.size, 6, none⟩) hq).trans f6; have e7 := (hb2.cell (p := ⟨w.heap.size, 7, none⟩) hq).trans d7; have g7 := (hb2.frozen (p := ⟨w.heap.size, 7, none⟩) hq).trans f7) | (have qd := fun i => hb2.cell (p := ⟨w1.heap.size, i, none⟩) (by simp); have qf := fun i => hb2.frozen (p := ⟨w1.heap.size, i, none⟩) (by simp); have d0 := qd 0; simp at d0; have f0 := qf 0; simp at f0; have d1 := qd 1; simp at d1; have f1 := qf 1; simp at f1; have d2 := qd 2; simp at d2; have f2 := qf 2; simp at f2; have d3 := qd 3; simp at d3; have f3 := qf 3; simp at f3; have d4 := qd 4; simp at d4; have f4 := qf 4; simp at f4; have d5 := qd 5; simp at d5; have f5 := qf 5; simp at f5; have d6 := qd 6; simp at d6; have f6 := qf 6; simp at f6; have d7 := qd 7; simp at d7; have f7 := qf 7; simp at f7; clear qd qf))))
  all_goals
    have hm2 := hdi.out m hm.out
    have hmk := hm2.2
    have Hd : Hid (Sha.tell m = Sha.digest l) := hm2.1
    clear hm2
    have hT : Hid (∀ W, _) := fun W => tellNumbers_any m hmk W
    go_wp2_with (go_at_call 35; refine (hT.out _).mono ?_; rintro e w3 ⟨rfl, hb3⟩)
    go_light
    go_ret
    refine ⟨by show Ending.returned (.string (ofBs (Sha.tell m))) = _; rw [Hd.out], ?_⟩
    exact belowCall (And.left (by assumption)) hb3
end Go.Proofs.YtjhjolnflkekoaaDoor.S
/- The contracts of Sum of bytes, and of a nil hash's Sum. -/
namespace Go.Proofs.YtjhjolnflkekoaaDoor.S
open Go.RowKit
theorem sum_any (w : World) (ht : Tabs w) (s : ByteArray) (hs : s.size ≤ 900000000000) : Calls Tryd.prog 14 #[.string s] w fun e w' => e = .returned (.string (ofBs (Sha.digest (bs s)))) ∧ Below w.heap.size w w' := by
  go_enter Tryd.func14, Tryd.ntmps14
  go_wp2_with fail
  refine (new_any w ht).mono ?_
  rintro e w1 ⟨rfl, h1, b1⟩
  go_wp2_with fail
  refine (add_any w1 (ht.below' b1) w.heap.size [] (by simp) h1 s (by simp; omega)).mono ?_
  rintro e w2 ⟨rfl, h2, o2⟩
  have hlt := ht.cu.lt
  have hlt1 := h1.lt
  rw [List.nil_append] at h2
  go_wp2_with fail
  refine (hashSum_any w2 ((ht.below' b1).only o2 hlt) w.heap.size (bs s) (bs_lt s) h2 (by rw [bs_length]; omega)).mono ?_
  rintro e w3 ⟨rfl, b3⟩
  go_wp2_with fail
  go_ret
  exact ⟨rfl, belowCall (b1.trans (o2.below (Nat.le_refl _) (by omega))) b3⟩
end Go.Proofs.YtjhjolnflkekoaaDoor.S
