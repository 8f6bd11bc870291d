/- The examples of code. -/
import Derived.Test.YtfbjpgcgdhhfnaaCDecs
import Derived.Deep.RegionHeld3
import Derived.Deep.RegionWith
namespace Go.Proofs.Ytfbjpgcgdhhfnaa
open Go.RowKit
theorem abc0 : payL 2 [97, 98, 99] 0 = [0, 0, 0, 0, 0, 0] := by decide +kernel
theorem abc1 : payL 2 [97, 98, 99] 1 = [0, 3, 97, 98, 99, 0] := by decide +kernel
theorem q0 : payL 1 [113] 0 = [0, 0, 0, 0, 0, 0, 0, 1, 113] := by decide +kernel
theorem ints_lit {w : World} {g : Nat} (zs : List Int) (h : Has w g (zs.map (Value.int .i64)).toArray 3) (hl : zs.length ≤ 1000000) (hz : ∀ z ∈ zs, -9223372036854775808 ≤ z ∧ z ≤ 9223372036854775807) : Ints64 w (.slice (some ⟨g, 0, none⟩) zs.length zs.length) zs := by
  refine ⟨⟨_, _, rfl, by omega, fun _ => ⟨g, 0, rfl, h.lt, fun j hj => ?_⟩⟩, fun j => ?_⟩
  · rw [Nat.zero_add, h.cell]
    simp [List.getD_eq_getElem?_getD, List.getElem?_eq_getElem hj]
  · rw [List.getD_eq_getElem?_getD]
    cases hj : zs[j]? with
    | none => simp
    | some x => exact hz x (List.mem_of_getElem? hj)
theorem strs_take {w : World} {g n k c : Nat} {f : Nat → List Nat} (h : Has w g (strTo n f n) 9) (hk : k ≤ n) (hn : n ≤ 1000000) (hf : ∀ i x, x ∈ f i → x < 256) : Strs w (.slice (some ⟨g, 0, none⟩) k c) ((List.range k).map f) := by
  refine ⟨_, c, by simp, by simp; omega, fun i x hx => ?_, fun _ => ⟨g, 0, rfl, h.lt, fun j hj => ?_⟩⟩
  · by_cases hi : i < k
    · simp [List.getD_eq_getElem?_getD, hi] at hx; exact hf i x hx
    · simp [List.getD_eq_getElem?_getD, hi] at hx
  · simp only [List.length_map, List.length_range] at hj
    rw [Nat.zero_add, h.cell, strTo_get _ _ _ _ (by omega), if_pos (by omega)]
    simp [List.getD_eq_getElem?_getD, hj]
set_option maxRecDepth 20000 in
set_option maxHeartbeats 4000000 in
theorem works_true (w : World) : Calls Try.prog 7 #[] w fun e w' => e = .returned (.bool true) ∧ Below w.heap.size w w' := by
  have bA : Below w.heap.size w (w.alloc (.cells #[.int .i64 2, .int .i64 3] 24)) := (Below.refl _ _).alloc (Nat.le_refl _) _
  have hbox : Has (w.alloc (.cells #[.int .i64 2, .int .i64 3] 24)) w.heap.size #[.int .i64 2, .int .i64 3] 24 := Has.new w w.heap.size _ 24 rfl
  have HE : Hid (∀ W : World, Calls Try.prog 9 #[.agg #[.int .i64 2, .int .i64 3], .string ⟨#[97, 98, 99]⟩] W fun e w' => ∃ T, e = .returned (.tuple #[.slice (some ⟨T, 0, none⟩) 3 3, .int .i64 0]) ∧ Has w' T (strTo 3 (payL 2 [97, 98, 99]) 3) 9 ∧ W.heap.size ≤ T ∧ Below W.heap.size W w') := fun W =>
    encode_ok 2 3 [97, 98, 99] W (by decide) (by decide) (by decide) (by decide) (by decide)
  have HS : Hid (∀ W : World, Calls Try.prog 8 #[.agg #[.int .i64 2, .int .i64 3], .int .i64 3] W fun e w' => e = .returned (.tuple #[.int .i64 6, .int .i64 0]) ∧ Below W.heap.size W w') := fun W => size_any 2 3 3 W
  go_enter Try.func7, Try.ntmps7
  go_wp2_with fail
  refine (HE.out _).mono ?_
  rintro e w1 ⟨T, rfl, hT, hTs, b1⟩
  have B1 := belowCall bA b1
  have hb1 := hbox.below b1 (by simp)
  have hbl1 := hb1.lt
  have c0 : w1.cell? ⟨w.heap.size, 0, none⟩ = some (.int .i64 2) := hb1.cell 0
  have c1 : w1.cell? ⟨w.heap.size, 1, none⟩ = some (.int .i64 3) := hb1.cell 1
  clear b1
  go_wp2_with fail
  refine (HS.out _).mono ?_
  rintro e w2 ⟨rfl, b2⟩
  have B2 := belowCall B1 b2
  have hb2 := hb1.below b2 hbl1
  have hbl2 := hb2.lt
  have hT2 := hT.below b2 hT.lt
  have t0 : w2.cell? ⟨T, 0, none⟩ = some (.string ⟨#[0, 0, 0, 0, 0, 0]⟩) := by
    rw [hT2.cell, strTo_get _ _ _ _ (by decide), if_pos (by decide), abc0]; rfl
  have t1 : w2.cell? ⟨T, 1, none⟩ = some (.string ⟨#[0, 3, 97, 98, 99, 0]⟩) := by
    rw [hT2.cell, strTo_get _ _ _ _ (by decide), if_pos (by decide), abc1]; rfl
  clear c0 c1 b2
  have c0 : w2.cell? ⟨w.heap.size, 0, none⟩ = some (.int .i64 2) := hb2.cell 0
  have c1 : w2.cell? ⟨w.heap.size, 1, none⟩ = some (.int .i64 3) := hb2.cell 1
  go_wp2_with fail
  have HDa : Hid (Calls Try.prog 10 #[.agg #[.int .i64 2, .int .i64 3], .slice (some ⟨w2.heap.size, 0, none⟩) 1 1, .slice (some ⟨T, 0, none⟩) 1 3] (w2.alloc (.cells #[.int .i64 0] 3)).drew fun e w' => ∃ s, e = .returned (.tuple #[.string (ofBs s), .int .i64 54]) ∧ Below w2.heap.size w2 w') := by
    have bB : Below w2.heap.size w2 (w2.alloc (.cells #[.int .i64 0] 3)).drew := ((Below.refl _ _).alloc (Nat.le_refl _) _).drew
    refine (decode_any 2 3 _ _ [0] ((List.range 1).map (payL 2 [97, 98, 99])) _ (ints_lit [0] (Has.new w2 _ _ 3 rfl).drew (by decide) (by decide)) (strs_take (hT2.below bB hT2.lt) (by decide) (by decide) (payL_lt 2 _))).mono ?_
    rintro e w' ⟨s, er, rfl, hd, hb⟩
    obtain ⟨rfl, rfl⟩ := hd.one (s' := []) (er' := 54) (.inr (.inl ⟨⟨by decide, by decide, by decide⟩, by decide, rfl, rfl⟩))
    exact ⟨_, rfl, bB.trans (hb.mono (by simp))⟩
  go_region_with (go_at_call 10; refine HDa.out.mono ?_; rintro e w3 ⟨s3, rfl, b3⟩)
  all_goals
    have B3 := belowCall B2 b3
    have hb3 := hb2.below b3 hbl2
    have hbl3 := hb3.lt
    have hT3 := hT2.below b3 hT2.lt
    have c0 : w3.cell? ⟨w.heap.size, 0, none⟩ = some (.int .i64 2) := hb3.cell 0
    have c1 : w3.cell? ⟨w.heap.size, 1, none⟩ = some (.int .i64 3) := hb3.cell 1
    have HDb : Hid (Calls Try.prog 10 #[.agg #[.int .i64 2, .int .i64 3], .slice (some ⟨w3.heap.size, 0, none⟩) 2 2, .slice (some ⟨T, 0, none⟩) 2 3] (w3.alloc (.cells #[.int .i64 0, .int .i64 0] 3)).drew fun e w' => ∃ s, e = .returned (.tuple #[.string (ofBs s), .int .i64 1]) ∧ Below w3.heap.size w3 w') := by
      have bB : Below w3.heap.size w3 (w3.alloc (.cells #[.int .i64 0, .int .i64 0] 3)).drew := ((Below.refl _ _).alloc (Nat.le_refl _) _).drew
      refine (decode_any 2 3 _ _ [0, 0] ((List.range 2).map (payL 2 [97, 98, 99])) _ (ints_lit [0, 0] (Has.new w3 _ _ 3 rfl).drew (by decide) (by decide)) (strs_take (hT3.below bB hT3.lt) (by decide) (by decide) (payL_lt 2 _))).mono ?_
      rintro e w' ⟨s, er, rfl, hd, hb⟩
      obtain ⟨rfl, rfl⟩ := hd.one (s' := []) (er' := 1) (.inl ⟨fun h => absurd h.2.2 (by decide), rfl, rfl⟩)
      exact ⟨_, rfl, bB.trans (hb.mono (by simp))⟩
    clear HDa b3
    go_wp2_with fail
    go_region_with (go_at_call 10; refine HDb.out.mono ?_; rintro e w4 ⟨s4, rfl, b4⟩)
  all_goals
    have B4 := belowCall B3 b4
    have HEq : Hid (∀ W : World, Calls Try.prog 9 #[.agg #[.int .i64 1, .int .i64 1], .string ⟨#[113]⟩] W fun e w' => ∃ T, e = .returned (.tuple #[.slice (some ⟨T, 0, none⟩) 1 1, .int .i64 0]) ∧ Has w' T (strTo 1 (payL 1 [113]) 1) 9 ∧ W.heap.size ≤ T ∧ Below W.heap.size W w') := fun W =>
      encode_ok 1 1 [113] W (by decide) (by decide) (by decide) (by decide) (by decide)
    clear HDb b4
    go_wp2_with fail
    refine (HEq.out _).mono ?_
    rintro e w5 ⟨T5, rfl, hT5, _, b5⟩
    have B5 := belowCall B4 b5
    have t5 : w5.cell? ⟨T5, 0, none⟩ = some (.string ⟨#[0, 0, 0, 0, 0, 0, 0, 1, 113]⟩) := by
      rw [hT5.cell, strTo_get _ _ _ _ (by decide), if_pos (by decide), q0]; rfl
    clear b5
    go_wp2_with fail
    go_ret
    exact ⟨rfl, B5⟩
end Go.Proofs.Ytfbjpgcgdhhfnaa
