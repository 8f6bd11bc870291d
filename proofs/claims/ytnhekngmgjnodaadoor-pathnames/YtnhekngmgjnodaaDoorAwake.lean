/- The examples. -/
import Derived.Test.YtnhekngmgjnodaaDoorRTree
namespace Go.Proofs.YtnhekngmgjnodaaDoor
open Go.RowKit
open Pa
set_option linter.unusedVariables false
def tA : ByteArray := ⟨#[97]⟩
def tB : ByteArray := ⟨#[98, 46, 99]⟩
def tAB : ByteArray := ⟨#[97, 47, 98]⟩
def tABC : ByteArray := ⟨#[97, 47, 98, 46, 99]⟩
def tAS : ByteArray := ⟨#[97, 47]⟩
def fA : Fl := ⟨tA, true, ⟨#[]⟩⟩
def fB : Fl := ⟨tAB, false, ⟨#[]⟩⟩
def fC : Fl := ⟨tA, false, ⟨#[]⟩⟩
theorem steps_abc : stepsB tABC = [tA, tB] := by decide +kernel
theorem abv_abc : abU tABC = tA ∧ abB tABC = true := by decide +kernel
theorem abv_a : abU tA = ⟨#[]⟩ ∧ abB tA = false := by decide +kernel
theorem kids_ab : kidsF [fA, fB] tA = [1] := by decide +kernel
theorem may_abc : mayB tABC = true := by decide +kernel
theorem may_as : mayB tAS = false := by decide +kernel
theorem tree_ab : treeP [fA, fB] = true := by decide +kernel
theorem tree_b : treeP [fB] = false := by decide +kernel
theorem tree_cb : treeP [fC, fB] = false := by decide +kernel
theorem small_of (l : List Fl) (h : longB l = false) : Small l := long_small h
theorem sm1 : Small [fA, fB] := long_small (by decide +kernel)
theorem sm2 : Small [fB] := long_small (by decide +kernel)
theorem sm3 : Small [fC, fB] := long_small (by decide +kernel)
set_option maxRecDepth 20000 in
set_option maxHeartbeats 16000000 in
theorem awake_any (w : World) : Calls Tryd.prog 7 #[] w fun e w' => e = .returned (.bool true) ∧ Below w.heap.size w w' := by
  go_enter Tryd.func7, Tryd.ntmps7
  go_wp2_with fail
  refine (steps_any tABC (by decide) w).mono ?_
  rintro e w1 ⟨v, rfl, hown, b1⟩
  rw [steps_abc] at hown
  obtain ⟨A, c, hv, _, hT⟩ := row_tx hown
  obtain rfl : v = .slice A 2 c := hv
  have HT := hid hT.2
  have B1 := hid b1
  clear hown hT b1
  go_wp2_with fail
  refine (above_any tABC w1 (by decide)).mono ?_
  rw [abv_abc.1, abv_abc.2]
  rintro e w2 ⟨rfl, b2⟩
  have HT2 := hid (HT.out.below b2)
  have B2 := hid (B1.out.trans (b2.mono B1.out.size))
  clear b2 HT B1
  unfold tA
  go_wp2_with fail
  refine (above_any tA w2 (by decide)).mono ?_
  rw [abv_a.1, abv_a.2]
  rintro e w3 ⟨rfl, b3⟩
  have HT3 := hid (HT2.out.below b3)
  have B3 := hid (B2.out.trans (b3.mono B2.out.size))
  clear b3 HT2 B2
  go_wp2_with fail
  have n4 := Has.new w3 w3.heap.size #[.string ⟨#[97]⟩, .bool true, .string ⟨#[]⟩, .string ⟨#[97, 47, 98]⟩, .bool false, .string ⟨#[]⟩] 38 rfl
  have F4 : Fs _ (some ⟨w3.heap.size, 0, none⟩) [fA, fB] := has_fs (l := [fA, fB]) n4
  have a4 : Below w3.heap.size w3 _ := (Below.refl _ w3).alloc (Nat.le_refl _) (.cells #[.string ⟨#[97]⟩, .bool true, .string ⟨#[]⟩, .string ⟨#[97, 47, 98]⟩, .bool false, .string ⟨#[]⟩] 38)
  refine (kids_any [fA, fB] (some ⟨w3.heap.size, 0, none⟩) 2 tA sm1 _ F4).mono ?_
  rw [kids_ab]
  rintro e w4 ⟨v, rfl, hown, b4⟩
  obtain ⟨B, c', hv, _, hI⟩ := row_is hown
  obtain rfl : v = .slice B 1 c' := hv
  have HI4 := hid hI
  have HT4 := hid ((HT3.out.below a4).below b4)
  have B4 := hid ((B3.out.trans (a4.mono B3.out.size)).trans (b4.mono (Nat.le_trans B3.out.size a4.size)))
  clear b4 a4 n4 F4 hown hI HT3 B3
  go_wp2_with fail
  refine (may_any tABC w4 (by decide)).mono ?_
  rw [may_abc]
  rintro e w5 ⟨rfl, b5⟩
  have HI5 := hid (HI4.out.below b5)
  have B5 := hid (B4.out.trans (b5.mono B4.out.size))
  obtain ⟨g, o, rfl, _, hc⟩ := tx_cell HT4.out b5 (show 1 < 2 by decide)
  have hc1 : w5.cell? ⟨g, o + 1, none⟩ = some (.string ⟨#[98, 46, 99]⟩) := hc
  clear hc b5 HI4 B4 HT4
  go_wp2_with fail
  have n6 := Has.new w5 w5.heap.size #[.string ⟨#[97]⟩, .bool true, .string ⟨#[]⟩, .string ⟨#[97, 47, 98]⟩, .bool false, .string ⟨#[]⟩] 38 rfl
  have F6 : Fs _ (some ⟨w5.heap.size, 0, none⟩) [fA, fB] := has_fs (l := [fA, fB]) n6
  have a6 : Below w5.heap.size w5 _ := (Below.refl _ w5).alloc (Nat.le_refl _) (.cells #[.string ⟨#[97]⟩, .bool true, .string ⟨#[]⟩, .string ⟨#[97, 47, 98]⟩, .bool false, .string ⟨#[]⟩] 38)
  refine (tree_any [fA, fB] (some ⟨w5.heap.size, 0, none⟩) 2 sm1 _ F6).mono ?_
  rw [tree_ab]
  rintro e w6 ⟨rfl, b6⟩
  have HI6 := hid ((HI5.out.below a6).below b6)
  have B6 := hid ((B5.out.trans (a6.mono B5.out.size)).trans (b6.mono (Nat.le_trans B5.out.size a6.size)))
  clear b6 a6 n6 F6 HI5 B5
  clear hc1
  go_wp2_with fail
  have n7 := Has.new w6 w6.heap.size #[.string ⟨#[97, 47, 98]⟩, .bool false, .string ⟨#[]⟩] 38 rfl
  have F7 : Fs _ (some ⟨w6.heap.size, 0, none⟩) [fB] := has_fs (l := [fB]) n7
  have a7 : Below w6.heap.size w6 _ := (Below.refl _ w6).alloc (Nat.le_refl _) (.cells #[.string ⟨#[97, 47, 98]⟩, .bool false, .string ⟨#[]⟩] 38)
  refine (tree_any [fB] (some ⟨w6.heap.size, 0, none⟩) 1 sm2 _ F7).mono ?_
  rw [tree_b]
  rintro e w7 ⟨rfl, b7⟩
  have HI7 := hid ((HI6.out.below a7).below b7)
  have B7 := hid ((B6.out.trans (a7.mono B6.out.size)).trans (b7.mono (Nat.le_trans B6.out.size a7.size)))
  clear b7 a7 n7 F7 HI6 B6
  go_wp2_with fail
  have n8 := Has.new w7 w7.heap.size #[.string ⟨#[97]⟩, .bool false, .string ⟨#[]⟩, .string ⟨#[97, 47, 98]⟩, .bool false, .string ⟨#[]⟩] 38 rfl
  have F8 : Fs _ (some ⟨w7.heap.size, 0, none⟩) [fC, fB] := has_fs (l := [fC, fB]) n8
  have a8 : Below w7.heap.size w7 _ := (Below.refl _ w7).alloc (Nat.le_refl _) (.cells #[.string ⟨#[97]⟩, .bool false, .string ⟨#[]⟩, .string ⟨#[97, 47, 98]⟩, .bool false, .string ⟨#[]⟩] 38)
  refine (tree_any [fC, fB] (some ⟨w7.heap.size, 0, none⟩) 2 sm3 _ F8).mono ?_
  rw [tree_cb]
  rintro e w8 ⟨rfl, b8⟩
  have HI8 := hid ((HI7.out.below a8).below b8)
  have B8 := hid ((B7.out.trans (a8.mono B7.out.size)).trans (b8.mono (Nat.le_trans B7.out.size a8.size)))
  clear b8 a8 n8 F8 HI7 B7
  obtain ⟨g2, o2, rfl, _, hd⟩ := is_cell HI8.out (Below.refl _ _) (show 0 < 1 by decide)
  have hd1 : w8.cell? ⟨g2, o2, none⟩ = some (.int .i64 1) := hd
  clear hd
  go_wp2_with fail
  refine (may_any tAS w8 (by decide)).mono ?_
  rw [may_as]
  rintro e w9 ⟨rfl, b9⟩
  have B9 := hid (B8.out.trans (b9.mono B8.out.size))
  clear b9 hd1
  go_wp2_with fail
  go_ret
  exact ⟨rfl, B9.out⟩
end Go.Proofs.YtnhekngmgjnodaaDoor
