/- The examples. -/
import Derived.Test.YtfebelcdffknkaaWalks
namespace Go.Proofs.Ytfebelcdffknkaa
open Go.RowKit Go.Maps
open Pk
set_option linter.unusedVariables false
def nodupB : List (List Nat) → Bool
  | [] => true
  | x :: r => !r.contains x && nodupB r
theorem nodupB_iff : ∀ c : List (List Nat), nodupB c = true ↔ c.Nodup
  | [] => by simp [nodupB]
  | x :: r => by
    rw [nodupB, List.nodup_cons, Bool.and_eq_true, nodupB_iff r]
    simp
/-- may they be a pack? reckoned -/
def mayC (c : List (List Nat)) : Bool := decide (1 ≤ c.length ∧ c.length ≤ 4096) && (c.all fun x => decide (1 ≤ x.length ∧ x.length ≤ 16384)) && nodupB c && decide (c.length = 1 ∨ total c ≤ 4096)
theorem mayC_iff (c : List (List Nat)) : mayC c = true ↔ May c := by
  unfold mayC
  rw [Bool.and_eq_true, Bool.and_eq_true, Bool.and_eq_true, nodupB_iff, decide_eq_true_iff, decide_eq_true_iff, List.all_eq_true]
  constructor
  · rintro ⟨⟨⟨h1, h2⟩, h3⟩, h4⟩
    exact ⟨h1.1, h1.2, fun x hx => of_decide_eq_true (h2 x hx), h3, h4⟩
  · intro h
    exact ⟨⟨⟨⟨h.one, h.most⟩, fun x hx => decide_eq_true (h.each x hx)⟩, h.apart⟩, h.room⟩
theorem mayC_no {c : List (List Nat)} (h : mayC c = false) : ¬ May c := fun hm => by rw [(mayC_iff c).2 hm] at h; cases h
/-- are these bytes a pack's blob? reckoned -/
def okB (b : ByteArray) : Bool := mayC ((toldS b).map bs) && decide (blob ((toldS b).map bs) = bs b)
theorem okB_no {b : ByteArray} (h : okB b = false) : ∀ c, May c → bs b ≠ blob c := fun c hc e => by
  have h1 := told_blob hc e
  have : okB b = true := by
    unfold okB
    rw [h1, (mayC_iff c).2 hc, e]; simp
  rw [this] at h; cases h
theorem lit_tx (w : World) (l : List ByteArray) : Tx (w.alloc (.cells (sTx l) 9)) (some ⟨w.heap.size, 0, none⟩) l := has_tx (Has.new _ _ _ 9 rfl)
theorem lit_is (w : World) (z : List Nat) : Is (w.alloc (.cells (nIs z) 3)) (some ⟨w.heap.size, 0, none⟩) z := has_is (Has.new _ _ _ 3 rfl)
def xA : ByteArray := ⟨#[97]⟩
def xBC : ByteArray := ⟨#[98, 99]⟩
theorem mk1 (w : World) (A : Option Addr) (cap : Nat) (h : Tx w A [⟨#[97]⟩, ⟨#[98, 99]⟩]) :
    Calls Try.prog 9 #[.slice A 2 cap] w fun e w' => ∃ g, e = .returned (.tuple #[.string ⟨#[112, 97, 107, 49, 0, 2, 0, 1, 0, 2, 97, 98, 99]⟩, .slice (some ⟨g, 0, none⟩) 2 2, .int .i64 0]) ∧ Is w' (some ⟨g, 0, none⟩) [10, 11] ∧ Below w.heap.size w w' := by
  have hM : May ([(⟨#[97]⟩ : ByteArray), ⟨#[98, 99]⟩].map bs) := (mayC_iff _).1 (by decide +kernel)
  have h1 := make_yes _ A cap w h hM
  have e1 : ofBs (blob ([(⟨#[97]⟩ : ByteArray), ⟨#[98, 99]⟩].map bs)) = ⟨#[112, 97, 107, 49, 0, 2, 0, 1, 0, 2, 97, 98, 99]⟩ := by decide +kernel
  have e2 : at' ([(⟨#[97]⟩ : ByteArray), ⟨#[98, 99]⟩].map bs) = [10, 11] := by decide +kernel
  rw [e1, e2] at h1
  exact h1
theorem mk0 (w : World) : Calls Try.prog 9 #[.slice none 0 0] w fun e w' => e = .returned (.tuple #[.string ⟨#[]⟩, .slice none 0 0, .int .i64 4]) ∧ Below w.heap.size w w' :=
  make_no [] none 0 w (Tx.nil _ _) (by decide) (by decide +kernel) (mayC_no (by decide +kernel))
theorem mk2 (w : World) (A : Option Addr) (cap : Nat) (h : Tx w A [⟨#[97]⟩, ⟨#[97]⟩]) :
    Calls Try.prog 9 #[.slice A 2 cap] w fun e w' => e = .returned (.tuple #[.string ⟨#[]⟩, .slice none 0 0, .int .i64 4]) ∧ Below w.heap.size w w' :=
  make_no [⟨#[97]⟩, ⟨#[97]⟩] A cap w h (by decide) (by decide +kernel) (mayC_no (by decide +kernel))
theorem mk3 (w : World) (A : Option Addr) (cap : Nat) (h : Tx w A [⟨#[]⟩]) :
    Calls Try.prog 9 #[.slice A 1 cap] w fun e w' => e = .returned (.tuple #[.string ⟨#[]⟩, .slice none 0 0, .int .i64 4]) ∧ Below w.heap.size w w' :=
  make_no [⟨#[]⟩] A cap w h (by decide) (by decide +kernel) (mayC_no (by decide +kernel))
theorem rd0 (w : World) : Calls Try.prog 10 #[.string ⟨#[112, 97, 107, 49, 0, 0]⟩] w fun e w' => e = .returned (.tuple #[.slice none 0 0, .slice none 0 0, .int .i64 4]) ∧ Below w.heap.size w w' :=
  read_no _ (by decide) (okB_no (by decide +kernel)) w
set_option maxRecDepth 20000 in
set_option maxHeartbeats 4000000 in
theorem works_true (w : World) : Calls Try.prog 7 #[] w fun e w' => e = .returned (.bool true) ∧ Below w.heap.size w w' := by
  have ha := lit_tx w [⟨#[97]⟩, ⟨#[98, 99]⟩]
  have hb0 : Below w.heap.size w (w.alloc (.cells (sTx [⟨#[97]⟩, ⟨#[98, 99]⟩]) 9)) := (Below.refl _ _).alloc (Nat.le_refl _) _
  go_enter Try.func7, Try.ntmps7
  go_wp2_with fail
  refine (mk1 _ _ _ ha).mono ?_
  rintro e w1 ⟨g, rfl, i1, b1⟩
  have B1 := hid (hb0.trans (b1.mono hb0.size))
  have I1 := hid i1
  clear ha hb0 b1 i1
  go_wp2_with fail
  refine (mk0 _).mono ?_
  rintro e w2 ⟨rfl, b2⟩
  have B2 := hid (B1.out.trans (b2.mono B1.out.size))
  have I2 := hid (I1.out.below b2)
  clear b2 I1
  go_wp2_with fail
  refine (mk2 _ _ _ (lit_tx w2 [⟨#[97]⟩, ⟨#[97]⟩])).mono ?_
  rintro e w3 ⟨rfl, b3⟩
  have b3' : Below w2.heap.size w2 w3 := ((Below.refl _ _).alloc (Nat.le_refl _) _).trans (b3.mono (by simp))
  have B3 := hid (B2.out.trans (b3'.mono B2.out.size))
  have I3 := hid (I2.out.below b3')
  clear b3 b3' I2
  go_wp2_with fail
  refine (mk3 _ _ _ (lit_tx w3 [⟨#[]⟩])).mono ?_
  rintro e w4 ⟨rfl, b4⟩
  have b4' : Below w3.heap.size w3 w4 := ((Below.refl _ _).alloc (Nat.le_refl _) _).trans (b4.mono (by simp))
  have B4 := hid (B3.out.trans (b4'.mono B3.out.size))
  have I4 := hid (I3.out.below b4')
  clear b4 b4' I3
  go_wp2_with fail
  refine (rd0 _).mono ?_
  rintro e w5 ⟨rfl, b5⟩
  have B5 := hid (B4.out.trans (b5.mono B4.out.size))
  have I5 := hid (I4.out.below b5)
  clear b5 I4
  go_wp2_with fail
  refine (ints_any [10, 11] _ _ _ _ _ (I5.out.below ((Below.refl _ _).alloc (Nat.le_refl _) _)) (lit_is w5 [10, 11]) (by decide)).mono ?_
  rintro e w6 ⟨rfl, b6⟩
  have b6' : Below w5.heap.size w5 w6 := ((Below.refl _ _).alloc (Nat.le_refl _) _).trans (b6.mono (by simp))
  have B6 := hid (B5.out.trans (b6'.mono B5.out.size))
  clear b6 b6' I5
  go_wp2_with fail
  go_ret
  exact ⟨rfl, B6.out⟩
end Go.Proofs.Ytfebelcdffknkaa
