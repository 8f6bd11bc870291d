/- The program's world: what is asked of a store, counted. -/
import Derived.Test.YtgdiaflikfdnaaaW2
namespace Go.Proofs.Ytgdiaflikfdnaaa
open Go.RowKit Go.Maps
variable {w w' w1 w2 : World} {S : Nat → Prop} {b g : Nat} {W W' : Wd}

set_option maxHeartbeats 2000000 in
set_option maxRecDepth 20000 in
theorem ask54_any (h : IsWd w S b g W) (hc : W.calls ≤ 1000000) (hl : W.left < 9223372036854775808) (i : Int) (B : Nat) (Q : Ending → World → Prop)
    (h1 : ¬ (0 ≤ i ∧ i < (W.l.length : Int)) → Q (.returned (.tuple #[.string ⟨#[]⟩, .int .i64 1])) w)
    (h2 : 0 ≤ i ∧ i < (W.l.length : Int) → (countW W).dark = true → ∀ w1, AfterW w w1 S b g (countW W) → Q (.returned (.tuple #[.string ⟨#[]⟩, .int .i64 56])) w1)
    (hf : 0 ≤ i ∧ i < (W.l.length : Int) → (countW W).dark = false → ∀ w1, AfterW w w1 S b g (countW W) → Calls Try.prog 25 #[.pointer (some ⟨g, i.toNat * 2, none⟩), .pointer (some ⟨B, 0, none⟩)] w1 fun e w' => ∃ (d : ByteArray) (z : Int), e = .returned (.tuple #[.string d, .int .i64 z]) ∧ Q e w') :
    Calls Try.prog 24 #[ptr b, .int .i64 i, .func (.func 25) #[] #[.pointer (some ⟨B, 0, none⟩)]] w Q := by
  have HA := at_any h i
  have HC := count_any h hc hl
  unfold placeV at HA
  by_cases h0 : 0 ≤ i ∧ i < (W.l.length : Int)
  · rw [if_pos h0] at HA
    have HF := hid (hf h0)
    have H2 := hid (h2 h0)
    unfold ptr at *
    clear h hf h1 h2 h0 hc hl
    go_enter Try.func24, Try.ntmps24
    go_wp2_with fail
    refine HA.mono ?_
    clear HA
    rintro x w1 ⟨rfl, rfl⟩
    go_wp2_with fail
    refine HC.mono ?_
    clear HC
    rintro x w2 ⟨rfl, ha⟩
    have HA2 := hid ha
    obtain ⟨S2, hi2, _, _⟩ := ha
    obtain ⟨cap, ⟨c0, c1, c2, c3, c4⟩, _, _⟩ := hi2.cells
    clear hi2 c0 c1 c3 c4
    cases hd : (countW W).dark with
    | true =>
      rw [hd] at c2
      have HQ := hid (H2.out hd w2 HA2.out)
      clear hd H2 HF
      go_wp2_with fail
      exact HQ.out
    | false =>
      rw [hd] at c2
      have HFF := HF.out hd w2 HA2.out
      clear hd HF H2
      go_wp2_with fail
      refine HFF.mono ?_
      clear HFF
      rintro x w3 ⟨d, z, rfl, hq⟩
      have HQ := hid hq
      clear hq
      go_wp2_with fail
      exact HQ.out
  · rw [if_neg h0] at HA
    have H1 := hid (h1 h0)
    clear h hf HC h0 h1 h2
    unfold ptr at *
    go_enter Try.func24, Try.ntmps24
    go_wp2_with fail
    refine HA.mono ?_
    clear HA
    rintro x w1 ⟨rfl, rfl⟩
    go_wp2_with fail
    exact H1.out
end Go.Proofs.Ytgdiaflikfdnaaa
