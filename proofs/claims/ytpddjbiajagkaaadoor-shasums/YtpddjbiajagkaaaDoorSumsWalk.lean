/- The walk of ShaSums: it answers yes for every text. -/
import Derived.Test.YtpddjbiajagkaaaDoorSums
import Derived.Test.YtpddjbiajagkaaaDoorSum
import Derived.Test.YtpddjbiajagkaaaDoorWorks
import Derived.Test.YtpddjbiajagkaaaDoorRefUnhex
namespace Go.Proofs.YtpddjbiajagkaaaDoor
open Go.RowKit
set_option maxRecDepth 20000 in
set_option maxHeartbeats 1000000 in
theorem sums_walk (w : World) (ht : Tabs w) (s : ByteArray) (hs : s.size ≤ 9223372036854775807) :
    Calls Tryd.prog 4 #[.string s] w fun e w' => e = .returned (.bool true) ∧ Below w.heap.size w w' := by
  go_enter Tryd.func4, Tryd.ntmps4
  by_cases hlong : 20000 < s.size
  · have q : (20000 : Int) < (s.size : Int) := by omega
    go_wp2_with fail
    go_ret
    exact ⟨rfl, Below.refl _ _⟩
  · have q : ¬ (20000 : Int) < (s.size : Int) := by omega
    go_wp2_with fail
    refine (unhex_any s (by omega) w).mono ?_
    rintro e w1 ⟨h1, b1⟩
    have ht1 := ht.below' b1
    rcases h1 with ⟨hh, rfl⟩ | ⟨hh, rfl⟩
    · go_wp2_with fail
      refine (refUnhex_any s (by omega) w1).mono ?_
      rintro e w2 ⟨h2, b2⟩
      have ht2 := ht1.below' b2
      have B2 := belowCall b1 b2
      obtain ⟨_, rfl⟩ : Sha.isHex (bs s) ∧ e = _ := by
        rcases h2 with h2 | h2
        · exact h2
        · exact absurd hh h2.1
      clear h2 b2 b1
      go_wp2_with fail
      refine (sum_any w2 ht2 s (by omega)).mono ?_
      rintro e w3 ⟨rfl, b3⟩
      have B3 := belowCall B2 b3
      go_wp2_with fail
      refine (refSum_any s (by omega) w3).mono ?_
      rintro e w4 ⟨rfl, b4⟩
      have B4 := belowCall B3 b4
      go_wp2_with fail
      refine (hex_any s (by omega) w4).mono ?_
      rintro e w5 ⟨rfl, b5⟩
      have B5 := belowCall B4 b5
      go_wp2_with fail
      refine (refHex_any s (by omega) w5).mono ?_
      rintro e w6 ⟨rfl, b6⟩
      have B6 := belowCall B5 b6
      go_wp2_with fail
      go_light
      go_ret
      exact ⟨rfl, B6⟩
    · go_wp2_with fail
      refine (refUnhex_any s (by omega) w1).mono ?_
      rintro e w2 ⟨h2, b2⟩
      have ht2 := ht1.below' b2
      have B2 := belowCall b1 b2
      obtain ⟨_, rfl⟩ : ¬ Sha.isHex (bs s) ∧ e = _ := by
        rcases h2 with h2 | h2
        · exact absurd h2.1 hh
        · exact h2
      clear h2 b2 b1
      go_wp2_with fail
      refine (sum_any w2 ht2 s (by omega)).mono ?_
      rintro e w3 ⟨rfl, b3⟩
      have B3 := belowCall B2 b3
      go_wp2_with fail
      refine (refSum_any s (by omega) w3).mono ?_
      rintro e w4 ⟨rfl, b4⟩
      have B4 := belowCall B3 b4
      go_wp2_with fail
      refine (hex_any s (by omega) w4).mono ?_
      rintro e w5 ⟨rfl, b5⟩
      have B5 := belowCall B4 b5
      go_wp2_with fail
      refine (refHex_any s (by omega) w5).mono ?_
      rintro e w6 ⟨rfl, b6⟩
      have B6 := belowCall B5 b6
      go_wp2_with fail
      go_light
      go_ret
      exact ⟨rfl, B6⟩
end Go.Proofs.YtpddjbiajagkaaaDoor
