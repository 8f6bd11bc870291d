/- The document's Down, Rank and Turn. -/
import Derived.Test.YtfbjpgcgdhhfnaaRDown
import Derived.Test.YtfbjpgcgdhhfnaaRMay
import Derived.Test.YtfbjpgcgdhhfnaaProg2
namespace Go.Proofs.Ytfbjpgcgdhhfnaa
open Go.RowKit
theorem refRank_any (v : Value) (m : List (List Nat)) (w : World) (h : Mat w v m) :
    Calls Try.prog 41 #[v] w fun e w' => e = .returned (.tuple #[.int .i64 ((ansK m : Nat) : Int), .int .i64 (errD m)]) ∧ Below w.heap.size w w' := by
  cases hm : mayM m with
  | false =>
    have e1 : Hid (errD m = 4 ∧ ansK m = 0) := by unfold Hid errD ansK; rw [hm]; exact ⟨rfl, rfl⟩
    go_enter Try.func41, Try.ntmps41
    go_wp2_with fail
    refine (refMay_any v m w h).mono ?_
    rintro e w1 ⟨rfl, b1⟩
    rw [hm]
    go_wp2_with fail
    go_ret2
    exact ⟨by rw [e1.out.1, e1.out.2]; rfl, b1⟩
  | true =>
    have e1 : Hid (errD m = 0 ∧ ansK m = (El.steps m.length (at2 m) (m.getD 0 []).length).2) := by unfold Hid errD ansK; rw [hm]; exact ⟨rfl, rfl⟩
    obtain ⟨f1, f2, f3, f4, f5⟩ := mayM_facts hm
    have hd : Hid (∀ W, Below w.heap.size w W → _) := fun W hb => refDown_any v m m.length (m.getD 0 []).length W (h.below hb) rfl (by omega) (by omega) (by omega) (by omega) f5
    go_enter Try.func41, Try.ntmps41
    go_wp2_with fail
    refine (refMay_any v m w h).mono ?_
    rintro e w1 ⟨rfl, b1⟩
    rw [hm]
    go_wp2_with fail
    refine (hd.out w1 b1).mono ?_
    rintro e w2 ⟨T, cap, rfl, _, hM, b2⟩
    clear hM
    go_wp2_with fail
    go_ret2
    exact ⟨by rw [e1.out.1, e1.out.2]; rfl, belowCall b1 b2⟩
end Go.Proofs.Ytfbjpgcgdhhfnaa
