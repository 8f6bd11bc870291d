/- The document's Down, Rank and Turn. -/
import Derived.Test.YtjgjcbgeekfkkaaRDown
import Derived.Test.YtjgjcbgeekfkkaaRMay
import Derived.Test.YtjgjcbgeekfkkaaProg2
namespace Go.Proofs.Ytjgjcbgeekfkkaa
open Go.RowKit
theorem refDownC_any (v : Value) (m : List (List Nat)) (w : World) (h : Mat w v m) :
    Calls Try.prog 12 #[v] w fun e w' => ∃ r, e = .returned (.tuple #[r, .int .i64 (errD m)]) ∧ NewM w.heap.size w'.heap.size w' r (ansD m) ∧ Below w.heap.size w w' := by
  cases hm : mayM m with
  | false =>
    have e1 : Hid (errD m = 4 ∧ ansD m = []) := by unfold Hid errD ansD; rw [hm]; exact ⟨rfl, rfl⟩
    go_enter Try.func12, Try.ntmps12
    go_wp2_with fail
    refine (refMay_any v m w h).mono ?_
    rintro e w1 ⟨rfl, b1⟩
    rw [hm]
    go_wp2_with fail
    go_ret2
    exact ⟨_, by rw [e1.out.1]; rfl, by rw [e1.out.2]; exact NewM.nil _ _ _, b1⟩
  | true =>
    have e1 : Hid (errD m = 0 ∧ ansD m = rowsOf m.length (fun _ => (m.getD 0 []).length) (El.steps m.length (at2 m) (m.getD 0 []).length).1) := by unfold Hid errD ansD; rw [hm]; exact ⟨rfl, rfl⟩
    obtain ⟨f1, f2, f3, f4, f5⟩ := mayM_facts hm
    have hd : Hid (∀ W, Below w.heap.size w W → _) := fun W hb => refDown_any v m m.length (m.getD 0 []).length W (h.below hb) rfl (by omega) (by omega) (by omega) (by omega) f5
    go_enter Try.func12, Try.ntmps12
    go_wp2_with fail
    refine (refMay_any v m w h).mono ?_
    rintro e w1 ⟨rfl, b1⟩
    rw [hm]
    go_wp2_with fail
    refine (hd.out w1 b1).mono ?_
    rintro e w2 ⟨T, cap, rfl, _, hM, b2⟩
    have hM' := hM.base b1.size
    have HM := hid hM'
    clear hM hM'
    go_wp2_with fail
    go_ret2
    refine ⟨_, by rw [e1.out.1]; rfl, ?_, belowCall b1 b2⟩
    rw [e1.out.2]
    refine ⟨by rw [rowsOf_len]; omega, .inr ⟨_, _, fun _ => (m.getD 0 []).length, (El.steps m.length (at2 m) (m.getD 0 []).length).1, by rw [rowsOf_len]; rfl, by rw [rowsOf_len], ?_⟩⟩
    rw [rowsOf_len]
    exact HM.out
theorem refRank_any (v : Value) (m : List (List Nat)) (w : World) (h : Mat w v m) :
    Calls Try.prog 14 #[v] w fun e w' => e = .returned (.tuple #[.int .i64 ((ansK m : Nat) : Int), .int .i64 (errD m)]) ∧ Below w.heap.size w w' := by
  cases hm : mayM m with
  | false =>
    have e1 : Hid (errD m = 4 ∧ ansK m = 0) := by unfold Hid errD ansK; rw [hm]; exact ⟨rfl, rfl⟩
    go_enter Try.func14, Try.ntmps14
    go_wp2_with fail
    refine (refMay_any v m w h).mono ?_
    rintro e w1 ⟨rfl, b1⟩
    rw [hm]
    go_wp2_with fail
    go_ret2
    exact ⟨by rw [e1.out.1, e1.out.2]; rfl, b1⟩
  | true =>
    have e1 : Hid (errD m = 0 ∧ ansK m = (El.steps m.length (at2 m) (m.getD 0 []).length).2) := by unfold Hid errD ansK; rw [hm]; exact ⟨rfl, rfl⟩
    obtain ⟨f1, f2, f3, f4, f5⟩ := mayM_facts hm
    have hd : Hid (∀ W, Below w.heap.size w W → _) := fun W hb => refDown_any v m m.length (m.getD 0 []).length W (h.below hb) rfl (by omega) (by omega) (by omega) (by omega) f5
    go_enter Try.func14, Try.ntmps14
    go_wp2_with fail
    refine (refMay_any v m w h).mono ?_
    rintro e w1 ⟨rfl, b1⟩
    rw [hm]
    go_wp2_with fail
    refine (hd.out w1 b1).mono ?_
    rintro e w2 ⟨T, cap, rfl, _, hM, b2⟩
    clear hM
    go_wp2_with fail
    go_ret2
    exact ⟨by rw [e1.out.1, e1.out.2]; rfl, belowCall b1 b2⟩
end Go.Proofs.Ytjgjcbgeekfkkaa
