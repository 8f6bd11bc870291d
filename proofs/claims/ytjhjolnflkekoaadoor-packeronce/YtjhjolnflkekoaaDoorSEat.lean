/- Plain facts on what is eaten block by block: in pieces as at once. No program in it. -/
import Derived.Test.YtjhjolnflkekoaaDoorSMath
namespace Go.Proofs.YtjhjolnflkekoaaDoor.S
namespace Sha
theorem eat_step (s : S8) (l : List Nat) (h : 64 ≤ l.length) : eat s l = eat (mix s (l.take 64)) (l.drop 64) := by
  unfold eat
  rw [List.length_drop, show l.length / 64 = (l.length - 64) / 64 + 1 by omega]
  rfl
theorem left_step (l : List Nat) (h : 64 ≤ l.length) : left l = left (l.drop 64) := by
  unfold left
  rw [List.length_drop, List.drop_drop, show 64 + 64 * ((l.length - 64) / 64) = 64 * (l.length / 64) by omega]
theorem eat_short (s : S8) (l : List Nat) (h : l.length < 64) : eat s l = s := by
  unfold eat
  rw [show l.length / 64 = 0 by omega]
  rfl
theorem left_short (l : List Nat) (h : l.length < 64) : left l = l := by
  unfold left
  rw [show 64 * (l.length / 64) = 0 by omega]
  rfl
theorem left_length (l : List Nat) : (left l).length = l.length % 64 := by
  unfold left
  rw [List.length_drop]; omega
theorem left_lt (l : List Nat) (h : ∀ x ∈ l, x < 256) : ∀ x ∈ left l, x < 256 := fun x hx => h x (List.mem_of_mem_drop hx)
/-- eaten in two pieces as at once -/
theorem eat_two : ∀ (n : Nat) (s : S8) (l m : List Nat), l.length ≤ n → eat (eat s l) (left l ++ m) = eat s (l ++ m) ∧ left (left l ++ m) = left (l ++ m)
  | n, s, l, m, hn => by
    by_cases h : l.length < 64
    · rw [eat_short _ _ h, left_short _ h]; exact ⟨rfl, rfl⟩
    · match n, hn with
      | 0, hn => omega
      | n + 1, hn =>
        have ih := eat_two n (mix s (l.take 64)) (l.drop 64) m (by rw [List.length_drop]; omega)
        have e1 : (l ++ m).take 64 = l.take 64 := by rw [List.take_append_of_le_length (by omega)]
        have e2 : (l ++ m).drop 64 = l.drop 64 ++ m := by rw [List.drop_append_of_le_length (by omega)]
        rw [eat_step s l (by omega), left_step l (by omega), eat_step s (l ++ m) (by simp; omega), left_step (l ++ m) (by simp; omega), e1, e2]
        exact ih
theorem eat_app (s : S8) (l m : List Nat) : eat (eat s l) (left l ++ m) = eat s (l ++ m) := (eat_two _ s l m (Nat.le_refl _)).1
theorem left_app (l m : List Nat) : left (left l ++ m) = left (l ++ m) := (eat_two _ init l m (Nat.le_refl _)).2
theorem init_ok : init.ok := by unfold S8.ok init; decide
end Sha
end Go.Proofs.YtjhjolnflkekoaaDoor.S
