/- The contracts of Sum of bytes, and of a nil hash's Sum. -/
import Derived.Test.YtjhjolnflkekoaaDoorSHSum
namespace Go.Proofs.YtjhjolnflkekoaaDoor.S
open Go.RowKit
theorem sum_any (w : World) (ht : Tabs w) (s : ByteArray) (hs : s.size ≤ 900000000000) : Calls Tryd.prog 14 #[.string s] w fun e w' => e = .returned (.string (ofBs (Sha.digest (bs s)))) ∧ Below w.heap.size w w' := by
  go_enter Tryd.func14, Tryd.ntmps14
  go_wp2_with fail
  refine (new_any w ht).mono ?_
  rintro e w1 ⟨rfl, h1, b1⟩
  go_wp2_with fail
  refine (add_any w1 (ht.below' b1) w.heap.size [] (by simp) h1 s (by simp; omega)).mono ?_
  rintro e w2 ⟨rfl, h2, o2⟩
  have hlt := ht.cu.lt
  have hlt1 := h1.lt
  rw [List.nil_append] at h2
  go_wp2_with fail
  refine (hashSum_any w2 ((ht.below' b1).only o2 hlt) w.heap.size (bs s) (bs_lt s) h2 (by rw [bs_length]; omega)).mono ?_
  rintro e w3 ⟨rfl, b3⟩
  go_wp2_with fail
  go_ret
  exact ⟨rfl, belowCall (b1.trans (o2.below (Nat.le_refl _) (by omega))) b3⟩
end Go.Proofs.YtjhjolnflkekoaaDoor.S
