/- The document's turn, digits and Hex: their contracts. -/
import Derived.Test.YtnepfllbfagfnaaDoorOwn
import Derived.Test.YtnepfllbfagfnaaDoorSWrit
import Derived.Test.YtnepfllbfagfnaaDoorHSum
import Derived.Deep.RegionHeld3
namespace Go.Proofs.YtnepfllbfagfnaaDoor
open Go.RowKit
/-- the document's turn -/
theorem refTurn_any (x : Nat) (n : Int) (w : World) (hx : x < 4294967296) (h1 : 1 ≤ n) (h2 : n ≤ 31) :
    Calls Tryd.prog 43 #[.int .u32 x, .int .u32 n] w fun e w' => e = .returned (.int .u32 (Sha.rotr x n.toNat : Nat)) ∧ w' = w := by
  obtain ⟨m, rfl⟩ := Int.eq_ofNat_of_zero_le (show 0 ≤ n by omega)
  go_enter Tryd.func43, Tryd.ntmps43
  go_wp2
  go_ret
  refine ⟨ret_int ?_, rfl⟩
  have e1 : ((x : Int) * 2 ^ (32 - m) % 4294967296) = ((x * 2 ^ (32 - m) % 4294967296 : Nat) : Int) := by simp
  have e2 : ((x : Int) / 2 ^ m) = ((x / 2 ^ m : Nat) : Int) := by simp
  rw [e1, e2, u32_or_nat _ _ (Nat.lt_of_le_of_lt (Nat.div_le_self _ _) hx) (Nat.mod_lt _ (by decide)), Int.toNat_natCast, Nat.or_comm]
  rfl
theorem conv_nil (w : World) : (convert 32 9 (.slice none 0 0)).run Tryd.prog w = .ok (.string ⟨#[]⟩) w := by kernel_rfl
theorem Owns.has {base g cap n : Nat} {l : List Nat} {w : World} (h : Owns 5 base (.slice (some ⟨g, 0, none⟩) n cap) (U8s l).toList w) : (loadCells ⟨g, 0, none⟩ l.length).run Tryd.prog w = .ok (U8s l) w := by
  have h2 := run_loadCells_list (P := Tryd.prog) w ⟨g, 0, none⟩ (U8s l).toList (fun j v hv => by
    have hj : j < (U8s l).toList.length := (List.getElem?_eq_some_iff.1 hv).1
    rw [Addr.add_mid, Nat.zero_add, h.cell j hj]; exact hv)
  rw [Array.length_toList, U8s_size] at h2
  rw [h2]
end Go.Proofs.YtnepfllbfagfnaaDoor
