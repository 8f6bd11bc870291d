/- The laws' small functions: the same numbers, the same texts, more than is gone through, a byte so often. -/
import Derived.Test.YtjhjolnflkekoaaDoorSmall
namespace Go.Proofs.YtjhjolnflkekoaaDoor
open Go.RowKit
open Pk
set_option linter.unusedVariables false
theorem makes_u8 (n : Nat) (hn : n ≤ 1000000) (w : World) : (Instr.makeSlice 51 (.int .i64 (n : Int)) (.int .i64 (n : Int))).run Tryd.prog w = .ok (.slice (some ⟨w.heap.size, 0, none⟩) n n) (w.alloc (.cells (U8s (List.replicate n 0)) 5)) := by
  obtain ⟨i, hi, h1, h2, h3⟩ := info_parts (show (Tryd.prog.info? 5).map (fun i => (i.zero, i.size, i.bytes)) = some (some (.int .u8 0), 1, 1) by kernel_rfl)
  rw [run_make w 51 5 i (.int .u8 0) Tryd.underlying51 hi h1 .i64 .i64 (n : Int) (n : Int) (by omega) (Int.le_refl _) (by rw [h3]; omega) (by omega)]
  have e : madeCells (Value.int .u8 0).cells (n * 1) = U8s (List.replicate n 0) := by
    apply Array.toList_inj.1
    have hz : (Value.int .u8 0).cells = #[.int .u8 0] := rfl
    rw [hz, Nat.mul_one]
    apply List.ext_getElem
    · simp [madeCells, U8s]
    · intro k h1 h2
      simp [madeCells, U8s, Nat.mod_one]
  rw [h2, Int.toNat_natCast, e]
theorem conv_any {W : World} {q n : Nat} {l : List Nat} (h : Has W q (U8s l) 5) (hl : l.length = n) (h0 : 0 < n) : (convert 51 9 (.slice (some ⟨q, 0, none⟩) n n)).run Tryd.prog W = .ok (.string (ofBs l)) W := by
  subst hl
  exact conv_u8 h h0
theorem fill_set (k n b : Nat) (h : k < n) : (List.replicate k b ++ List.replicate (n - k) 0).set k b = List.replicate (k + 1) b ++ List.replicate (n - (k + 1)) 0 := by
  rw [List.set_append_right _ _ (by simp), List.length_replicate, Nat.sub_self, show n - k = (n - (k + 1)) + 1 by omega, List.replicate_succ, List.set_cons_zero, List.replicate_succ', List.append_assoc]
  rfl
/-- a byte so often -/
def rep (n b : Nat) : ByteArray := ofBs (List.replicate n b)
theorem rep_size (n b : Nat) : (rep n b).size = n := by unfold rep; rw [ofBs_size, List.length_replicate]
theorem rep_bs (n b : Nat) (hb : b < 256) : bs (rep n b) = List.replicate n b := bs_ofBs _ (fun x hx => by rw [List.eq_of_mem_replicate hx]; exact hb)
end Go.Proofs.YtjhjolnflkekoaaDoor

