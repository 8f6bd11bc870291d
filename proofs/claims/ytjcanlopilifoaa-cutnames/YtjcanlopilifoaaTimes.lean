/- A byte so often, as a text; the first example. -/
import Derived.Test.YtjcanlopilifoaaLaws
import Derived.Laws.BytesString
import Derived.Laws.Strings
namespace Go.Proofs.Ytjcanlopilifoaa
open Go.RowKit
open Gr
set_option linter.unusedVariables false
def U8s (b : List Nat) : Array Value := (b.map fun x : Nat => Value.int .u8 (x : Int)).toArray
theorem U8s_size (b : List Nat) : (U8s b).size = b.length := by simp [U8s]
theorem U8s_set (b : List Nat) (i x : Nat) : (U8s b).setIfInBounds i (.int .u8 (x : Int)) = U8s (b.set i x) := by
  simp [U8s, List.map_set]
theorem Try.info5 : (Try.prog.info? 5).map (fun i => (i.zero, i.size, i.bytes)) = some (some (.int .u8 0), 1, 1) := by kernel_rfl
theorem makes_u8 (n : Nat) (hn : n ≤ 1000000) (w : World) : (Instr.makeSlice 40 (.int .i64 (n : Int)) (.int .i64 (n : Int))).run Try.prog w = .ok (.slice (some ⟨w.heap.size, 0, none⟩) n n) (w.alloc (.cells (U8s (List.replicate n 0)) 5)) := by
  obtain ⟨i, hi, h1, h2, h3⟩ := info_parts Try.info5
  rw [run_make w 40 5 i (.int .u8 0) Try.underlying40 hi h1 .i64 .i64 (n : Int) (n : Int) (by omega) (Int.le_refl _) (by rw [h3]; omega) (by omega)]
  have e : madeCells (Value.int .u8 0).cells (n * 1) = U8s (List.replicate n 0) := by
    apply Array.toList_inj.1
    have hz : (Value.int .u8 0).cells = #[.int .u8 0] := rfl
    rw [hz, Nat.mul_one]
    apply List.ext_getElem
    · simp [madeCells, U8s]
    · intro k h1 h2
      simp [madeCells, U8s, Nat.mod_one]
  rw [h2, Int.toNat_natCast, e]
def ofBs (l : List Nat) : ByteArray := ⟨(l.map fun x => x.toUInt8).toArray⟩
theorem fold_push (l : List Nat) (acc : ByteArray) : (l.map fun x : Nat => (x : Int)).foldl (fun r n => r.push (UInt8.ofNat n.toNat)) acc = ⟨acc.data ++ (l.map fun x => x.toUInt8).toArray⟩ := by
  induction l generalizing acc with
  | nil => simp
  | cons x l ih =>
    simp only [List.map_cons, List.foldl_cons, ih, Int.toNat_natCast]
    have : (acc.push (UInt8.ofNat x)).data = acc.data.push (UInt8.ofNat x) := rfl
    rw [this]
    congr 1
    apply Array.toList_inj.1
    simp
theorem ofBs_size (l : List Nat) : (ofBs l).size = l.length := by
  show (l.map fun x => x.toUInt8).toArray.size = _
  simp
theorem bs_ofBs (l : List Nat) (h : ∀ x ∈ l, x < 256) : bs (ofBs l) = l := by
  unfold bs ofBs
  simp only [List.map_map]
  conv => rhs; rw [← List.map_id l]
  apply List.map_congr_left
  intro x hx
  have := h x hx
  show x % 256 = x
  omega
theorem conv_u8 {W : World} {q : Nat} {l : List Nat} (h : Has W q (U8s l) 5) (hl : 0 < l.length) : (convert 40 9 (.slice (some ⟨q, 0, none⟩) l.length l.length)).run Try.prog W = .ok (.string (ofBs l)) W := by
  have hld : (loadCells ⟨q, 0, none⟩ l.length).run Try.prog W = .ok ((l.map fun x : Nat => (x : Int)).map (Value.int .u8)).toArray W := by
    have h2 := run_loadCells_list (P := Try.prog) W ⟨q, 0, none⟩ (U8s l).toList (fun j v hv => by
      have e : (⟨q, 0, none⟩ : Addr).add j = ⟨q, j, none⟩ := by unfold Addr.add; split <;> simp_all
      rw [e, h.cell j, ← hv]
      simp)
    rw [Array.length_toList, U8s_size] at h2
    rw [h2]
    simp [U8s]
  rw [run_convert_bytes_string W 40 9 5 _ _ _ Try.underlying40 Try.underlying5 Try.underlying9, run_bytesToString W _ _ _ _ hld, fold_push]
  simp [ofBs]
theorem conv_nil {W : World} {q : Nat} : (convert 40 9 (.slice (some ⟨q, 0, none⟩) 0 0)).run Try.prog W = .ok (.string (ofBs [])) W := by
  have hld : (loadCells ⟨q, 0, none⟩ ([] : List Nat).length).run Try.prog W = .ok (([] : List Int).map (Value.int .u8)).toArray W := run_loadCells_list (P := Try.prog) W ⟨q, 0, none⟩ [] (by simp)
  rw [run_convert_bytes_string W 40 9 5 _ _ _ Try.underlying40 Try.underlying5 Try.underlying9]
  show (Conv.bytesToString (.slice (some ⟨q, 0, none⟩) ([] : List Nat).length 0)).run Try.prog W = _
  rw [run_bytesToString W _ _ _ _ hld]
  rfl
theorem conv_any {W : World} {q n : Nat} {l : List Nat} (h : Has W q (U8s l) 5) (hl : l.length = n) : (convert 40 9 (.slice (some ⟨q, 0, none⟩) n n)).run Try.prog W = .ok (.string (ofBs l)) W := by
  subst hl
  cases l with
  | nil => exact conv_nil
  | cons x r => exact conv_u8 h (by simp)
theorem fill_set (k n b : Nat) (h : k < n) : (List.replicate k b ++ List.replicate (n - k) 0).set k b = List.replicate (k + 1) b ++ List.replicate (n - (k + 1)) 0 := by
  rw [List.set_append_right _ _ (by simp), List.length_replicate, Nat.sub_self, show n - k = (n - (k + 1)) + 1 by omega, List.replicate_succ, List.set_cons_zero, List.replicate_succ', List.append_assoc]
  rfl
/-- a byte so often -/
def rep (n b : Nat) : ByteArray := ofBs (List.replicate n b)
theorem rep_size (n b : Nat) : (rep n b).size = n := by unfold rep; rw [ofBs_size, List.length_replicate]
theorem rep_bs (n b : Nat) (hb : b < 256) : bs (rep n b) = List.replicate n b := bs_ofBs _ (fun x hx => by rw [List.eq_of_mem_replicate hx]; exact hb)
theorem times_any (n b : Nat) (hn : n ≤ 100000) (w : World) : Calls Try.prog 14 #[.int .i64 (n : Int), .int .u8 (b : Int)] w fun e w' => e = .returned (.string (rep n b)) ∧ Below w.heap.size w w' := by
  have hmk := fun W => makes_u8 n (by omega) W
  go_enter Try.func14, Try.ntmps14
  go_wp2_with fail
  clear hmk
  go_loopw [6] (fun v6 wr => ∃ k : Nat, k ≤ n ∧ v6 = .int .i64 (k : Int) ∧ Has wr w.heap.size (U8s (List.replicate k b ++ List.replicate (n - k) 0)) 5 ∧ Below w.heap.size w wr) (fun v6 _ => n - (intOf v6).toNat)
  case atStart => exact ⟨0, Nat.zero_le _, rfl, by simpa using Has.new w w.heap.size _ 5 rfl, (Below.refl _ _).alloc (Nat.le_refl _) _⟩
  case round =>
    obtain ⟨k, hk, rfl, hh, hB⟩ := hrel
    by_cases hlt : k < n
    · have i1 : (k : Int) < (n : Int) := by omega
      have wk : IntKind.i64.wrap ((k : Int) + 1) = ((k + 1 : Nat) : Int) := by rw [IntKind.wrap_i64]; omega
      have c0 : wr.cell? ⟨w.heap.size, k, none⟩ = some (.int .u8 (((List.replicate k b ++ List.replicate (n - k) 0).getD k 0 : Nat) : Int)) := by
        rw [hh.cell k]
        have e : (List.replicate k b ++ List.replicate (n - k) 0).length = n := by simp; omega
        generalize List.replicate k b ++ List.replicate (n - k) 0 = l at *
        simp [U8s, List.getD_eq_getElem?_getD, List.getElem?_eq_getElem (show k < l.length by omega)]
      have f0 := hh.frozen k
      generalize (List.replicate k b ++ List.replicate (n - k) 0).getD k 0 = z at *
      have HH := hid (hh.set k (.int .u8 (b : Int)))
      rw [U8s_set, fill_set k n b hlt] at HH
      clear hh
      go_wp2_with fail
      go_roundw
      case rel => exact ⟨k + 1, by omega, by rfl, HH.out, hB.setCell (p := ⟨w.heap.size, k, none⟩) (Nat.le_refl _) _⟩
      case measure => first | (simp [intOf]; done) | (simp [intOf]; omega)
    · obtain rfl : k = n := by omega
      have q1 : ¬ ((k : Int) < (k : Int)) := by omega
      rw [Nat.sub_self, List.replicate_zero, List.append_nil] at hh
      have hcv := conv_any (n := k) hh (by simp)
      clear hh
      go_wp2_with fail
      go_ret
      exact ⟨rfl, hB⟩
end Go.Proofs.Ytjcanlopilifoaa
