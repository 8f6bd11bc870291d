/- A digest of one letter; a place. -/
import Derived.Test.YtknddbmnciodaaaGreatMk
import Derived.Test.YtknddbmnciodaaaGreatRet
import Derived.Laws.BytesString
import Derived.Laws.Strings
namespace Go.Proofs.YtknddbmnciodaaaGreat
open Go.RowKit
open Ix
set_option linter.unusedVariables false
def U8s (b : List Nat) : Array Value := (b.map fun x : Nat => Value.int .u8 (x : Int)).toArray
theorem U8s_size (b : List Nat) : (U8s b).size = b.length := by simp [U8s]
theorem U8s_set (b : List Nat) (i x : Nat) : (U8s b).setIfInBounds i (.int .u8 (x : Int)) = U8s (b.set i x) := by
  simp [U8s, List.map_set]
theorem info5z : (Tryz.prog.info? 5).map (fun i => (i.zero, i.size, i.bytes)) = some (some (.int .u8 0), 1, 1) := by kernel_rfl
theorem makes_u8 (n : Nat) (hn : n ≤ 1000000) (w : World) : (Instr.makeSlice 55 (.int .i64 (n : Int)) (.int .i64 (n : Int))).run Tryz.prog w = .ok (.slice (some ⟨w.heap.size, 0, none⟩) n n) (w.alloc (.cells (U8s (List.replicate n 0)) 5)) := by
  obtain ⟨i, hi, h1, h2, h3⟩ := info_parts info5z
  rw [run_make w 55 5 i (.int .u8 0) Tryz.underlying55 hi h1 .i64 .i64 (n : Int) (n : Int) (by omega) (Int.le_refl _) (by rw [h3]; omega) (by omega)]
  have e : madeCells (Value.int .u8 0).cells (n * 1) = U8s (List.replicate n 0) := by
    apply Array.toList_inj.1
    have hz : (Value.int .u8 0).cells = #[.int .u8 0] := rfl
    rw [hz, Nat.mul_one]
    apply List.ext_getElem
    · simp [madeCells, U8s]
    · intro k h1 h2
      simp [madeCells, U8s, Nat.mod_one]
  rw [h2, Int.toNat_natCast, e]
def ofBs (l : List Nat) : ByteArray := ⟨(l.map fun x => x.toUInt8).toArray⟩
theorem fold_push (l : List Nat) (acc : ByteArray) : (l.map fun x : Nat => (x : Int)).foldl (fun r n => r.push (UInt8.ofNat n.toNat)) acc = ⟨acc.data ++ (l.map fun x => x.toUInt8).toArray⟩ := by
  induction l generalizing acc with
  | nil => simp
  | cons x l ih =>
    simp only [List.map_cons, List.foldl_cons, ih, Int.toNat_natCast]
    have : (acc.push (UInt8.ofNat x)).data = acc.data.push (UInt8.ofNat x) := rfl
    rw [this]
    congr 1
    apply Array.toList_inj.1
    simp
theorem ofBs_size (l : List Nat) : (ofBs l).size = l.length := by
  show (l.map fun x => x.toUInt8).toArray.size = _
  simp
theorem conv_u8 {W : World} {q n : Nat} {l : List Nat} (h : Has W q (U8s l) 5) (hn : l.length = n) (hl : 0 < l.length) : (convert 55 9 (.slice (some ⟨q, 0, none⟩) n n)).run Tryz.prog W = .ok (.string (ofBs l)) W := by
  subst hn
  have hld : (loadCells ⟨q, 0, none⟩ l.length).run Tryz.prog W = .ok ((l.map fun x : Nat => (x : Int)).map (Value.int .u8)).toArray W := by
    have h2 := run_loadCells_list (P := Tryz.prog) W ⟨q, 0, none⟩ (U8s l).toList (fun j v hv => by
      have e : (⟨q, 0, none⟩ : Addr).add j = ⟨q, j, none⟩ := by unfold Addr.add; split <;> simp_all
      rw [e, h.cell j, ← hv]
      simp)
    rw [Array.length_toList, U8s_size] at h2
    rw [h2]
    simp [U8s]
  rw [run_convert_bytes_string W 55 9 5 _ _ _ Tryz.underlying55 Tryz.underlying5 Tryz.underlying9, run_bytesToString W _ _ _ _ hld, fold_push]
  simp [ofBs]
theorem fill_set (k n b : Nat) (h : k < n) : (List.replicate k b ++ List.replicate (n - k) 0).set k b = List.replicate (k + 1) b ++ List.replicate (n - (k + 1)) 0 := by
  rw [List.set_append_right _ _ (by simp), List.length_replicate, Nat.sub_self, show n - k = (n - (k + 1)) + 1 by omega, List.replicate_succ, List.set_cons_zero, List.replicate_succ', List.append_assoc]
  rfl
/-- a digest of one letter -/
def dS (b : Nat) : ByteArray := ofBs (List.replicate 32 b)
theorem dS_size (b : Nat) : (dS b).size = 32 := by unfold dS; rw [ofBs_size, List.length_replicate]
theorem d_any (b : Nat) (w : World) : Calls Tryz.prog 7 #[.int .u8 (b : Int)] w fun e w' => e = .returned (.string (dS b)) ∧ Below w.heap.size w w' := by
  obtain ⟨zs, hzs⟩ : ∃ zs, zs = U8s (List.replicate 32 0) := ⟨_, rfl⟩
  have hmk : ∀ W, (Instr.makeSlice 55 (.int .i64 32) (.int .i64 32)).run Tryz.prog W = .ok (.slice (some ⟨W.heap.size, 0, none⟩) 32 32) (W.alloc (.cells zs 5)) := fun W => by rw [hzs]; exact makes_u8 32 (by omega) W
  have HZS := hid hzs
  clear hzs
  go_enter Tryz.func7, Tryz.ntmps7
  go_wp2_with fail
  clear hmk
  go_loopw [4] (fun v4 wr => ∃ k : Nat, k ≤ 32 ∧ v4 = .int .i64 (k : Int) ∧ Has wr w.heap.size (U8s (List.replicate k b ++ List.replicate (32 - k) 0)) 5 ∧ Below w.heap.size w wr) (fun v4 _ => 32 - (intOf v4).toNat)
  case atStart => exact ⟨0, Nat.zero_le _, rfl, by rw [List.replicate_zero, List.nil_append, Nat.sub_zero, ← HZS.out]; exact Has.new w w.heap.size _ 5 rfl, (Below.refl _ _).alloc (Nat.le_refl _) _⟩
  case round =>
    obtain ⟨k, hk, rfl, hh, hB⟩ := hrel
    by_cases hlt : k < 32
    · have i1 : (k : Int) < 32 := by omega
      have wk : IntKind.i64.wrap ((k : Int) + 1) = ((k + 1 : Nat) : Int) := by rw [IntKind.wrap_i64]; omega
      have c0 : wr.cell? ⟨w.heap.size, k, none⟩ = some (.int .u8 (((List.replicate k b ++ List.replicate (32 - k) 0).getD k 0 : Nat) : Int)) := by
        rw [hh.cell k]
        have e : (List.replicate k b ++ List.replicate (32 - k) 0).length = 32 := by simp; omega
        generalize List.replicate k b ++ List.replicate (32 - k) 0 = l at *
        simp [U8s, List.getD_eq_getElem?_getD, List.getElem?_eq_getElem (show k < l.length by omega)]
      have f0 := hh.frozen k
      generalize (List.replicate k b ++ List.replicate (32 - k) 0).getD k 0 = z at *
      have HH := hid (hh.set k (.int .u8 (b : Int)))
      rw [U8s_set, fill_set k 32 b hlt] at HH
      clear hh
      go_wp2_with fail
      go_roundw
      case rel => exact ⟨k + 1, by omega, by rfl, HH.out, hB.setCell (p := ⟨w.heap.size, k, none⟩) (Nat.le_refl _) _⟩
      case measure => first | (simp [intOf]; done) | (simp [intOf]; omega)
    · obtain rfl : k = 32 := by omega
      rw [Nat.sub_self, List.replicate_zero, List.append_nil] at hh
      have hcv := conv_u8 (n := 32) hh (by simp) (by simp)
      clear hh
      go_wp2_with fail
      go_ret
      exact ⟨rfl, hB⟩
theorem at_any (b : Nat) (f m : Int) (w : World) : Calls Tryz.prog 6 #[.int .u8 (b : Int), .int .i64 f, .int .i64 m] w fun e w' => e = .returned (.agg (pl3 ⟨dS b, f, m⟩).toArray) ∧ Below w.heap.size w w' := by
  have hB1 : Below w.heap.size w (w.alloc (.cells #[.string ⟨#[]⟩, .int .i64 0, .int .i64 0] 24)) := (Below.refl _ w).alloc (Nat.le_refl _) _
  have n1 : Has (w.alloc (.cells #[.string ⟨#[]⟩, .int .i64 0, .int .i64 0] 24)) w.heap.size #[.string ⟨#[]⟩, .int .i64 0, .int .i64 0] 24 := Has.new _ _ _ _ rfl
  have C1 := d_any b (w.alloc (.cells #[.string ⟨#[]⟩, .int .i64 0, .int .i64 0] 24))
  go_enter Tryz.func6, Tryz.ntmps6
  go_wp2_with fail
  refine C1.mono ?_
  rintro e w1 ⟨rfl, b1⟩
  have hB2 := hB1.trans (b1.mono hB1.size)
  have n2 := n1.below b1 n1.lt
  have hb : w.heap.size < w1.heap.size := n2.lt
  clear n1 hB1 b1 C1
  have c0 : w1.cell? ⟨w.heap.size, 0, none⟩ = some (.string ⟨#[]⟩) := by rw [n2.cell]; rfl
  have c1 : w1.cell? ⟨w.heap.size, 1, none⟩ = some (.int .i64 0) := by rw [n2.cell]; rfl
  have c2 : w1.cell? ⟨w.heap.size, 2, none⟩ = some (.int .i64 0) := by rw [n2.cell]; rfl
  have g0 := n2.frozen 0
  have g1 := n2.frozen 1
  have g2 := n2.frozen 2

  have N := hid n2
  clear n2
  go_wp2_with fail
  exact ret_row (cs := #[.string (dS b), .int .i64 f, .int .i64 m]) Tryz.results6 rfl rfl (put3 N.out _ _ _) Tryz.underlying24 info37 ⟨rfl, below_put3 hB2 (Nat.le_refl _) _ _ _⟩
end Go.Proofs.YtknddbmnciodaaaGreat
