/- The contract of many: a byte, so often. -/
import Derived.Test.YtnhakbpalfcmfaaDoorSum
import Derived.Test.YtnhakbpalfcmfaaDoorUnhex
import Derived.Laws.MakeOwn
import Derived.Laws.BytesString
namespace Go.Proofs.YtnhakbpalfcmfaaDoor
open Go.RowKit
theorem fold_push (l : List Nat) (acc : ByteArray) : (l.map fun x : Nat => (x : Int)).foldl (fun r n => r.push (UInt8.ofNat n.toNat)) acc = ⟨acc.data ++ (l.map fun x => x.toUInt8).toArray⟩ := by
  induction l generalizing acc with
  | nil => simp
  | cons x l ih =>
    simp only [List.map_cons, List.foldl_cons, ih, Int.toNat_natCast]
    have : (acc.push (UInt8.ofNat x)).data = acc.data.push (UInt8.ofNat x) := rfl
    rw [this]
    congr 1
    apply Array.toList_inj.1
    simp
theorem conv_str (w : World) (b : Nat) (l : List Nat) (t : TypeId) (c : Nat) (h : Has w b (U8s l) t) :
    (convert 43 9 (.slice (some ⟨b, 0, none⟩) l.length c)).run Tryd.prog w = .ok (.string (ofBs l)) w := by
  rw [run_convert_bytes_string w 43 9 5 _ _ _ Tryd.underlying43 Tryd.underlying5 Tryd.underlying9]
  have hl : (loadCells ⟨b, 0, none⟩ l.length).run Tryd.prog w = .ok ((l.map fun x : Nat => (x : Int)).map (Value.int .u8)).toArray w := by
    have h2 := run_loadCells_list (P := Tryd.prog) w ⟨b, 0, none⟩ (U8s l).toList (fun j v hv => by rw [Addr.add_mid]; exact h.range j v hv)
    rw [Array.length_toList, U8s_size] at h2
    rw [h2]
    simp [U8s]
  rw [run_bytesToString w _ _ _ _ hl, fold_push]
  simp [ofBs]
theorem makes_bytes (n : Nat) (hn : n ≤ 1000000) (w : World) : (Instr.makeSlice 43 (.int .i64 (n : Int)) (.int .i64 (n : Int))).run Tryd.prog w = .ok (.slice (some ⟨w.heap.size, 0, none⟩) n n) (w.alloc (.cells (U8s (List.replicate n 0)) 5)) := by
  have hinfo : (Tryd.prog.info? 5).map (fun i => (i.zero, i.size, i.bytes)) = some (some (.int .u8 0), 1, 1) := by kernel_rfl
  cases hi : Tryd.prog.info? 5 with
  | none => rw [hi] at hinfo; simp at hinfo
  | some i =>
    rw [hi] at hinfo
    simp only [Option.map_some, Option.some.injEq, Prod.mk.injEq] at hinfo
    obtain ⟨h1, h2, h3⟩ := hinfo
    rw [run_make w 43 5 i (.int .u8 0) Tryd.underlying43 hi h1 .i64 .i64 (n : Int) (n : Int) (by omega) (Int.le_refl _) (by rw [h3]; omega) (by omega)]
    have e : madeCells (Value.int .u8 0).cells (n * 1) = U8s (List.replicate n 0) := by
      apply Array.toList_inj.1
      have hz : (Value.int .u8 0).cells = #[.int .u8 0] := rfl
      rw [hz, Nat.mul_one]
      apply List.ext_getElem
      · simp [madeCells, U8s]
      · intro k h1 h2
        simp [madeCells, U8s, Nat.mod_one]
    rw [h2, Int.toNat_natCast, e]
end Go.Proofs.YtnhakbpalfcmfaaDoor
