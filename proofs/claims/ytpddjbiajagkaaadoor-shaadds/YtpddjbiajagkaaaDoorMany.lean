/- The contract of many: a byte, so often. -/
import Derived.Test.YtpddjbiajagkaaaDoorSum
import Derived.Test.YtpddjbiajagkaaaDoorUnhex
import Derived.Laws.MakeOwn
import Derived.Laws.BytesString
namespace Go.Proofs.YtpddjbiajagkaaaDoor
open Go.RowKit
theorem fold_push (l : List Nat) (acc : ByteArray) : (l.map fun x : Nat => (x : Int)).foldl (fun r n => r.push (UInt8.ofNat n.toNat)) acc = ⟨acc.data ++ (l.map fun x => x.toUInt8).toArray⟩ := by
  induction l generalizing acc with
  | nil => simp
  | cons x l ih =>
    simp only [List.map_cons, List.foldl_cons, ih, Int.toNat_natCast]
    have : (acc.push (UInt8.ofNat x)).data = acc.data.push (UInt8.ofNat x) := rfl
    rw [this]
    congr 1
    apply Array.toList_inj.1
    simp
theorem conv_str (w : World) (b : Nat) (l : List Nat) (t : TypeId) (c : Nat) (h : Has w b (U8s l) t) :
    (convert 42 9 (.slice (some ⟨b, 0, none⟩) l.length c)).run Tryd.prog w = .ok (.string (ofBs l)) w := by
  rw [run_convert_bytes_string w 42 9 5 _ _ _ Tryd.underlying42 Tryd.underlying5 Tryd.underlying9]
  have hl : (loadCells ⟨b, 0, none⟩ l.length).run Tryd.prog w = .ok ((l.map fun x : Nat => (x : Int)).map (Value.int .u8)).toArray w := by
    have h2 := run_loadCells_list (P := Tryd.prog) w ⟨b, 0, none⟩ (U8s l).toList (fun j v hv => by rw [Addr.add_mid]; exact h.range j v hv)
    rw [Array.length_toList, U8s_size] at h2
    rw [h2]
    simp [U8s]
  rw [run_bytesToString w _ _ _ _ hl, fold_push]
  simp [ofBs]
theorem makes_bytes (n : Nat) (hn : n ≤ 1000000) (w : World) : (Instr.makeSlice 42 (.int .i64 (n : Int)) (.int .i64 (n : Int))).run Tryd.prog w = .ok (.slice (some ⟨w.heap.size, 0, none⟩) n n) (w.alloc (.cells (U8s (List.replicate n 0)) 5)) := by
  have hinfo : (Tryd.prog.info? 5).map (fun i => (i.zero, i.size, i.bytes)) = some (some (.int .u8 0), 1, 1) := by kernel_rfl
  cases hi : Tryd.prog.info? 5 with
  | none => rw [hi] at hinfo; simp at hinfo
  | some i =>
    rw [hi] at hinfo
    simp only [Option.map_some, Option.some.injEq, Prod.mk.injEq] at hinfo
    obtain ⟨h1, h2, h3⟩ := hinfo
    rw [run_make w 42 5 i (.int .u8 0) Tryd.underlying42 hi h1 .i64 .i64 (n : Int) (n : Int) (by omega) (Int.le_refl _) (by rw [h3]; omega) (by omega)]
    have e : madeCells (Value.int .u8 0).cells (n * 1) = U8s (List.replicate n 0) := by
      apply Array.toList_inj.1
      have hz : (Value.int .u8 0).cells = #[.int .u8 0] := rfl
      rw [hz, Nat.mul_one]
      apply List.ext_getElem
      · simp [madeCells, U8s]
      · intro k h1 h2
        simp [madeCells, U8s, Nat.mod_one]
    rw [h2, Int.toNat_natCast, e]
set_option maxRecDepth 20000 in
set_option maxHeartbeats 1000000 in
theorem many_any (n c : Nat) (hn : n ≤ 1000000) (w : World) :
    Calls Tryd.prog 13 #[.int .i64 (n : Int), .int .u8 (c : Int)] w fun e w' => e = .returned (.string (ofBs (List.replicate n c))) ∧ Below w.heap.size w w' := by
  have hmk := makes_bytes n hn
  go_enter Tryd.func13, Tryd.ntmps13
  go_wp2_with fail
  go_loopw [6] (fun v wr => ∃ k : Nat, k ≤ n ∧ v = .int .i64 (k : Int) ∧ Has wr w.heap.size (U8s (List.replicate k c ++ List.replicate (n - k) 0)) 5 ∧ Below w.heap.size w wr) (fun v _ => n - (intOf v).toNat)
  case atStart => exact ⟨0, by omega, rfl, Has.new w _ _ 5 rfl, (Below.refl _ _).alloc (Nat.le_refl _) _⟩
  case round =>
    obtain ⟨k, hk, rfl, h1, b1⟩ := hrel
    clear hmk
    by_cases hlt : k < n
    · have c1 := (h1.cell k).trans (U8s_get _ k (by simp; omega))
      have f1 := h1.frozen k
      have h2 := h1.set k (.int .u8 (c : Int))
      have e2 : (U8s (List.replicate k c ++ List.replicate (n - k) 0)).setIfInBounds k (.int .u8 (c : Int)) = U8s (List.replicate (k + 1) c ++ List.replicate (n - (k + 1)) 0) := by
        apply Array.toList_inj.1
        rw [show n - k = (n - (k + 1)) + 1 by omega, List.replicate_succ (n := n - (k + 1)), List.replicate_succ' (n := k)]
        simp [U8s]
      rw [e2] at h2
      have H2 : Hid _ := h2
      clear h2 e2
      go_wp2_with fail
      exact ⟨⟨k + 1, by omega, by go_num, H2.out, b1.setCell (Nat.le_refl _) _⟩, by simp [intOf]; omega⟩
    · obtain rfl : k = n := by omega
      rw [Nat.sub_self, List.replicate_zero, List.append_nil] at h1
      have hcv := conv_str wr w.heap.size _ 5 k h1
      rw [List.length_replicate] at hcv
      go_wp2_with fail
      go_ret
      exact ⟨rfl, b1⟩
end Go.Proofs.YtpddjbiajagkaaaDoor
