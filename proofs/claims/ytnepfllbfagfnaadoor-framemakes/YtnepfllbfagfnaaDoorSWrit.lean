/- The contracts of Sum of bytes, and of a nil hash's Sum. -/
import Derived.Test.YtnepfllbfagfnaaDoorHSum
import Derived.Test.YtnepfllbfagfnaaDoorOut
import Derived.Test.YtnepfllbfagfnaaDoorTurn
import Derived.Deep.Light
import Derived.KernelRfl
import Derived.Deep.QuietTactic
import Derived.BigQuiet
import Derived.Laws.MakeOwn
import Derived.Laws.BytesString
import Derived.Lib.ItoaLen
import Derived.Lib.AppendIntMem
namespace Go.Proofs.YtnepfllbfagfnaaDoor
open Go.RowKit
theorem sum_any (w : World) (ht : Tabs w) (s : ByteArray) (hs : s.size ≤ 900000000000) : Calls Tryd.prog 11 #[.string s] w fun e w' => e = .returned (.string (ofBs (Sha.digest (bs s)))) ∧ Below w.heap.size w w' := by
  go_enter Tryd.func11, Tryd.ntmps11
  go_wp2_with fail
  refine (new_any w ht).mono ?_
  rintro e w1 ⟨rfl, h1, b1⟩
  go_wp2_with fail
  refine (add_any w1 (ht.below' b1) w.heap.size [] (by simp) h1 s (by simp; omega)).mono ?_
  rintro e w2 ⟨rfl, h2, o2⟩
  have hlt := ht.cu.lt
  have hlt1 := h1.lt
  rw [List.nil_append] at h2
  go_wp2_with fail
  refine (hashSum_any w2 ((ht.below' b1).only o2 hlt) w.heap.size (bs s) (bs_lt s) h2 (by rw [bs_length]; omega)).mono ?_
  rintro e w3 ⟨rfl, b3⟩
  go_wp2_with fail
  go_ret
  exact ⟨rfl, belowCall (b1.trans (o2.below (Nat.le_refl _) (by omega))) b3⟩
end Go.Proofs.YtnepfllbfagfnaaDoor
/- The contract of Hex; of what was there nothing changes. -/
namespace Go.Proofs.YtnepfllbfagfnaaDoor
open Go.RowKit
namespace Sha
end Sha
end Go.Proofs.YtnepfllbfagfnaaDoor
/- The contract of Unhex; of what was there nothing changes. -/
namespace Go.Proofs.YtnepfllbfagfnaaDoor
open Go.RowKit
namespace Sha
end Sha
theorem bs_getD (s : ByteArray) (k : Nat) (h : k < s.size) : (bs s).getD k 0 = s[k].toNat := by
  rw [List.getD_eq_getElem?_getD, List.getElem?_eq_getElem (by rw [bs_length]; exact h)]
  simp [bs]
  rfl
end Go.Proofs.YtnepfllbfagfnaaDoor
/- Plain facts: the bytes of a hex of bytes are the bytes, and the hex of a hex's bytes the hex. -/
namespace Go.Proofs.YtnepfllbfagfnaaDoor
namespace Sha
end Sha
end Go.Proofs.YtnepfllbfagfnaaDoor
/- The contract of many: a byte, so often. -/
namespace Go.Proofs.YtnepfllbfagfnaaDoor
open Go.RowKit
theorem fold_push (l : List Nat) (acc : ByteArray) : (l.map fun x : Nat => (x : Int)).foldl (fun r n => r.push (UInt8.ofNat n.toNat)) acc = ⟨acc.data ++ (l.map fun x => x.toUInt8).toArray⟩ := by
  induction l generalizing acc with
  | nil => simp
  | cons x l ih =>
    simp only [List.map_cons, List.foldl_cons, ih, Int.toNat_natCast]
    have : (acc.push (UInt8.ofNat x)).data = acc.data.push (UInt8.ofNat x) := rfl
    rw [this]
    congr 1
    apply Array.toList_inj.1
    simp
theorem conv_str (w : World) (b : Nat) (l : List Nat) (t : TypeId) (c : Nat) (h : Has w b (U8s l) t) :
    (convert 32 9 (.slice (some ⟨b, 0, none⟩) l.length c)).run Tryd.prog w = .ok (.string (ofBs l)) w := by
  rw [run_convert_bytes_string w 32 9 5 _ _ _ Tryd.underlying32 Tryd.underlying5 Tryd.underlying9]
  have hl : (loadCells ⟨b, 0, none⟩ l.length).run Tryd.prog w = .ok ((l.map fun x : Nat => (x : Int)).map (Value.int .u8)).toArray w := by
    have h2 := run_loadCells_list (P := Tryd.prog) w ⟨b, 0, none⟩ (U8s l).toList (fun j v hv => by rw [Addr.add_mid]; exact h.range j v hv)
    rw [Array.length_toList, U8s_size] at h2
    rw [h2]
    simp [U8s]
  rw [run_bytesToString w _ _ _ _ hl, fold_push]
  simp [ofBs]
theorem makes_bytes (n : Nat) (hn : n ≤ 1000000) (w : World) : (Instr.makeSlice 32 (.int .i64 (n : Int)) (.int .i64 (n : Int))).run Tryd.prog w = .ok (.slice (some ⟨w.heap.size, 0, none⟩) n n) (w.alloc (.cells (U8s (List.replicate n 0)) 5)) := by
  have hinfo : (Tryd.prog.info? 5).map (fun i => (i.zero, i.size, i.bytes)) = some (some (.int .u8 0), 1, 1) := by kernel_rfl
  cases hi : Tryd.prog.info? 5 with
  | none => rw [hi] at hinfo; simp at hinfo
  | some i =>
    rw [hi] at hinfo
    simp only [Option.map_some, Option.some.injEq, Prod.mk.injEq] at hinfo
    obtain ⟨h1, h2, h3⟩ := hinfo
    rw [run_make w 32 5 i (.int .u8 0) Tryd.underlying32 hi h1 .i64 .i64 (n : Int) (n : Int) (by omega) (Int.le_refl _) (by rw [h3]; omega) (by omega)]
    have e : madeCells (Value.int .u8 0).cells (n * 1) = U8s (List.replicate n 0) := by
      apply Array.toList_inj.1
      have hz : (Value.int .u8 0).cells = #[.int .u8 0] := rfl
      rw [hz, Nat.mul_one]
      apply List.ext_getElem
      · simp [madeCells, U8s]
      · intro k h1 h2
        simp [madeCells, U8s, Nat.mod_one]
    rw [h2, Int.toNat_natCast, e]
end Go.Proofs.YtnepfllbfagfnaaDoor
/- What is laid when a call begins; the contracts of Name, Code and mayIndex. -/
namespace Go.Proofs.YtnepfllbfagfnaaDoor
open Go.RowKit
theorem var_of_hasC {w : World} {g : Nat} {name : String} {cs : Array Value} (hg : Tryd.prog.globalNamed name = some g) (h : HasC w g cs) : w.var? Tryd.prog name = some cs := by
  obtain ⟨t, fr, h⟩ := h
  unfold World.var?
  rw [hg]
  simp [h]
theorem ofBs_append (a b : List Nat) : ofBs (a ++ b) = ofBs a ++ ofBs b := by
  unfold ofBs
  apply ByteArray.ext
  rw [ByteArray.data_append]
  simp
/-- whether a code may be -/
def okC (K N : Int) : Bool := decide (1 ≤ K) && decide (K ≤ N) && decide (N ≤ 12)
end Go.Proofs.YtnepfllbfagfnaaDoor
/- The contract of written: a shard's bytes. -/
namespace Go.Proofs.YtnepfllbfagfnaaDoor
open Go.RowKit
theorem digest_lt (l : List Nat) : ∀ x ∈ Sha.digest l, x < 256 := Sha.tells_lt _
theorem digest_length (l : List Nat) : (Sha.digest l).length = 32 := by
  unfold Sha.digest Sha.tell; rw [Sha.tells_length]; rfl
/-- a number in 4 bytes -/
def be4 (n : Nat) : List Nat := [n / 16777216 % 256, n / 65536 % 256, n / 256 % 256, n % 256]
theorem be4_take (n : Nat) : (be4 n).take 0 = [] ∧ (be4 n).take 1 = [] ++ [n / 16777216 % 256] ∧ (be4 n).take 2 = (be4 n).take 1 ++ [n / 65536 % 256] ∧ (be4 n).take 3 = (be4 n).take 2 ++ [n / 256 % 256] ∧ (be4 n).take 4 = (be4 n).take 3 ++ [n % 256] := ⟨rfl, rfl, rfl, rfl, rfl⟩
end Go.Proofs.YtnepfllbfagfnaaDoor
