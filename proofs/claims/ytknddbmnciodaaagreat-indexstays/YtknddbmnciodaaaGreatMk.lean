/- Rows that are made: of so many empty texts, places, snapshots, chunks. -/
import Derived.Test.YtknddbmnciodaaaGreatRd
import Derived.WalkKit
namespace Go.Proofs.YtknddbmnciodaaaGreat
open Go.RowKit
open Ix
set_option linter.unusedVariables false
theorem made_flat {α : Type} (f : α → List Value) (m : Nat) (hm : ∀ x, (f x).length = m) (h0 : 0 < m) (x0 : α) (n : Nat) : madeCells (f x0).toArray (n * m) = ((List.replicate n x0).flatMap f).toArray := by
  apply Array.toList_inj.1
  apply List.ext_getElem
  · rw [Array.length_toList, size_madeCells, List.toList_toArray, flat_len f m hm, List.length_replicate]
  · intro k h1 h2
    have hk : k < n * m := by simpa [size_madeCells] using h1
    have hq : k / m < n := (Nat.div_lt_iff_lt_mul h0).2 hk
    have hd : (List.replicate n x0)[k / m]? = some x0 := by rw [List.getElem?_replicate, if_pos hq]
    have hr : k % m < (f x0).length := by rw [hm]; exact Nat.mod_lt _ h0
    have key := flat_get f m hm _ (k / m) _ hd (k % m) (f x0)[k % m] (List.getElem?_eq_getElem hr)
    rw [show k / m * m + k % m = k by rw [Nat.mul_comm]; exact Nat.div_add_mod k m] at key
    have e1 : (madeCells (f x0).toArray (n * m)).toList[k] = (f x0).toArray[k % m]! := by
      simp [madeCells, hm]
    have e2 : ((List.replicate n x0).flatMap f).toArray.toList[k]? = some (f x0)[k % m] := by simpa using key
    rw [e1, ← Option.some.injEq, ← List.getElem?_eq_getElem h2, e2, getElem!_pos _ _ (by simpa using hr)]
    rfl
theorem info9z : (Tryz.prog.info? 9).map (fun i => (i.zero, i.size, i.bytes)) = some (some (.string ⟨#[]⟩), 1, 16) := by kernel_rfl
theorem info37z : (Tryz.prog.info? 24).map (fun i => (i.zero, i.size, i.bytes)) = some (some (.agg #[.string ⟨#[]⟩, .int .i64 0, .int .i64 0]), 3, 32) := by kernel_rfl
theorem info53z : (Tryz.prog.info? 61).map (fun i => (i.zero, i.size, i.bytes)) = some (some (.agg #[.string ⟨#[]⟩, .string ⟨#[]⟩, .int .i64 0, .int .i64 0]), 4, 48) := by kernel_rfl
theorem info68z : (Tryz.prog.info? 41).map (fun i => (i.zero, i.size, i.bytes)) = some (some (.agg #[.int .i64 0, .int .i64 0, .string ⟨#[]⟩]), 3, 32) := by kernel_rfl
def p0 : Pl := ⟨⟨#[]⟩, 0, 0⟩
def s0 : Snp := ⟨0, 0, ⟨#[]⟩⟩
def k0 : En := (⟨#[]⟩, p0)
theorem makes_places (n : Nat) (hn : n ≤ 1000000) (w : World) : (Instr.makeSlice 30 (.int .i64 (n : Int)) (.int .i64 (n : Int))).run Tryz.prog w = .ok (.slice (some ⟨w.heap.size, 0, none⟩) n n) (w.alloc (.cells (pC (List.replicate n p0)) 24)) := by
  obtain ⟨i, hi, h1, h2, h3⟩ := info_parts info37z
  rw [run_make w 30 24 i _ Tryz.underlying30 hi h1 .i64 .i64 (n : Int) (n : Int) (by omega) (Int.le_refl _) (by rw [h3]; omega) (by omega)]
  have e : madeCells (Value.agg #[.string ⟨#[]⟩, .int .i64 0, .int .i64 0]).cells (n * 3) = pC (List.replicate n p0) := made_flat pl3 3 (fun _ => rfl) (by decide) p0 n
  rw [h2, Int.toNat_natCast, e]
theorem makes_snaps (n : Nat) (hn : n ≤ 1000000) (w : World) : (Instr.makeSlice 33 (.int .i64 (n : Int)) (.int .i64 (n : Int))).run Tryz.prog w = .ok (.slice (some ⟨w.heap.size, 0, none⟩) n n) (w.alloc (.cells (nC (List.replicate n s0)) 41)) := by
  obtain ⟨i, hi, h1, h2, h3⟩ := info_parts info68z
  rw [run_make w 33 41 i _ Tryz.underlying33 hi h1 .i64 .i64 (n : Int) (n : Int) (by omega) (Int.le_refl _) (by rw [h3]; omega) (by omega)]
  have e : madeCells (Value.agg #[.int .i64 0, .int .i64 0, .string ⟨#[]⟩]).cells (n * 3) = nC (List.replicate n s0) := made_flat sn3 3 (fun _ => rfl) (by decide) s0 n
  rw [h2, Int.toNat_natCast, e]
theorem makes_chunks (n : Nat) (hn : n ≤ 1000000) (w : World) : (Instr.makeSlice 57 (.int .i64 (n : Int)) (.int .i64 (n : Int))).run Tryz.prog w = .ok (.slice (some ⟨w.heap.size, 0, none⟩) n n) (w.alloc (.cells (kC (List.replicate n k0)) 61)) := by
  obtain ⟨i, hi, h1, h2, h3⟩ := info_parts info53z
  rw [run_make w 57 61 i _ Tryz.underlying57 hi h1 .i64 .i64 (n : Int) (n : Int) (by omega) (Int.le_refl _) (by rw [h3]; omega) (by omega)]
  have e : madeCells (Value.agg #[.string ⟨#[]⟩, .string ⟨#[]⟩, .int .i64 0, .int .i64 0]).cells (n * 4) = kC (List.replicate n k0) := made_flat ck4 4 (fun _ => rfl) (by decide) k0 n
  rw [h2, Int.toNat_natCast, e]
set_option maxRecDepth 20000 in
theorem makes_texts (n : Nat) (hn : n ≤ 1000000) (w : World) : (Instr.makeSlice 29 (.int .i64 (n : Int)) (.int .i64 (n : Int))).run Tryz.prog w = .ok (.slice (some ⟨w.heap.size, 0, none⟩) n n) (w.alloc (.cells (sTx (List.replicate n ⟨#[]⟩)) 9)) := by
  obtain ⟨i, hi, h1, h2, h3⟩ := info_parts info9z
  rw [run_make w 29 9 i _ Tryz.underlying29 hi h1 .i64 .i64 (n : Int) (n : Int) (by omega) (Int.le_refl _) (by rw [h3]; omega) (by omega)]
  have e : madeCells (Value.string ⟨#[]⟩).cells (n * 1) = sTx (List.replicate n ⟨#[]⟩) := by
    have := made_flat (fun x : ByteArray => [Value.string x]) 1 (fun _ => rfl) (by decide) ⟨#[]⟩ n
    unfold sTx
    rw [show (Value.string ⟨#[]⟩).cells = ([Value.string ⟨#[]⟩] : List Value).toArray from rfl, this]
    congr 1
    rw [List.map_replicate]
    have : ∀ k : Nat, (List.replicate k (⟨#[]⟩ : ByteArray)).flatMap (fun x => [Value.string x]) = List.replicate k (Value.string ⟨#[]⟩) := by
      intro k
      induction k with
      | zero => rfl
      | succ k ih => rw [List.replicate_succ, List.flatMap_cons, ih, List.replicate_succ]; rfl
    exact this n
  rw [h2, Int.toNat_natCast, e]
/-- an element of a row written over -/
theorem has_set3 {α : Type} (f : α → List Value) (m : Nat) (hm : ∀ x, (f x).length = m) {W : World} {b k : Nat} {l : List α} {t : TypeId} (h : Has W b (l.flatMap f).toArray t) (hk : k < l.length) (y : α) : Has (W.setCells b (k * m) (f y)) b ((l.set k y).flatMap f).toArray t := by
  have hlen : (k + 1) * m ≤ l.length * m := Nat.mul_le_mul_right m hk
  rw [Nat.add_mul, Nat.one_mul] at hlen
  have := has_setCells_mid (f y) (k * m) _ h (by rw [hm, flat_len f m hm]; exact hlen)
  rwa [hm, flat_set f m hm y l k hk] at this
theorem set_next {α : Type} (L : List α) (x0 y : α) (k : Nat) (h : k < L.length) (hy : L[k]? = some y) : (L.take k ++ List.replicate (L.length - k) x0).set k y = L.take (k + 1) ++ List.replicate (L.length - (k + 1)) x0 := by
  have hl : (L.take k).length = k := by rw [List.length_take]; omega
  rw [List.getElem?_eq_getElem h] at hy
  rw [List.set_append_right _ _ (by omega), hl, Nat.sub_self, show L.length - k = (L.length - (k + 1)) + 1 by omega, List.replicate_succ, List.set_cons_zero, List.take_succ_eq_append_getElem h, List.append_assoc, Option.some.inj hy]
  rfl
/-- the first k of a list, and empty ones -/
def upTo {α : Type} (L : List α) (x0 : α) (k : Nat) : List α := L.take k ++ List.replicate (L.length - k) x0
theorem upTo_zero {α : Type} (L : List α) (x0 : α) : upTo L x0 0 = List.replicate L.length x0 := by simp [upTo]
theorem upTo_all {α : Type} (L : List α) (x0 : α) : upTo L x0 L.length = L := by simp [upTo]
theorem upTo_len {α : Type} (L : List α) (x0 : α) (k : Nat) (h : k ≤ L.length) : (upTo L x0 k).length = L.length := by unfold upTo; rw [List.length_append, List.length_take, List.length_replicate]; omega
theorem upTo_set {α : Type} (L : List α) (x0 y : α) (k : Nat) (h : k < L.length) (hy : L[k]? = some y) : (upTo L x0 k).set k y = upTo L x0 (k + 1) := set_next L x0 y k h hy
end Go.Proofs.YtknddbmnciodaaaGreat

