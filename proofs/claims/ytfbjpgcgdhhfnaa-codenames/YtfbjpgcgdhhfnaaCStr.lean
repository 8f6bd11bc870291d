/- Strings by their bytes, lists of strings; what is copied out of a string into a row. -/
import Derived.Test.YtfbjpgcgdhhfnaaCMath
import Derived.Laws.IdiomCopy
import Derived.Lib.AppendStr
namespace Go.Proofs.Ytfbjpgcgdhhfnaa
open Go.RowKit
def bs (s : ByteArray) : List Nat := s.data.toList.map (·.toNat)
theorem bs_length (s : ByteArray) : (bs s).length = s.size := by simp [bs]
theorem bs_lt (s : ByteArray) : ∀ x ∈ bs s, x < 256 := by
  intro x hx
  simp only [bs, List.mem_map] at hx
  obtain ⟨b, _, rfl⟩ := hx
  exact b.toNat_lt
theorem run_copy_str {P : Program} (w : World) (dT sT ty elem : TypeId) (g o dLen dCap n : Nat) (s : ByteArray) (cur : Array Value) (t : TypeId)
    (hu : P.underlying dT = some (.slice elem)) (hs : (P.info? elem).map (·.size) = some 1) (hg : Has w g cur t) (hn : n = Nat.min s.size dLen) (hfit : o + n ≤ cur.size) :
    (Builtin.copy_ #[dT, sT] ty #[.slice (some ⟨g, o, none⟩) dLen dCap, .string s]).run P w = .ok (goInt n) (w.setCells g o (U8s ((bs s).take n)).toList) := by
  have hl : ((U8s ((bs s).take n)).toList).length = n := by
    rw [Array.length_toList, U8s_size, List.length_take, bs_length, hn]
    exact Nat.min_eq_left (Nat.min_le_left _ _)
  have hst := run_storeCells_cells (P := P) g o (U8s ((bs s).take n)).toList 0 w
    (fun j hj => by rw [hl] at hj; rw [hg.cell]; simp; omega) (fun j _ => hg.frozen _) (U8s_one _)
  have htk : List.take n (List.map (fun b : UInt8 => Value.int IntKind.u8 (b.toNat : Int)) s.data.toList) = (U8s ((bs s).take n)).toList := by
    simp [U8s, bs, List.map_take]
    rfl
  simp only [Nat.add_zero] at hst
  cases hq : P.info? elem with
  | none => simp [hq] at hs
  | some i =>
    simp [Builtin.copy_, run_underlying hu, Builtin.lenOf, Builtin.firstCells, sizeOf, typeInfo, hq]
    have hn' : min s.size dLen = n := hn.symm
    first | rw [← hn, htk, hst] | rw [hn', htk, hst]
    simp [Result.andThen]
theorem wpList_copy_str {P : Program} {w : World} {ops : Array Oper} {rest : List Oper} {o : Oper} {a : Act} {Q : Exit → Act → World → Prop} (hgd : o.guard = none) (d s : Operand) (dT sT : TypeId)
    (ho : o.op = .call { callee := .builtin .copy, args := #[d, s], argTypes := #[dT, sT] }) (elem : TypeId) (hu : P.underlying dT = some (.slice elem)) (hsz : (P.info? elem).map (·.size) = some 1)
    (g off dLen dCap n : Nat) (str : ByteArray) (cur : Array Value) (t : TypeId) (hd : a.eval d = .slice (some ⟨g, off, none⟩) dLen dCap) (hs : a.eval s = .string str)
    (hg : Has w g cur t) (hn : n = Nat.min str.size dLen) (hfit : off + n ≤ cur.size)
    (h : wpList P ops Q rest (a.put o.dst (goInt n)) (w.setCells g off (U8s ((bs str).take n)).toList)) : wpList P ops Q (o :: rest) a w := by
  refine wpList_plain hgd fun K hK => ?_
  have hrun := run_copy_str (P := P) w dT sT o.type elem g off dLen dCap n str cur t hu hsz hg hn hfit
  unfold Oper.wp
  simp [execOp, ho, resolve, invoke, builtin, hd, hs, hrun, Result.andThen]
  exact hK _ _ h
theorem has_bytes_mid {w : World} {b : Nat} {t : TypeId} {cs vs : List Nat} (h : Has w b (U8s cs) t) (o : Nat) (hl : o + vs.length ≤ cs.length) :
    Has (w.setCells b o (U8s vs).toList) b (U8s (cs.take o ++ vs ++ cs.drop (o + vs.length))) t := by
  have h1 := has_setCells_mid (U8s vs).toList o (U8s cs).toList (by simpa using h) (by simp [U8s]; omega)
  have e : (List.take o (U8s cs).toList ++ (U8s vs).toList ++ List.drop (o + (U8s vs).toList.length) (U8s cs).toList).toArray = U8s (cs.take o ++ vs ++ cs.drop (o + vs.length)) := by
    simp [U8s, List.map_take, List.map_drop]
  rw [e] at h1; exact h1
theorem bs_ofBs (l : List Nat) (h : ∀ x ∈ l, x < 256) : bs (ofBs l) = l := by
  unfold bs ofBs
  simp only [List.map_map]
  have : List.map ((fun x : UInt8 => x.toNat) ∘ fun x : Nat => x.toUInt8) l = List.map id l := by
    apply List.map_congr_left
    intro x hx
    have := h x hx
    simp [Function.comp]
    omega
  rw [this, List.map_id]
theorem ofBs_bs (s : ByteArray) : ofBs (bs s) = s := by
  have e : (bs s).map (fun x => x.toUInt8) = s.data.toList := by
    unfold bs
    rw [List.map_map]
    have : List.map ((fun x : Nat => x.toUInt8) ∘ fun x : UInt8 => x.toNat) s.data.toList = List.map id s.data.toList := by
      apply List.map_congr_left
      intro x _
      simp [Function.comp]
    rw [this, List.map_id]
  unfold ofBs
  rw [e]
theorem bs_inj {a b : ByteArray} (h : bs a = bs b) : a = b := by rw [← ofBs_bs a, ← ofBs_bs b, h]
theorem ofBs_size (l : List Nat) : (ofBs l).size = l.length := by
  show ((l.map fun x => x.toUInt8).toArray).size = _
  simp
theorem bs_extract (s : ByteArray) (a b : Nat) : bs (s.extract a b) = ((bs s).take b).drop a := by
  have e : (s.extract a b).data.toList = (s.data.toList.take b).drop a := by
    rw [ByteArray.data_extract, Array.toList_extract, List.extract_eq_take_drop, List.drop_take]
  unfold bs; rw [e, List.map_drop, List.map_take]
theorem bytes_of (s : ByteArray) : ∃ l : List Nat, s = ofBs l ∧ (∀ x ∈ l, x < 256) ∧ l.length = s.size := ⟨bs s, (ofBs_bs s).symm, bs_lt s, bs_length s⟩
/-- v reads as a list of strings -/
def Strs (w : World) (v : Value) (ls : List (List Nat)) : Prop := ∃ a cap, v = .slice a ls.length cap ∧ ls.length ≤ 9223372036854775807 ∧ (∀ i x, x ∈ ls.getD i [] → x < 256) ∧ (0 < ls.length → ∃ g o, a = some ⟨g, o, none⟩ ∧ g < w.heap.size ∧ ∀ j, j < ls.length → w.cell? ⟨g, o + j, none⟩ = some (.string (ofBs (ls.getD j []))))
theorem Strs.below {w w' : World} {v : Value} {ls : List (List Nat)} (h : Strs w v ls) (hb : Below w.heap.size w w') : Strs w' v ls := by
  obtain ⟨a, cap, h1, h2, h3, h4⟩ := h
  refine ⟨a, cap, h1, h2, h3, fun hp => ?_⟩
  obtain ⟨g, o, e, hg, hc⟩ := h4 hp
  exact ⟨g, o, e, Nat.lt_of_lt_of_le hg hb.size, fun j hj => cell_below hb hg (hc j hj)⟩
theorem Strs.nil (w : World) : Strs w (.slice none 0 0) [] := ⟨none, 0, rfl, by simp, by simp, fun h => absurd h (by simp)⟩
theorem Strs.some {w : World} {v : Value} {ls : List (List Nat)} (h : Strs w v ls) (hp : 0 < ls.length) : ∃ g o cap, v = .slice (.some ⟨g, o, none⟩) ls.length cap ∧ ls.length ≤ 9223372036854775807 ∧ g < w.heap.size ∧ ∀ j, j < ls.length → w.cell? ⟨g, o + j, none⟩ = .some (.string (ofBs (ls.getD j []))) := by
  obtain ⟨a, cap, h1, h2, h3, h4⟩ := h
  obtain ⟨g, o, rfl, hg, hc⟩ := h4 hp
  exact ⟨g, o, cap, h1, h2, hg, hc⟩
theorem Strs.lt {w : World} {v : Value} {ls : List (List Nat)} (h : Strs w v ls) : ∀ i x, x ∈ ls.getD i [] → x < 256 := by
  obtain ⟨a, cap, h1, h2, h3, h4⟩ := h
  exact h3
/-- the first k of n strings are told -/
def strTo (n : Nat) (f : Nat → List Nat) (k : Nat) : Array Value := ((List.range n).map fun i => Value.string (if i < k then ofBs (f i) else ⟨#[]⟩)).toArray
theorem strTo_get (n : Nat) (f : Nat → List Nat) (k i : Nat) (hi : i < n) : (strTo n f k)[i]? = some (.string (if i < k then ofBs (f i) else ⟨#[]⟩)) := by simp [strTo, hi]
theorem strTo_set (n : Nat) (f : Nat → List Nat) (k : Nat) : (strTo n f k).setIfInBounds k (.string (ofBs (f k))) = strTo n f (k + 1) := by
  unfold strTo
  rw [List.setIfInBounds_toArray]
  congr 1
  apply List.ext_getElem
  · simp
  · intro i h1 h2
    rw [List.getElem_set]
    by_cases h : k = i
    · subst h; simp
    · rw [if_neg h]
      simp only [List.getElem_map, List.getElem_range]
      by_cases h3 : i < k
      · rw [if_pos h3, if_pos (by omega)]
      · rw [if_neg h3, if_neg (by omega)]
theorem el9 : Elem 28 9 (.string ⟨#[]⟩) 16 := ⟨Try.underlying28, by kernel_rfl, rfl, by decide⟩
theorem makes_strs (n : Nat) (f : Nat → List Nat) (hn : n ≤ 1000000) (w : World) : (Instr.makeSlice 28 (.int .i64 (n : Int)) (.int .i64 (n : Int))).run Try.prog w = .ok (.slice (some ⟨w.heap.size, 0, none⟩) n n) (w.alloc (.cells (strTo n f 0) 9)) := by
  obtain ⟨i, hi, h1, h2, h3⟩ := el9.info
  rw [run_make w 28 9 i (.string ⟨#[]⟩) Try.underlying28 hi h1 .i64 .i64 (n : Int) (n : Int) (by omega) (Int.le_refl _) (by rw [h3]; omega) (by omega)]
  have e : madeCells (Value.string ⟨#[]⟩).cells (n * 1) = strTo n f 0 := by
    apply Array.toList_inj.1
    have hz : (Value.string ⟨#[]⟩).cells = #[.string ⟨#[]⟩] := rfl
    rw [hz, Nat.mul_one]
    apply List.ext_getElem
    · simp [madeCells, strTo]
    · intro k h1 h2
      simp [madeCells, strTo, Nat.mod_one]
  rw [h2, Int.toNat_natCast, e]
theorem strs_of {w : World} {g n : Nat} {f : Nat → List Nat} (h : Has w g (strTo n f n) 9) (hn : n ≤ 1000000) (hf : ∀ i x, x ∈ f i → x < 256) (cap : Nat) : Strs w (.slice (some ⟨g, 0, none⟩) n cap) ((List.range n).map f) := by
  refine ⟨_, cap, by simp, by simp; omega, fun i x hx => ?_, fun _ => ⟨g, 0, rfl, h.lt, fun j hj => ?_⟩⟩
  · by_cases hi : i < n
    · simp [List.getD_eq_getElem?_getD, hi] at hx; exact hf i x hx
    · simp [List.getD_eq_getElem?_getD, hi] at hx
  · simp only [List.length_map, List.length_range] at hj
    rw [Nat.zero_add, h.cell, strTo_get _ _ _ _ hj, if_pos hj]
    simp [List.getD_eq_getElem?_getD, hj]
end Go.Proofs.Ytfbjpgcgdhhfnaa
