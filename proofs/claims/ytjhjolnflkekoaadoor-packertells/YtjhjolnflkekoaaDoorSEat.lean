/- What copy out of a string into a row of bytes does; bytes of strings as plain numbers. No program in it. -/
import Derived.Test.YtjhjolnflkekoaaDoorSTurn
import Derived.Laws.IdiomCopy
import Derived.Test.YtjhjolnflkekoaaDoorSHeap
namespace Go.Proofs.YtjhjolnflkekoaaDoor.S
open Go.RowKit
/-- a string's bytes, as numbers -/
def bs (s : ByteArray) : List Nat := s.data.toList.map (·.toNat)
theorem bs_length (s : ByteArray) : (bs s).length = s.size := by simp [bs]
theorem bs_lt (s : ByteArray) : ∀ x ∈ bs s, x < 256 := by
  intro x hx
  simp only [bs, List.mem_map] at hx
  obtain ⟨b, _, rfl⟩ := hx
  exact b.toNat_lt
theorem bs_drop (s : ByteArray) (k : Nat) : bs (s.extract k s.size) = (bs s).drop k := by
  have e : (s.extract k s.size).data.toList = s.data.toList.drop k := by
    rw [ByteArray.data_extract, Array.toList_extract, List.extract_eq_take_drop, List.take_of_length_le]
    rw [List.length_drop]; exact Nat.le_refl _
  unfold bs; rw [e, List.map_drop]
theorem U8s_one (l : List Nat) : ∀ v ∈ (U8s l).toList, v.oneCell' = true := by
  intro v hv
  simp only [U8s, List.mem_map] at hv
  obtain ⟨b, _, rfl⟩ := hv
  rfl
theorem run_copy_str {P : Program} (w : World) (dT sT ty elem : TypeId) (g o dLen dCap n : Nat) (s : ByteArray) (cur : Array Value) (t : TypeId)
    (hu : P.underlying dT = some (.slice elem)) (hs : (P.info? elem).map (·.size) = some 1) (hg : Has w g cur t) (hn : n = Nat.min s.size dLen) (hfit : o + n ≤ cur.size) :
    (Builtin.copy_ #[dT, sT] ty #[.slice (some ⟨g, o, none⟩) dLen dCap, .string s]).run P w = .ok (goInt n) (w.setCells g o (U8s ((bs s).take n)).toList) := by
  have hl : ((U8s ((bs s).take n)).toList).length = n := by
    rw [Array.length_toList, U8s_size, List.length_take, bs_length, hn]
    exact Nat.min_eq_left (Nat.min_le_left _ _)
  have hst := run_storeCells_cells (P := P) g o (U8s ((bs s).take n)).toList 0 w
    (fun j hj => by rw [hl] at hj; rw [hg.cell]; simp; omega) (fun j _ => hg.frozen _) (U8s_one _)
  have htk : List.take n (List.map (fun b : UInt8 => Value.int IntKind.u8 (b.toNat : Int)) s.data.toList) = (U8s ((bs s).take n)).toList := by
    simp [U8s, bs, List.map_take]
    rfl
  simp only [Nat.add_zero] at hst
  cases hq : P.info? elem with
  | none => simp [hq] at hs
  | some i =>
    simp [Builtin.copy_, run_underlying hu, Builtin.lenOf, Builtin.firstCells, sizeOf, typeInfo, hq]
    have hn' : min s.size dLen = n := hn.symm
    first | rw [← hn, htk, hst] | rw [hn', htk, hst]
    simp [Result.andThen]
theorem wpList_copy_str {P : Program} {w : World} {ops : Array Oper} {rest : List Oper} {o : Oper} {a : Act} {Q : Exit → Act → World → Prop} (hgd : o.guard = none) (d s : Operand) (dT sT : TypeId)
    (ho : o.op = .call { callee := .builtin .copy, args := #[d, s], argTypes := #[dT, sT] }) (elem : TypeId) (hu : P.underlying dT = some (.slice elem)) (hsz : (P.info? elem).map (·.size) = some 1)
    (g off dLen dCap n : Nat) (str : ByteArray) (cur : Array Value) (t : TypeId) (hd : a.eval d = .slice (some ⟨g, off, none⟩) dLen dCap) (hs : a.eval s = .string str)
    (hg : Has w g cur t) (hn : n = Nat.min str.size dLen) (hfit : off + n ≤ cur.size)
    (h : wpList P ops Q rest (a.put o.dst (goInt n)) (w.setCells g off (U8s ((bs str).take n)).toList)) : wpList P ops Q (o :: rest) a w := by
  refine wpList_plain hgd fun K hK => ?_
  have hrun := run_copy_str (P := P) w dT sT o.type elem g off dLen dCap n str cur t hu hsz hg hn hfit
  unfold Oper.wp
  simp [execOp, ho, resolve, invoke, builtin, hd, hs, hrun, Result.andThen]
  exact hK _ _ h
/-- a row of bytes, with others laid into it -/
theorem has_bytes_mid {w : World} {b : Nat} {t : TypeId} {cs vs : List Nat} (h : Has w b (U8s cs) t) (o : Nat) (hl : o + vs.length ≤ cs.length) :
    Has (w.setCells b o (U8s vs).toList) b (U8s (cs.take o ++ vs ++ cs.drop (o + vs.length))) t := by
  have h1 := has_setCells_mid (U8s vs).toList o (U8s cs).toList (by simpa using h) (by simp [U8s]; omega)
  have e : (List.take o (U8s cs).toList ++ (U8s vs).toList ++ List.drop (o + (U8s vs).toList.length) (U8s cs).toList).toArray = U8s (cs.take o ++ vs ++ cs.drop (o + vs.length)) := by
    simp [U8s, List.map_take, List.map_drop]
  rw [e] at h1; exact h1
end Go.Proofs.YtjhjolnflkekoaaDoor.S
/- Plain facts on what is eaten block by block: in pieces as at once. No program in it. -/
namespace Go.Proofs.YtjhjolnflkekoaaDoor.S
namespace Sha
theorem eat_step (s : S8) (l : List Nat) (h : 64 ≤ l.length) : eat s l = eat (mix s (l.take 64)) (l.drop 64) := by
  unfold eat
  rw [List.length_drop, show l.length / 64 = (l.length - 64) / 64 + 1 by omega]
  rfl
theorem left_step (l : List Nat) (h : 64 ≤ l.length) : left l = left (l.drop 64) := by
  unfold left
  rw [List.length_drop, List.drop_drop, show 64 + 64 * ((l.length - 64) / 64) = 64 * (l.length / 64) by omega]
theorem eat_short (s : S8) (l : List Nat) (h : l.length < 64) : eat s l = s := by
  unfold eat
  rw [show l.length / 64 = 0 by omega]
  rfl
theorem left_short (l : List Nat) (h : l.length < 64) : left l = l := by
  unfold left
  rw [show 64 * (l.length / 64) = 0 by omega]
  rfl
theorem left_length (l : List Nat) : (left l).length = l.length % 64 := by
  unfold left
  rw [List.length_drop]; omega
theorem left_lt (l : List Nat) (h : ∀ x ∈ l, x < 256) : ∀ x ∈ left l, x < 256 := fun x hx => h x (List.mem_of_mem_drop hx)
/-- eaten in two pieces as at once -/
theorem eat_two : ∀ (n : Nat) (s : S8) (l m : List Nat), l.length ≤ n → eat (eat s l) (left l ++ m) = eat s (l ++ m) ∧ left (left l ++ m) = left (l ++ m)
  | n, s, l, m, hn => by
    by_cases h : l.length < 64
    · rw [eat_short _ _ h, left_short _ h]; exact ⟨rfl, rfl⟩
    · match n, hn with
      | 0, hn => omega
      | n + 1, hn =>
        have ih := eat_two n (mix s (l.take 64)) (l.drop 64) m (by rw [List.length_drop]; omega)
        have e1 : (l ++ m).take 64 = l.take 64 := by rw [List.take_append_of_le_length (by omega)]
        have e2 : (l ++ m).drop 64 = l.drop 64 ++ m := by rw [List.drop_append_of_le_length (by omega)]
        rw [eat_step s l (by omega), left_step l (by omega), eat_step s (l ++ m) (by simp; omega), left_step (l ++ m) (by simp; omega), e1, e2]
        exact ih
theorem eat_app (s : S8) (l m : List Nat) : eat (eat s l) (left l ++ m) = eat s (l ++ m) := (eat_two _ s l m (Nat.le_refl _)).1
theorem left_app (l m : List Nat) : left (left l ++ m) = left (l ++ m) := (eat_two _ init l m (Nat.le_refl _)).2
theorem init_ok : init.ok := by unfold S8.ok init; decide
end Sha
end Go.Proofs.YtjhjolnflkekoaaDoor.S
