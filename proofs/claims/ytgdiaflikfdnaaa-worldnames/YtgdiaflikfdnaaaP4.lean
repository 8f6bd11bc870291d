/- The contracts of Get, names, List. -/
import Derived.Test.YtgdiaflikfdnaaaP3
namespace Go.Proofs.Ytgdiaflikfdnaaa
open Go.RowKit Go.Maps Go.Sort
def get (s : St) (n : ByteArray) : ByteArray × Int := if s.down then (⟨#[]⟩, 51) else match look n s.seen with
  | none => (⟨#[]⟩, 5)
  | some d => (d, 0)
set_option maxRecDepth 20000 in
theorem get_any {w : World} {S : Nat → Prop} {b : Nat} {s : St} (h : IsSt w S b s) (n : ByteArray) (hn : n.size ≤ maxLen) : Calls Try.prog 26 #[ptr b, .string n] w fun e w' => e = .returned (.tuple #[.string (get s n).1, er (get s n).2]) ∧ Below w.heap.size w w' := by
  obtain ⟨mo, wv, ⟨c0, c1, c2, c3, c4, c5, c6⟩, hM, _, _⟩ := h.cells
  have hl := hM.look hn false
  clear h hM
  unfold get er ptr
  cases hd : s.down with
  | true =>
    rw [hd] at c2
    clear hd hl
    go_enter Try.func26, Try.ntmps26
    go_wp2_with fail
    go_ret2
    exact ⟨rfl, Below.refl _ _⟩
  | false =>
    rw [hd] at c2
    clear hd
    cases hk : look n s.seen with
    | none =>
      rw [hk, cv_none] at hl
      simp only [Bool.false_eq_true, if_false] at hl
      clear hk
      go_enter Try.func26, Try.ntmps26
      go_wp2_with fail
      go_ret2
      exact ⟨rfl, boxed _ _⟩
    | some d =>
      rw [hk, cv_some] at hl
      simp only [Bool.false_eq_true, if_false] at hl
      clear hk
      go_enter Try.func26, Try.ntmps26
      go_wp2_with fail
      go_ret2
      exact ⟨rfl, boxed _ _⟩
set_option maxRecDepth 20000 in
theorem get_nil (n : ByteArray) (w : World) : Calls Try.prog 26 #[.pointer none, .string n] w fun e w' => e = .returned (.tuple #[.string ⟨#[]⟩, er 2]) ∧ w' = w := by
  unfold er
  go_enter Try.func26, Try.ntmps26
  go_wp2_with fail
  go_ret2
  exact ⟨rfl, rfl⟩
/-- the names, as a slice's cells -/
def nameCells (M : List Ob) : List Value := M.map fun p => .string p.1
theorem sorted_names {M : List Ob} (h : Rising M) {ss : List (List UInt8)} (hp : ss.Perm (strKeys (DM M))) : (ss.mergeSort (fun x y => decide (x ≤ y))).map encStr = nameCells M := by
  have e1 : strKeys (DM M) = M.map fun p => p.1.data.toList := by
    show (M.map ent).map _ = _
    rw [List.map_map]; rfl
  have e2 : ss.mergeSort (fun x y => decide (x ≤ y)) = (M.map fun p => p.1.data.toList).mergeSort (fun x y => decide (x ≤ y)) := by
    have := mergeSort_of_perm (hp.trans (by rw [e1]))
    exact this
  have e3 : (M.map fun p => p.1.data.toList).mergeSort (fun x y => decide (x ≤ y)) = M.map fun p => p.1.data.toList := by
    refine List.mergeSort_of_pairwise (List.pairwise_map.2 (h.imp fun {p q} hpq => ?_))
    simp only [lt, decide_eq_true_eq] at hpq ⊢
    exact List.le_of_lt hpq
  rw [e2, e3, List.map_map]
  rfl
set_option maxHeartbeats 1000000 in
set_option maxRecDepth 20000 in
theorem names_any {w : World} {S : Nat → Prop} {b : Nat} {s : St} (h : IsSt w S b s) (hs : s.seen.length ≤ 1000000) : Calls Try.prog 44 #[ptr b] w fun e w' => ∃ v, e = .returned v ∧ w'.ownsRow w.heap.size 9 1 v s.seen.length (nameCells s.seen) ∧ Below w.heap.size w w' := by
  obtain ⟨mo, wv, ⟨c0, c1, c2, c3, c4, c5, c6⟩, hM, _, _⟩ := h.cells
  have hR := hid hM.rising
  clear h
  unfold ptr
  refine (callsIn_wide (n := 6)).1 ?_
  have hfK : Fence.wide.fn 56 := trivial
  have hfS : Fence.wide.fn 55 := trivial
  refine callsIn_of_wp Try.func44 rfl trivial ?_ rfl
  simp only [Try.ntmps44, List.size_toArray, List.length_cons, List.length_nil, Nat.reduceAdd, Nat.reduceSub, Array.replicate_succ, Array.replicate_zero, List.push_toArray, List.append_toArray, List.nil_append, List.cons_append]
  cases mo with
  | none =>
    have hM' : s.seen = [] := hM
    have HM := hid hM'
    clear hM hM'
    gi_wp2_with (first
      | (gi_at_call 56; refine (Try.maps_Keys_75 _ _).mono ?_; rintro e w' ⟨rfl, rfl⟩)
      | (gi_at_call 55; refine (Try.slices_Sorted_keys_nil_74_75 w).mono ?_; rintro e w' ⟨v, ss, rfl, hS, hrow, hnil, hb⟩))
    go_ret
    refine ⟨v, rfl, ?_, ((Below.refl _ w).alloc (Nat.le_refl _) _).trans (hb.mono (by simp))⟩
    rw [HM.out]
    subst hS
    have hrow' : w'.ownsRow (w.alloc (Obj.cells #[Value.map none] 80)).heap.size 9 1 v 0 [] := by simpa using hrow
    exact ownsRow_base_a hrow' (by simp)
  | some m =>
    have hown := hM.1
    have hsz : Maps.size (DM s.seen) = s.seen.length := DM_size _
    have hmax : Maps.size (DM s.seen) ≤ maxLen := by rw [hsz]; unfold maxLen; omega
    have hbytes : Maps.size (DM s.seen) * 16 ≤ 140737488355328 := by rw [hsz]; omega
    have HS := hid hs
    have HZ := hid hsz
    clear hM hsz hs
    gi_wp2_with (first
      | (gi_at_call 56; refine (Try.maps_Keys_75 _ _).mono ?_; rintro e w' ⟨rfl, rfl⟩)
      | (gi_at_call 55; refine (Try.slices_Sorted_keys_74_75 m _ (DM s.seen) contR w hown hmax hbytes).mono ?_; rintro e w' ⟨v, ss, rfl, hS, hrow, hnil, hb⟩))
    go_ret
    refine ⟨v, rfl, ?_, ((Below.refl _ w).alloc (Nat.le_refl _) _).trans (hb.mono (by simp))⟩
    have e1 := sorted_names hR.out hS
    have e2 : ss.length = s.seen.length := by
      have := congrArg List.length e1
      simpa [nameCells] using this
    rw [e1, e2] at hrow
    exact ownsRow_base_a hrow (by simp)
set_option maxRecDepth 20000 in
theorem list_any {w : World} {S : Nat → Prop} {b : Nat} {s : St} (h : IsSt w S b s) (hs : s.seen.length ≤ 1000000) : Calls Try.prog 28 #[ptr b] w fun e w' => ∃ v, e = .returned (.tuple #[v, er (if s.down then 51 else 0)]) ∧ w'.ownsRow w.heap.size 9 1 v (if s.down then [] else s.seen).length (nameCells (if s.down then [] else s.seen)) ∧ Below w.heap.size w w' := by
  have hN := names_any h hs
  obtain ⟨mo, wv, ⟨c0, c1, c2, c3, c4, c5, c6⟩, hM, _, _⟩ := h.cells
  clear h hM
  unfold er
  unfold ptr at *
  cases hd : s.down with
  | true =>
    rw [hd] at c2
    clear hd hN
    go_enter Try.func28, Try.ntmps28
    go_wp2_with fail
    go_ret2
    exact ⟨_, rfl, World.ownsRow_nil _ _ _ _, Below.refl _ _⟩
  | false =>
    rw [hd] at c2
    clear hd
    go_enter Try.func28, Try.ntmps28
    go_wp2_with fail
    refine hN.mono ?_
    rintro e w1 ⟨v, rfl, hr, hb⟩
    have HR := hid hr
    have HB := hid hb
    clear hr hb hN
    go_wp2_with fail
    go_ret2
    exact ⟨v, rfl, HR.out, HB.out⟩
set_option maxRecDepth 20000 in
theorem list_nil (w : World) : Calls Try.prog 28 #[.pointer none] w fun e w' => e = .returned (.tuple #[.slice none 0 0, er 2]) ∧ w' = w := by
  unfold er
  go_enter Try.func28, Try.ntmps28
  go_wp2_with fail
  go_ret2
  exact ⟨rfl, rfl⟩
end Go.Proofs.Ytgdiaflikfdnaaa
