/- Rows copied: append to an empty row that was made. -/
import Derived.Test.YtknddbmnciodaaaGreatMk
import Derived.Test.YtknddbmnciodaaaGreatFun
import Derived.Shelf.SlicesE.Clone
namespace Go.Proofs.YtknddbmnciodaaaGreat
open Go.RowKit
open Ix
set_option linter.unusedVariables false
theorem app_nil {P : Program} {w : World} {g : Nat} {t ty e : TypeId} {i : TypeInfo} {z : Value} {size bytes base : Nat} (ht : P.underlying t = some (.slice e)) (hi : P.info? e = some i) (hz : i.zero = some z)
    (hsize : i.size = size) (hby : i.bytes = bytes) (hzs : z.cells.size = size) (hg : Has w g #[] e) (hb : base ≤ g) (a : Addr) (m c : Nat) (news : List Value) (hl : news.length = m * size)
    (hnews : ∀ j u, news[j]? = some u → w.cell? (a.add j) = some u) (h63 : m ≤ maxLen) (hbytes : m * bytes ≤ 140737488355328) :
    ∃ v' w', (Builtin.append_ #[t, t] ty #[.slice (some ⟨g, 0, none⟩) 0 0, .slice (some a) m c]).run P w = .ok v' w' ∧ w'.ownsRow base e size v' m news ∧ Below w.heap.size w w' := by
  have hbw : base ≤ w.heap.size := Nat.le_trans hb (Nat.le_of_lt hg.lt)
  by_cases h0 : m = 0
  · subst h0
    obtain rfl : news = [] := List.eq_nil_of_length_eq_zero (by rw [hl]; simp)
    refine ⟨.slice (some ⟨g, 0, none⟩) 0 0, w, ?_, ⟨by simp, .inr ⟨g, 0, #[], rfl, hb, hg, Nat.le_refl _, Nat.zero_le _, by simp, by simp⟩⟩, Below.refl _ _⟩
    have hf := run_firstCells_some (P := P) w i.size 0 a 0 c [] (by simp) (fun j u hj => by simp at hj)
    simp [Builtin.append_, run_underlying ht, sizeOf, typeInfo, hi, Builtin.lenOf, hf, storeCells]
  · subst hby
    have hsmall : m ≤ 9223372036854775807 := by simp only [maxLen] at h63; omega
    have hr := run_append_grow (P := P) w t ty e i z ht hi hz ⟨g, 0, none⟩ 0 0 [] (by simp) (fun j u hj => by simp at hj) a m c news (by rw [hsize]; exact hl) hnews (by omega) (by omega) (growslice_fits (by omega) (by rw [Nat.zero_add]; exact hbytes))
    refine ⟨_, _, hr, ?_, (Below.refl _ w).drew.alloc (Nat.le_refl _) _⟩
    have hge := grownCap_ge w (0 + m) 0 e
    have hcm := grownCap_le_maxLen w (0 + m) 0 e (by rw [Nat.zero_add]; exact h63)
    rw [Nat.zero_add] at hge hcm ⊢
    refine ⟨hl, .inr ⟨w.heap.size, _, _, rfl, hbw, heap_alloc_new w.drew _, hge, hcm, ?_, ?_⟩⟩
    · simp only [Array.size_append, List.size_toArray, size_zeroCells, hl, hzs, List.length_nil, Nat.zero_add]
      rw [← Nat.add_mul]; congr 1; omega
    · simp only [Array.toList_append, List.nil_append]
      rw [← hl]
      exact List.take_left
theorem wpList_val {ops : Array Oper} {rest : List Oper} {o : Oper} {a : Act} {w w' : World} {v : Value} {Q : Exit → Act → World → Prop} (hgd : o.guard = none) (hr : (execOp a.eval o).run Tryz.prog w = .ok (.value v) w') (h : wpList Tryz.prog ops Q rest (a.put o.dst v) w') : wpList Tryz.prog ops Q (o :: rest) a w :=
  wpList_plain hgd fun K hK => by
    unfold Oper.wp
    rw [hr]
    exact hK _ _ h
section
variable {ev : Operand → Value} {o : Oper} {w w' : World} {x y : Operand} {u v v' : Value} {t : TypeId}
theorem rn_app25 (ho : o.op = .call { callee := .builtin .append, args := #[x, y], argTypes := #[29, 29] }) (hx : ev x = v) (hy : ev y = u) (ht : o.type = t) (hr : (Builtin.append_ #[29, 29] t #[v, u]).run Tryz.prog w = .ok v' w') : (execOp ev o).run Tryz.prog w = .ok (.value v') w' := by
  subst ht
  simp [execOp, ho, hx, hy, resolve, invoke, builtin, hr, Result.andThen]
theorem rn_app26 (ho : o.op = .call { callee := .builtin .append, args := #[x, y], argTypes := #[30, 30] }) (hx : ev x = v) (hy : ev y = u) (ht : o.type = t) (hr : (Builtin.append_ #[30, 30] t #[v, u]).run Tryz.prog w = .ok v' w') : (execOp ev o).run Tryz.prog w = .ok (.value v') w' := by
  subst ht
  simp [execOp, ho, hx, hy, resolve, invoke, builtin, hr, Result.andThen]
end
/-- a copy of no places -/
theorem cloneZ_any (a : Addr) (c : Nat) (w : World) : Calls Tryz.prog 47 #[.slice (some a) 0 c] w fun e w' => ∃ B c', e = .returned (.slice B 0 c') ∧ Below w.heap.size w w' := by
  obtain ⟨i, hi, h1, h2, h3⟩ := info_parts info37z
  have q26 : ∀ (w : World) (a : Option Addr) (n c n' c' : Nat), (binOp .eql 30 (.slice a n c) (.slice none n' c')).run Tryz.prog w = .ok (.bool a.isNone) w := fun w a n c n' c' => Lib.run_eql_slice_nil w _ _ a n c n' c' Tryz.underlying30
  have hA : ∀ ty, ∃ v' w', (Builtin.append_ #[30, 30] ty #[.slice (some ⟨w.heap.size, 0, none⟩) 0 0, .slice (some a) 0 c]).run Tryz.prog (w.alloc (.cells #[] 24)) = .ok v' w' ∧ w'.ownsRow w.heap.size 24 3 v' 0 [] ∧ Below (w.alloc (.cells #[] 24)).heap.size (w.alloc (.cells #[] 24)) w' := fun ty =>
    app_nil Tryz.underlying30 hi h1 h2 h3 rfl (Has.new w _ #[] 24 rfl) (Nat.le_refl _) a 0 c [] rfl (fun j u hj => by simp at hj) (Nat.zero_le _) (by omega)
  obtain ⟨v', w', hr, hown, hb⟩ := hA 30
  have HB : Hid (Below w.heap.size w w') := hid (((Below.refl _ w).alloc (Nat.le_refl _) _).trans (hb.mono (by simp)))
  have HV : Hid (∃ B c', v' = .slice B 0 c') := hid (by
    rcases hown.2 with ⟨rfl, _⟩ | ⟨g, cap, cur, rfl, _⟩
    · exact ⟨_, _, rfl⟩
    · exact ⟨_, _, rfl⟩)
  clear hA hown hb hi h1 h2 h3
  go_enter Tryz.func47, Tryz.ntmps47
  go_wp2_with (at_builtin; go_loud (refine wpList_val rfl (rn_app26 rfl rfl rfl rfl hr) ?_))
  go_ret
  obtain ⟨B, c', rfl⟩ := HV.out
  exact ⟨B, c', rfl, HB.out⟩
end Go.Proofs.YtknddbmnciodaaaGreat

