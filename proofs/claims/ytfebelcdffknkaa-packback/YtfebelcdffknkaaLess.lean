/- Chunks without one of them, and turned about: what appends come to. -/
import Derived.Test.YtfebelcdffknkaaNames
namespace Go.Proofs.Ytfebelcdffknkaa
open Go.RowKit Go.Maps
open Pk
set_option linter.unusedVariables false
theorem info9 : (Try.prog.info? 9).map (fun i => (i.zero, i.size, i.bytes)) = some (some (.string ⟨#[]⟩), 1, 16) := by kernel_rfl
theorem row_below {W W' : World} {b : Nat} {e : TypeId} {v : Value} {n : Nat} {xs : List Value} (h : W.ownsRow b e 1 v n xs) (hb : Below W.heap.size W W') : W'.ownsRow b e 1 v n xs := by
  refine h.kept (row := none) ⟨hb.os, hb.tape, hb.output, hb.size, fun k hk _ => hb.block k hk⟩ ?_
  cases v.ownBlock with
  | none => exact .inl rfl
  | some k => exact .inr (by simp)
/-- what stands in a row of texts -/
theorem tx_news {w : World} {g o : Nat} {l : List ByteArray} {p q : Nat} (h : Tx w (some ⟨g, o, none⟩) l) (hq : p + q ≤ l.length) : ∀ j u, (((l.drop p).take q).map Value.string)[j]? = some u → w.cell? ((⟨g, o + p, none⟩ : Addr).add j) = some u := by
  intro j u hj
  rw [List.getElem?_map] at hj
  cases hx : ((l.drop p).take q)[j]? with
  | none => rw [hx] at hj; cases hj
  | some s =>
    rw [hx] at hj
    have hjq : j < q := by
      have := (List.getElem?_eq_some_iff.1 hx).1
      rw [List.length_take] at this; omega
    rw [List.getElem?_take_of_lt hjq, List.getElem?_drop] at hx
    obtain ⟨g', o', e, hg, hc⟩ := h (p + j) (by omega)
    cases e
    have ea : (⟨g, o + p, none⟩ : Addr).add j = ⟨g, o + p + j, none⟩ := by unfold Addr.add; split <;> simp_all
    rw [ea, show o + p + j = o + (p + j) by omega, hc, List.getD_eq_getElem?_getD, hx]
    cases hj; rfl
theorem one_str (l : List ByteArray) : ∀ u ∈ l.map Value.string, u.oneCell' = true := by
  intro u hu
  obtain ⟨s, _, rfl⟩ := List.mem_map.1 hu
  rfl
/-- append of texts to an empty row -/
theorem app_empty {w : World} {g g1 o c k : Nat} {l : List ByteArray} {ty : TypeId} {base : Nat} (hg : Has w g #[] 9) (hb : base ≤ g) (h : Tx w (some ⟨g1, o, none⟩) l) (hk : k ≤ l.length) (hk2 : k ≤ 1000000) (hbw : base ≤ w.heap.size) :
    ∃ v' w', (Builtin.append_ #[24, 24] ty #[.slice (some ⟨g, 0, none⟩) 0 0, .slice (some ⟨g1, o, none⟩) k c]).run Try.prog w = .ok v' w' ∧ w'.ownsRow base 9 1 v' k ((l.take k).map Value.string) ∧ Below w.heap.size w w' := by
  obtain ⟨i, hi, hz0, hz1, hz2⟩ := info_parts info9
  by_cases h0 : k = 0
  · subst h0
    refine ⟨.slice (some ⟨g, 0, none⟩) 0 0, w, ?_, ⟨by simp, .inr ⟨g, 0, #[], rfl, hb, hg, Nat.le_refl _, Nat.zero_le _, rfl, rfl⟩⟩, Below.refl _ _⟩
    have hf := run_firstCells_some (P := Try.prog) w i.size 0 ⟨g1, o, none⟩ 0 c [] (by simp) (fun j u hj => by simp at hj)
    simp [Builtin.append_, run_underlying Try.underlying24, sizeOf, typeInfo, hi, Builtin.lenOf, hf, storeCells]
  · have hnews := tx_news (p := 0) (q := k) h (by omega)
    rw [List.drop_zero, Nat.add_zero] at hnews
    have hl : ((l.take k).map Value.string).length = k * 1 := by rw [List.length_map, List.length_take]; omega
    have hr := run_append_grow (P := Try.prog) w 24 ty 9 i (.string ⟨#[]⟩) Try.underlying24 hi hz0 ⟨g, 0, none⟩ 0 0 [] (by simp) (fun j u hj => by simp at hj) ⟨g1, o, none⟩ k c ((l.take k).map Value.string) (by rw [hz1]; exact hl) hnews (by omega) (by omega) (by rw [nextslicecap_zero (by omega), hz2]; omega)
    refine ⟨_, _, hr, ?_, (Below.refl _ w).drew.alloc (Nat.le_refl _) _⟩
    have hge := grownCap_ge w (0 + k) 0 9
    have hcm := grownCap_le_maxLen w (0 + k) 0 9 (by unfold maxLen; omega)
    rw [Nat.zero_add] at hge hcm ⊢
    refine ⟨hl, .inr ⟨w.heap.size, _, _, rfl, hbw, heap_alloc_new w.drew _, hge, hcm, ?_, ?_⟩⟩
    · simp only [Array.size_append, List.size_toArray, size_zeroCells, hl]
      have e : (Value.string (⟨#[]⟩ : ByteArray)).cells.size = 1 := rfl
      rw [e, List.length_nil]; omega
    · simp only [Array.toList_append, List.nil_append]
      rw [← hl]
      exact List.take_left
section
variable {ev : Operand → Value} {o : Oper} {w : World} {x y z : Operand}
theorem rn_bs0 (ho : o.op = .buildSlice 24 0 #[]) : (execOp ev o).run Try.prog w = .ok (.value (.slice (some ⟨w.heap.size, 0, none⟩) 0 0)) (w.alloc (.cells #[] 9)) := by
  simp [execOp, ho, go_sem]
theorem rn_slT {g f n c k : Nat} (ho : o.op = .slice 24 x none (some y) none) (hx : ev x = .slice (some ⟨g, f, none⟩) n c) (hy : ev y = .int .i64 (k : Int)) (hk : k ≤ c) : (execOp ev o).run Try.prog w = .ok (.value (.slice (some ⟨g, f, none⟩) k c)) w := by
  have q1 : (k : Int) ≤ (c : Int) := by omega
  simp [execOp, ho, hx, hy, go_sem, q1]
theorem rn_slF {g f n c k o2 : Nat} (ho : o.op = .slice 24 x (some y) none none) (hx : ev x = .slice (some ⟨g, f, none⟩) n c) (hy : ev y = .int .i64 (k : Int)) (hk : k ≤ n) (hn : n ≤ c) (ho2 : (if c = k then f else f + k) = o2) : (execOp ev o).run Try.prog w = .ok (.value (.slice (some ⟨g, o2, none⟩) (n - k) (c - k))) w := by
  subst ho2
  have q1 : (k : Int) ≤ (n : Int) := by omega
  by_cases e : c = k
  · have : n = k := by omega
    subst e; subst this
    simp [execOp, ho, hx, hy, go_sem]
  · simp [execOp, ho, hx, hy, go_sem, q1, e]
theorem rn_app {v v' : Value} {w' : World} {u : Value} {t : TypeId} (ho : o.op = .call { callee := .builtin .append, args := #[x, y], argTypes := #[24, 24] }) (hx : ev x = v) (hy : ev y = u) (ht : o.type = t) (hr : (Builtin.append_ #[24, 24] t #[v, u]).run Try.prog w = .ok v' w') : (execOp ev o).run Try.prog w = .ok (.value v') w' := by
  subst ht
  simp [execOp, ho, hx, hy, resolve, invoke, builtin, hr, Result.andThen]
end
theorem less_tot (l : List ByteArray) (k : Nat) : (l.take k ++ l.drop (k + 1)).map bs = (l.map bs).take k ++ (l.map bs).drop (k + 1) := by
  rw [List.map_append, List.map_take, List.map_drop]
theorem mayB_less {l : List ByteArray} (hM : May (l.map bs)) (k : Nat) (hk : k < l.length) : mayB (l.take k ++ l.drop (k + 1)) = decide (0 < (l.take k ++ l.drop (k + 1)).length) := by
  have hlen : (l.take k ++ l.drop (k + 1)).length = l.length - 1 := by rw [List.length_append, List.length_take, List.length_drop]; omega
  by_cases h1 : 1 < l.length
  · have := hM.less k (by rw [List.length_map]; exact hk) (by rw [List.length_map]; exact h1)
    rw [mayB_yes (by rw [less_tot]; exact this), decide_eq_true (by omega)]
  · rw [mayB_no (fun h => by have := h.one; rw [List.length_map] at this; omega), decide_eq_false (by omega)]
theorem mayB_back {l : List ByteArray} (hM : May (l.map bs)) : mayB l.reverse = true := mayB_yes (by rw [List.map_reverse]; exact hM.back)
theorem tot_less (l : List ByteArray) (k : Nat) : tot (l.take k ++ l.drop (k + 1)) ≤ tot l := by
  have e1 : tot (l.take k ++ l.drop (k + 1)) = tot (l.take k) + tot (l.drop (k + 1)) := by unfold tot; rw [List.map_append, total_app]
  have e2 : tot l = tot (l.take (k + 1)) + tot (l.drop (k + 1)) := by
    conv => lhs; rw [← List.take_append_drop (k + 1) l]
    unfold tot; rw [List.map_append, total_app]
  have e3 : tot (l.take k) ≤ tot (l.take (k + 1)) := by
    have := tot_take_le (l.take (k + 1)) k
    rw [List.take_take, Nat.min_eq_left (by omega)] at this
    exact this
  omega
theorem tot_rev (l : List ByteArray) : tot l.reverse = tot l := by
  unfold tot total; rw [List.map_reverse, List.map_reverse, List.sum_reverse]
/-- what the slots of the shorter list's statement hold -/
def lsV (g1 o1 m cap p o2 : Nat) : Nat → Value
  | 165 => .slice (some ⟨g1, o1, none⟩) m cap
  | 166 => .int .i64 (p : Int)
  | 167 => .slice (some ⟨g1, o1, none⟩) p cap
  | 169 => .slice (some ⟨g1, o1, none⟩) m cap
  | 170 => .int .i64 (p : Int)
  | 171 => .int .i64 ((p + 1 : Nat) : Int)
  | 172 => .slice (some ⟨g1, o2, none⟩) (m - (p + 1)) (cap - (p + 1))
  | _ => undef
def lsF (base g1 o1 m cap p o2 : Nat) (l : List ByteArray) (d : Nat) (v : Value) (W : World) : Prop := match d with
  | 164 => ∃ b, v = .slice (some ⟨b, 0, none⟩) 0 0 ∧ base ≤ b ∧ Has W b #[] 9
  | 168 => W.ownsRow base 9 1 v p ((l.take p).map Value.string)
  | d => v = lsV g1 o1 m cap p o2 d
theorem lsF_mono {base g1 o1 m cap p o2 : Nat} {l : List ByteArray} {W W' : World} (hb : Below W.heap.size W W') (d : Nat) (v : Value) (h : lsF base g1 o1 m cap p o2 l d v W) : lsF base g1 o1 m cap p o2 l d v W' := by
  by_cases h1 : d = 164
  · subst h1
    obtain ⟨b, e, h2, h3⟩ := h
    exact ⟨b, e, h2, h3.below hb h3.lt⟩
  · by_cases h2 : d = 168
    · subst h2
      exact row_below (W := W) h hb
    · have e : ∀ X, lsF base g1 o1 m cap p o2 l d v X = (v = lsV g1 o1 m cap p o2 d) := fun X => by
        unfold lsF
        split <;> first | omega | rfl
      rw [e] at h ⊢
      exact h
theorem kth (n : Int) (m : Nat) (hm : 1 ≤ m) (hm2 : m ≤ 1000000) : ∃ p : Nat, p < m ∧ wrap64 ((IntKind.u64.wrap n).tmod (m : Int)) = (p : Int) := by
  have e : IntKind.u64.wrap n = ((n % 18446744073709551616).toNat : Int) := by
    simp [IntKind.wrap, IntKind.bits, IntKind.signed]
    omega
  refine ⟨(n % 18446744073709551616).toNat % m, Nat.mod_lt _ (by omega), ?_⟩
  have h1 : (n % 18446744073709551616).toNat % m < m := Nat.mod_lt _ (by omega)
  rw [e, ← Int.ofNat_tmod]
  generalize (n % 18446744073709551616).toNat % m = q at *
  unfold wrap64
  omega
end Go.Proofs.Ytfebelcdffknkaa
