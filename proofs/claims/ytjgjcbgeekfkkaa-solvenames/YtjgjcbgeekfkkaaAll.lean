/- A region that draws its order and only makes new memory, by what each slot holds when it is done: whatever the order. No program in it. -/
import Derived.Test.YtjgjcbgeekfkkaaLast
import Derived.Test.YtjgjcbgeekfkkaaHeap
namespace Go.Proofs.Ytjgjcbgeekfkkaa
open Go.RowKit
def allB (ops : Array Oper) (base : Nat) : Bool :=
  (List.range ops.size).all fun i => match ops[i]? with
    | none => false
    | some o => (o.guard == none) && (o.after.all fun e => decide (e.on < i)) && (o.dst == some (base + i)) && ((looksB o).all fun d => o.after.any fun e => Region.binds .any e && (base + e.on == d) && decide (e.on < ops.size))
theorem wp_region_all {P : Program} {ops : Array Oper} {Q : Exit → Act → World → Prop} {id : Nat} {a : Act} {w : World} (hm : P.follows .mixedOrders = true) (base : Nat) (hB : allB ops base = true) (hN : base + ops.size ≤ a.tmps.size) (C : World → Prop) (F : Nat → Value → World → Prop)
    (hmono : ∀ i v w w', F i v w → Below w.heap.size w w' → F i v w') (hC : C w.drew)
    (hstep : ∀ i o, ops[i]? = some o → ∀ a' w', C w' → (∀ j, base + j ∈ looksB o → F j (a'.tmps.getD (base + j) undef) w') → o.wp P a' w' (fun a'' w'' => ∃ v, a'' = a'.put (some (base + i)) v ∧ C w'' ∧ Below w'.heap.size w' w'' ∧ F i v w'') Q)
    (hend : ∀ val w', C w' → (∀ i, i < ops.size → F i (val i) w') → Q .normal (puts a base val ops.size) w') : (Code.region id ops true).wp P Q a w := by
  have hB' : ∀ i o, ops[i]? = some o → o.guard = none ∧ (∀ e ∈ o.after, e.on < i) ∧ o.dst = some (base + i) ∧ (∀ d ∈ looksB o, ∃ e ∈ o.after, Region.binds .any e = true ∧ base + e.on = d ∧ e.on < ops.size) := fun i o ho => by
    have hi : i < ops.size := (Array.getElem?_eq_some_iff.1 ho).1
    have := (List.all_eq_true.1 hB) i (List.mem_range.2 hi)
    rw [ho] at this
    simp only [Bool.and_eq_true, beq_iff_eq, List.all_eq_true] at this
    obtain ⟨⟨⟨h1, h2⟩, h3⟩, h4⟩ := this
    refine ⟨h1, fun e he => by simpa using (Array.all_eq_true'.1 h2) e he, h3, fun d hd => ?_⟩
    obtain ⟨e, he, hh⟩ := Array.any_eq_true'.1 (h4 d hd)
    simp only [Bool.and_eq_true, beq_iff_eq, decide_eq_true_eq] at hh
    exact ⟨e, he, hh.1.1, hh.1.2, hh.2⟩
  let I : Array Bool → Act → World → Prop := fun l a' w' => l.size = ops.size ∧ C w' ∧ a'.tmps.size = a.tmps.size ∧ a'.defers = a.defers ∧ (∀ d, d < base ∨ base + ops.size ≤ d → a'.tmps.getD d undef = a.tmps.getD d undef) ∧
    (∀ i, i < ops.size → l.getD i false = true → F i (a'.tmps.getD (base + i) undef) w')
  refine wp_region_any hm (wpAny_inv I (fun l a' w' h => h.1) ?_ ?_ ops.size _ a w.drew ?_ ?_)
  · intro l a' w' hI i hi
    obtain ⟨i1, i2, i3, i4, i5, i6⟩ := hI
    obtain ⟨r1, r2, r3⟩ := ready_facts hi
    obtain ⟨o, ho⟩ : ∃ o, ops[i]? = some o := ⟨_, Array.getElem?_eq_getElem r1⟩
    obtain ⟨hg, hon, hd, hl⟩ := hB' i o ho
    have hwant : Region.wanted o (yielded ops a'.tmps) = true := by simp [Region.wanted, hg]
    unfold wpOp
    rw [ho]
    simp only []
    rw [if_pos hwant]
    left
    refine Oper.wp_mono (fun a'' w'' hh => ?_) (hstep i o ho a' w' i2 (fun j hj => ?_))
    · obtain ⟨v, rfl, c1, c2, c3⟩ := hh
      refine ⟨by simpa using i1, c1, by simpa [Act.put] using i3, i4, fun d hd => by rw [getD_put (by omega)]; exact i5 d hd, fun j hj hjl => ?_⟩
      by_cases hij : i = j
      · subst hij; rw [getD_put_same (by omega)]; exact c3
      · rw [getD_put (by omega)]
        refine hmono _ _ w' w'' (i6 j hj ?_) c2
        simpa [Array.getD_eq_getD_getElem?, Array.getElem?_setIfInBounds_ne hij] using hjl
    · obtain ⟨e, he, hb, hbe, hes⟩ := hl _ hj
      obtain rfl : e.on = j := by omega
      exact i6 _ hes (r3 o ho e he hb)
  · intro l a' w' hI hr
    obtain ⟨i1, i2, i3, i4, i5, i6⟩ := hI
    have all : ∀ i, i < ops.size → l.getD i false = true := fun i => by
      induction i using Nat.strongRecOn with
      | _ i ih =>
        intro hi
        cases hq : l.getD i false with
        | true => rfl
        | false =>
          exfalso
          obtain ⟨o, ho⟩ : ∃ o, ops[i]? = some o := ⟨_, Array.getElem?_eq_getElem hi⟩
          have hq' : l.getD i true = false := by
            rw [Array.getD_eq_getD_getElem?, Array.getElem?_eq_getElem (by omega)] at hq ⊢; exact hq
          have hm : i ∈ Region.ready .any ops l := by
            simp only [Region.ready, List.mem_filter, List.mem_range, Bool.and_eq_true, Bool.not_eq_true']
            refine ⟨hi, hq', ?_⟩
            rw [ho]
            simp only [Option.map_some, Option.getD_some]
            refine Array.all_eq_true'.2 fun e he => ?_
            have := (hB' i o ho).2.1 e he
            simp [ih e.on this (by omega)]
          rw [hr] at hm; cases hm
    have ea : a' = puts a base (fun i => a'.tmps.getD (base + i) undef) ops.size := by
      refine act_ext (by rw [i3, puts_size]) (by rw [i4, puts_defers]) fun d => ?_
      rw [puts_get a base _ d _ (by omega)]
      by_cases hd : base ≤ d ∧ d < base + ops.size
      · rw [if_pos hd, show base + (d - base) = d by omega]
      · rw [if_neg hd]; exact i5 d (by omega)
    rw [ea]
    exact hend _ w' i2 (fun i hi => i6 i hi (all i hi))
  · refine ⟨by simp, hC, rfl, rfl, fun _ _ => rfl, fun i hi hl => ?_⟩
    simp [Array.getD_eq_getD_getElem?, hi] at hl
  · exact Nat.le_trans List.countP_le_length (by simp)
/-- each of them by its place -/
def AllFrom (p : Nat → Oper → Prop) : Nat → List Oper → Prop
  | _, [] => True
  | i, o :: l => p i o ∧ AllFrom p (i + 1) l
theorem AllFrom.get {p : Nat → Oper → Prop} : ∀ {l : List Oper} {n : Nat}, AllFrom p n l → ∀ i o, l[i]? = some o → p (n + i) o
  | [], _, _, i, o, h => by simp at h
  | x :: l, n, h, 0, o, ho => by simp at ho; subst ho; exact h.1
  | x :: l, n, h, i + 1, o, ho => by
    have := AllFrom.get h.2 i o (by simpa using ho)
    rw [show n + 1 + i = n + (i + 1) by omega] at this
    exact this
/-- what one operation must do -/
def StepF (P : Program) (Q : Exit → Act → World → Prop) (base : Nat) (C : World → Prop) (F : Nat → Value → World → Prop) (i : Nat) (o : Oper) : Prop :=
  ∀ a' w', C w' → (∀ j, base + j ∈ looksB o → F j (a'.tmps.getD (base + j) undef) w') → o.wp P a' w' (fun a'' w'' => ∃ v, a'' = a'.put (some (base + i)) v ∧ C w'' ∧ Below w'.heap.size w' w'' ∧ F i v w'') Q
theorem wp_region_all_lit {P : Program} {Q : Exit → Act → World → Prop} {id : Nat} {a : Act} {w : World} {l : List Oper} (hm : P.follows .mixedOrders = true) (base : Nat) (hB : allB l.toArray base = true) (hN : base + l.length ≤ a.tmps.size) (C : World → Prop) (F : Nat → Value → World → Prop)
    (hmono : ∀ i v w w', F i v w → Below w.heap.size w w' → F i v w') (hC : C w.drew) (hstep : AllFrom (StepF P Q base C F) 0 l)
    (hend : ∀ val w', C w' → (∀ i, i < l.length → F i (val i) w') → Q .normal (puts a base val l.length) w') : (Code.region id l.toArray true).wp P Q a w := by
  refine wp_region_all hm base hB (by simpa using hN) C F hmono hC (fun i o ho => ?_) (fun val w' hc hf => ?_)
  · have := hstep.get i o (by simpa using ho)
    rw [Nat.zero_add] at this
    exact this
  · have e : l.toArray.size = l.length := by simp
    rw [e] at hf ⊢
    exact hend val w' hc hf
/-- an operation that yields a value in memory that it makes -/
theorem st_new {P : Program} {Q : Exit → Act → World → Prop} {C : World → Prop} {F : Value → World → Prop} {o : Oper} {a : Act} {w w' : World} (d : Nat) (v : Value) (hd : o.dst = some d) (hr : (execOp a.eval o).run P w = .ok (.value v) w') (hC : C w') (hb : Below w.heap.size w w') (hF : F v w') :
    o.wp P a w (fun a'' w'' => ∃ v, a'' = a.put (some d) v ∧ C w'' ∧ Below w.heap.size w w'' ∧ F v w'') Q := by
  unfold Oper.wp
  rw [hr]
  show ∃ v', a.put o.dst v = _ ∧ _
  rw [hd]; exact ⟨v, rfl, hC, hb, hF⟩
end Go.Proofs.Ytjgjcbgeekfkkaa
