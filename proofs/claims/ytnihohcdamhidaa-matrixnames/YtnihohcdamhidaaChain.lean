/- A region that draws its order, by what each slot holds when it is done: whatever the order. No program in it. -/
import Derived.WalkKit
import Derived.WalkSpells
import Derived.Orders
namespace Go.Proofs.Ytnihohcdamhidaa
open Go.RowKit
/-- how many operations are still to come -/
def toCome (n : Nat) (listed : Array Bool) : Nat := (List.range n).countP fun i => !listed.getD i true
theorem countP_lt {α : Type} (l : List α) (p q : α → Bool) (h : ∀ x ∈ l, q x = true → p x = true) (x : α) (hx : x ∈ l) (hp : p x = true) (hq : q x = false) : l.countP q < l.countP p := by
  induction l with
  | nil => cases hx
  | cons y l ih =>
    have hle : l.countP q ≤ l.countP p := List.countP_mono_left (fun z hz => h z (List.mem_cons_of_mem _ hz))
    rcases List.mem_cons.1 hx with rfl | hx'
    · rw [List.countP_cons_of_pos hp, List.countP_cons_of_neg (by simp [hq])]
      omega
    · have := ih (fun z hz => h z (List.mem_cons_of_mem _ hz)) hx'
      cases hqy : q y
      · rw [List.countP_cons_of_neg (by simp [hqy])]
        cases hpy : p y
        · rw [List.countP_cons_of_neg (by simp [hpy])]; exact this
        · rw [List.countP_cons_of_pos hpy]; omega
      · rw [List.countP_cons_of_pos hqy, List.countP_cons_of_pos (h y (List.mem_cons_self) hqy)]; omega
theorem ready_facts {ops : Array Oper} {listed : Array Bool} {i : Nat} (h : i ∈ Region.ready .any ops listed) : i < ops.size ∧ listed.getD i true = false ∧ ∀ o, ops[i]? = some o → ∀ e ∈ o.after, Region.binds .any e = true → listed.getD e.on false = true := by
  simp only [Region.ready, List.mem_filter, List.mem_range, Bool.and_eq_true, Bool.not_eq_true'] at h
  refine ⟨h.1, h.2.1, fun o ho e he hb => ?_⟩
  have h2 := h.2.2
  rw [ho] at h2
  simp only [Option.map_some, Option.getD_some] at h2
  have h3 := (Array.all_eq_true'.1 h2) e he
  simpa [hb] using h3
theorem wpAny_inv {P : Program} {ops : Array Oper} {Q : Exit → Act → World → Prop} (I : Array Bool → Act → World → Prop) (hsz : ∀ l a w, I l a w → l.size = ops.size)
    (hstep : ∀ l a w, I l a w → ∀ i, i ∈ Region.ready .any ops l → wpOp P ops Q i (fun a' w' => I (l.setIfInBounds i true) a' w') a w)
    (hdone : ∀ l a w, I l a w → Region.ready .any ops l = [] → Q .normal a w) :
    ∀ (fuel : Nat) (l : Array Bool) (a : Act) (w : World), I l a w → toCome ops.size l ≤ fuel → wpAny P .any ops Q fuel l a w := by
  intro fuel
  induction fuel with
  | zero =>
    intro l a w h hl
    have hr : Region.ready .any ops l = [] := by
      cases hr : Region.ready .any ops l with
      | nil => rfl
      | cons i rs =>
        have hi : i ∈ Region.ready .any ops l := by rw [hr]; exact List.mem_cons_self
        obtain ⟨h1, h2, _⟩ := ready_facts hi
        have : 0 < toCome ops.size l := List.countP_pos_iff.2 ⟨i, List.mem_range.2 h1, by simp [h2]⟩
        omega
    exact ⟨hr, hdone l a w h hr⟩
  | succ fuel ih =>
    intro l a w h hl
    refine ⟨hdone l a w h, fun i hi => ?_⟩
    refine wpOp_mono (fun a' w' h' => ih _ a' w' h' ?_) (hstep l a w h i hi)
    obtain ⟨h1, h2, _⟩ := ready_facts hi
    have hs := hsz l a w h
    have : toCome ops.size (l.setIfInBounds i true) < toCome ops.size l := by
      refine countP_lt _ _ _ (fun j _ hj => ?_) i (List.mem_range.2 h1) (by simp [h2]) ?_
      · by_cases hji : i = j
        · subst hji; simp [h2]
        · simpa [Array.getD_eq_getD_getElem?, Array.getElem?_setIfInBounds_ne hji] using hj
      · simp [Array.getD_eq_getD_getElem?, hs, h1]
    omega
/-- operation i puts its value into slot base + i, the last one into slot r -/
def slotAt (base r n i : Nat) : Nat := if i + 1 = n then r else base + i
/-- the slots that an operation looks at, its guard's with them -/
def looksB (base : Nat) (o : Oper) : List Nat :=
  (o.op.operands.toList.filterMap fun | .tmp t => some t | _ => none) ++ (match o.guard with | some (g, _) => [base + g] | none => [])
/-- does the guard let it be run? -/
def wantS (base : Nat) (o : Oper) (a : Act) : Bool :=
  match o.guard with
  | none => true
  | some (g, b) => match a.tmps.getD (base + g) undef with
    | .bool c => c == b
    | _ => false
def chainB (ops : Array Oper) (base r : Nat) : Bool :=
  (List.range ops.size).all fun i => match ops[i]? with
    | none => false
    | some o => (o.dst == some (slotAt base r ops.size i)) && ((looksB base o).all fun d => (decide (d < base) && d != r) || o.after.any fun e => Region.binds .any e && (base + e.on == d) && decide (e.on + 1 < ops.size)) &&
        (match o.guard with | some (g, _) => decide (g + 1 < ops.size) | none => true) && (o.after.all fun e => decide (e.on < i))
theorem getD_put {a : Act} {s d : Nat} {v : Value} (h : d ≠ s) : (a.put (some s) v).tmps.getD d undef = a.tmps.getD d undef := by
  simp [Act.put, Array.getD_eq_getD_getElem?, Array.getElem?_setIfInBounds_ne (Ne.symm h)]
theorem getD_put_same {a : Act} {s : Nat} {v : Value} (h : s < a.tmps.size) : (a.put (some s) v).tmps.getD s undef = v := by
  simp [Act.put, Array.getD_eq_getD_getElem?, h]
theorem wp_region_chain {P : Program} {ops : Array Oper} {Q : Exit → Act → World → Prop} {id : Nat} {a : Act} {w : World} (hm : P.follows .mixedOrders = true) (base r : Nat) (hB : chainB ops base r = true) (hrb : r < base ∨ r + 1 = base + ops.size) (hr : r < a.tmps.size) (C : World → Prop) (F : Nat → Value → World → Prop)
    (hmono : ∀ d v w w', F d v w → Below w.heap.size w w' → F d v w') (hC : C w.drew) (h0 : ∀ d, d < base → d ≠ r → F d (a.tmps.getD d undef) w.drew)
    (hN : base + ops.size ≤ a.tmps.size + 1)
    (hstep : ∀ o ∈ ops.toList, ∀ a' w', C w' → (∀ d ∈ looksB base o, F d (a'.tmps.getD d undef) w') →
      if wantS base o a' = true then o.wp P a' w' (fun a'' w'' => ∃ v, a'' = a'.put o.dst v ∧ C w'' ∧ Below w'.heap.size w' w'' ∧ ∀ d, o.dst = some d → F d v w'') Q else ∀ d, o.dst = some d → F d undef w')
    (hend : ∀ a' w', C w' → F r (a'.tmps.getD r undef) w' → a'.defers = a.defers → a'.tmps.size = a.tmps.size → (∀ d, d < base → d ≠ r → F d (a'.tmps.getD d undef) w') → Q .normal a' w')
    (hpos : 0 < ops.size) : (Code.region id ops true).wp P Q a w := by
  have hB' : ∀ i o, ops[i]? = some o → o.dst = some (slotAt base r ops.size i) ∧ (∀ d ∈ looksB base o, (d < base ∧ d ≠ r) ∨ ∃ e ∈ o.after, Region.binds .any e = true ∧ base + e.on = d ∧ e.on + 1 < ops.size) ∧ (∀ g b, o.guard = some (g, b) → g + 1 < ops.size) ∧ (∀ e ∈ o.after, e.on < i) := fun i o ho => by
    have hi : i < ops.size := (Array.getElem?_eq_some_iff.1 ho).1
    have := (List.all_eq_true.1 hB) i (List.mem_range.2 hi)
    rw [ho] at this
    simp only [Bool.and_eq_true, beq_iff_eq, List.all_eq_true, Bool.or_eq_true, decide_eq_true_eq, bne_iff_ne, ne_eq] at this
    obtain ⟨⟨⟨h1, h2⟩, h3⟩, h4⟩ := this
    refine ⟨h1, fun d hd => ?_, fun g b hg => ?_, fun e he => by simpa using (Array.all_eq_true'.1 h4) e he⟩
    · rcases h2 d hd with h | h
      · exact .inl h
      · obtain ⟨e, he, hh⟩ := Array.any_eq_true'.1 h
        simp only [Bool.and_eq_true, beq_iff_eq, decide_eq_true_eq] at hh
        exact .inr ⟨e, he, hh.1.1, hh.1.2, hh.2⟩
    · rw [hg] at h3; simpa using h3
  have hwant : ∀ i o, ops[i]? = some o → ∀ a', Region.wanted o (yielded ops a'.tmps) = wantS base o a' := fun i o ho a' => by
    unfold Region.wanted wantS
    cases hg : o.guard with
    | none => rfl
    | some p =>
      obtain ⟨g, b⟩ := p
      have hgn := (hB' i o ho).2.2.1 g b hg
      have hgo : ∃ og, ops[g]? = some og := ⟨_, Array.getElem?_eq_getElem (by omega)⟩
      obtain ⟨og, hog⟩ := hgo
      have hd := (hB' g og hog).1
      have hs : slotAt base r ops.size g = base + g := if_neg (by omega)
      simp only [yielded, hog, Option.bind_some, hd, hs, Array.getD_eq_getD_getElem?]
      cases hv : a'.tmps[base + g]? with
      | none => simp [undef]
      | some v => cases v <;> simp
  have hfull : ∀ l : Array Bool, l.size = ops.size → Region.ready .any ops l = [] → l.getD (ops.size - 1) false = true := fun l hl hr => by
    have all : ∀ i, i < ops.size → l.getD i false = true := fun i => by
      induction i using Nat.strongRecOn with
      | _ i ih =>
        intro hi
        cases hq : l.getD i false with
        | true => rfl
        | false =>
          exfalso
          obtain ⟨o, ho⟩ : ∃ o, ops[i]? = some o := ⟨_, Array.getElem?_eq_getElem hi⟩
          have hq' : l.getD i true = false := by
            rw [Array.getD_eq_getD_getElem?, Array.getElem?_eq_getElem (by omega)] at hq ⊢; exact hq
          have hm : i ∈ Region.ready .any ops l := by
            simp only [Region.ready, List.mem_filter, List.mem_range, Bool.and_eq_true, Bool.not_eq_true']
            refine ⟨hi, hq', ?_⟩
            rw [ho]
            simp only [Option.map_some, Option.getD_some]
            refine Array.all_eq_true'.2 fun e he => ?_
            have := (hB' i o ho).2.2.2 e he
            simp [ih e.on this (by omega)]
          rw [hr] at hm; cases hm
    exact all _ (by omega)
  let I : Array Bool → Act → World → Prop := fun l a' w' => l.size = ops.size ∧ C w' ∧ a'.tmps.size = a.tmps.size ∧ a'.defers = a.defers ∧ (∀ d, d < base → d ≠ r → F d (a'.tmps.getD d undef) w') ∧
    (∀ i, i < ops.size → l.getD i false = true → F (slotAt base r ops.size i) (a'.tmps.getD (slotAt base r ops.size i) undef) w')
  refine wp_region_any hm (wpAny_inv I (fun l a' w' h => h.1) ?_ ?_ ops.size _ a w.drew ?_ ?_)
  · intro l a' w' hI i hi
    obtain ⟨i1, i2, i3, i4, i5, i6⟩ := hI
    obtain ⟨r1, r2, r3⟩ := ready_facts hi
    obtain ⟨o, ho⟩ : ∃ o, ops[i]? = some o := ⟨_, Array.getElem?_eq_getElem r1⟩
    obtain ⟨hd, hl, hgg, _⟩ := hB' i o ho
    have hF : ∀ d ∈ looksB base o, F d (a'.tmps.getD d undef) w' := fun d hdm => by
      rcases hl d hdm with ⟨p1, p2⟩ | ⟨e, he, p1, p2, p3⟩
      · exact i5 d p1 p2
      · have := i6 e.on (by omega) (r3 o ho e he p1)
        rw [show slotAt base r ops.size e.on = base + e.on from if_neg (by omega), p2] at this
        exact this
    have hs := hstep o (by rw [Array.mem_toList_iff]; exact Array.mem_of_getElem? ho) a' w' i2 hF
    have hput : ∀ v w'', C w'' → Below w'.heap.size w' w'' → F (slotAt base r ops.size i) v w'' → I (l.setIfInBounds i true) (a'.put o.dst v) w'' := fun v w'' c1 c2 c3 => by
      rw [hd]
      have hss : slotAt base r ops.size i < a'.tmps.size := by unfold slotAt; split <;> omega
      refine ⟨by simpa using i1, c1, by simpa [Act.put] using i3, i4, fun d p1 p2 => ?_, fun j hj hjl => ?_⟩
      · rw [getD_put (by unfold slotAt; split <;> omega)]
        exact hmono d _ w' w'' (i5 d p1 p2) c2
      · by_cases hji : j = i
        · subst hji; rw [getD_put_same hss]; exact c3
        · rw [getD_put (by unfold slotAt; split <;> split <;> omega)]
          refine hmono _ _ w' w'' (i6 j hj ?_) c2
          simpa [Array.getD_eq_getD_getElem?, Array.getElem?_setIfInBounds_ne (Ne.symm hji)] using hjl
    unfold wpOp
    rw [ho]
    simp only []
    rw [hwant i o ho a']
    by_cases hw : wantS base o a' = true
    · rw [if_pos hw] at hs ⊢
      refine .inl (Oper.wp_mono (fun a'' w'' hh => ?_) hs)
      obtain ⟨v, rfl, c1, c2, c3⟩ := hh
      exact hput v w'' c1 c2 (c3 _ hd)
    · rw [if_neg hw] at hs ⊢
      exact hput undef w' i2 (Below.refl _ _) (hs _ hd)
  · intro l a' w' hI hr
    obtain ⟨i1, i2, i3, i4, i5, i6⟩ := hI
    have := i6 (ops.size - 1) (by omega) (hfull l i1 hr)
    rw [show slotAt base r ops.size (ops.size - 1) = r from if_pos (by omega)] at this
    exact hend a' w' i2 this i4 i3 i5
  · refine ⟨by simp, hC, rfl, rfl, h0, fun i hi hl => ?_⟩
    simp [Array.getD_eq_getD_getElem?, hi] at hl
  · exact Nat.le_trans List.countP_le_length (by simp)
/-- each of them -/
def AllL (p : Oper → Prop) : List Oper → Prop
  | [] => True
  | o :: l => p o ∧ AllL p l
theorem AllL.mem {p : Oper → Prop} : ∀ {l : List Oper}, AllL p l → ∀ o ∈ l, p o
  | [], _, _, h => by cases h
  | _ :: _, h, o, ho => by
    rcases List.mem_cons.1 ho with rfl | ho
    · exact h.1
    · exact AllL.mem h.2 o ho
/-- what one operation must do -/
def StepP (P : Program) (Q : Exit → Act → World → Prop) (base : Nat) (C : World → Prop) (F : Nat → Value → World → Prop) (o : Oper) : Prop :=
  ∀ a' w', C w' → (∀ d ∈ looksB base o, F d (a'.tmps.getD d undef) w') →
      if wantS base o a' = true then o.wp P a' w' (fun a'' w'' => ∃ v, a'' = a'.put o.dst v ∧ C w'' ∧ Below w'.heap.size w' w'' ∧ ∀ d, o.dst = some d → F d v w'') Q else ∀ d, o.dst = some d → F d undef w'
theorem wp_region_chain_lit {P : Program} {Q : Exit → Act → World → Prop} {id : Nat} {l : List Oper} {a : Act} {w : World} (hm : P.follows .mixedOrders = true) (base r : Nat) (hB : chainB l.toArray base r = true) (hrb : r < base ∨ r + 1 = base + l.length) (hr : r < a.tmps.size) (C : World → Prop) (F : Nat → Value → World → Prop)
    (hmono : ∀ d v w w', F d v w → Below w.heap.size w w' → F d v w') (hC : C w.drew) (h0 : ∀ d, d < base → d ≠ r → F d (a.tmps.getD d undef) w.drew)
    (hN : base + l.length ≤ a.tmps.size + 1) (hpos : 0 < l.length) (hstep : AllL (StepP P Q base C F) l)
    (hend : ∀ a' w', C w' → F r (a'.tmps.getD r undef) w' → a'.defers = a.defers → a'.tmps.size = a.tmps.size → (∀ d, d < base → d ≠ r → F d (a'.tmps.getD d undef) w') → Q .normal a' w') : (Code.region id l.toArray true).wp P Q a w :=
  wp_region_chain hm base r hB (by simpa using hrb) hr C F hmono hC h0 (by simpa using hN) (fun o ho => hstep.mem o (by simpa using ho)) hend (by simpa using hpos)
/-- an operation that yields a value -/
theorem st_val {P : Program} {Q : Exit → Act → World → Prop} {base : Nat} {C : World → Prop} {F : Nat → Value → World → Prop} {o : Oper} {a : Act} {w w' : World} (d : Nat) (v : Value) (hd : o.dst = some d) (hw : wantS base o a = true) (hr : (execOp a.eval o).run P w = .ok (.value v) w') (hC : C w') (hb : Below w.heap.size w w') (hF : F d v w') :
    if wantS base o a = true then o.wp P a w (fun a'' w'' => ∃ v, a'' = a.put o.dst v ∧ C w'' ∧ Below w.heap.size w w'' ∧ ∀ d, o.dst = some d → F d v w'') Q else ∀ d, o.dst = some d → F d undef w := by
  rw [if_pos hw]
  unfold Oper.wp
  rw [hr]
  exact ⟨v, rfl, hC, hb, fun d' h' => by rw [hd] at h'; cases h'; exact hF⟩
/-- an operation that calls a function -/
theorem st_call {P : Program} {Q : Exit → Act → World → Prop} {base : Nat} {C : World → Prop} {F : Nat → Value → World → Prop} {o : Oper} {a : Act} {w w' : World} (d : Nat) (f : FuncId) (args : Array Value) (hd : o.dst = some d) (hw : wantS base o a = true) (hr : (execOp a.eval o).run P w = .ok (.enter f args) w')
    (h : Calls P f args w' fun e w'' => ∃ v, e = .returned v ∧ C w'' ∧ Below w.heap.size w w'' ∧ F d v w'') :
    if wantS base o a = true then o.wp P a w (fun a'' w'' => ∃ v, a'' = a.put o.dst v ∧ C w'' ∧ Below w.heap.size w w'' ∧ ∀ d, o.dst = some d → F d v w'') Q else ∀ d, o.dst = some d → F d undef w := by
  rw [if_pos hw]
  unfold Oper.wp
  rw [hr, Oper.upon_enter]
  refine h.mono ?_
  rintro e w'' ⟨v, rfl, h1, h2, h3⟩
  exact ⟨v, rfl, h1, h2, fun d' h' => by rw [hd] at h'; cases h'; exact h3⟩
end Go.Proofs.Ytnihohcdamhidaa
