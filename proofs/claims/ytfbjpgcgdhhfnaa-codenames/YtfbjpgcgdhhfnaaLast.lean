/- A region that draws its order and whose last operation waits for all others, by what each slot holds: whatever the order. No program in it. -/
import Derived.WalkKit
import Derived.WalkSpells
import Derived.Orders
namespace Go.Proofs.Ytfbjpgcgdhhfnaa
open Go.RowKit
/-- how many operations are still to come -/
def toCome (n : Nat) (listed : Array Bool) : Nat := (List.range n).countP fun i => !listed.getD i true
theorem countP_lt {α : Type} (l : List α) (p q : α → Bool) (h : ∀ x ∈ l, q x = true → p x = true) (x : α) (hx : x ∈ l) (hp : p x = true) (hq : q x = false) : l.countP q < l.countP p := by
  induction l with
  | nil => cases hx
  | cons y l ih =>
    have hle : l.countP q ≤ l.countP p := List.countP_mono_left (fun z hz => h z (List.mem_cons_of_mem _ hz))
    rcases List.mem_cons.1 hx with rfl | hx'
    · rw [List.countP_cons_of_pos hp, List.countP_cons_of_neg (by simp [hq])]
      omega
    · have := ih (fun z hz => h z (List.mem_cons_of_mem _ hz)) hx'
      cases hqy : q y
      · rw [List.countP_cons_of_neg (by simp [hqy])]
        cases hpy : p y
        · rw [List.countP_cons_of_neg (by simp [hpy])]; exact this
        · rw [List.countP_cons_of_pos hpy]; omega
      · rw [List.countP_cons_of_pos hqy, List.countP_cons_of_pos (h y (List.mem_cons_self) hqy)]; omega
theorem ready_facts {ops : Array Oper} {listed : Array Bool} {i : Nat} (h : i ∈ Region.ready .any ops listed) : i < ops.size ∧ listed.getD i true = false ∧ ∀ o, ops[i]? = some o → ∀ e ∈ o.after, Region.binds .any e = true → listed.getD e.on false = true := by
  simp only [Region.ready, List.mem_filter, List.mem_range, Bool.and_eq_true, Bool.not_eq_true'] at h
  refine ⟨h.1, h.2.1, fun o ho e he hb => ?_⟩
  have h2 := h.2.2
  rw [ho] at h2
  simp only [Option.map_some, Option.getD_some] at h2
  have h3 := (Array.all_eq_true'.1 h2) e he
  simpa [hb] using h3
theorem wpAny_inv {P : Program} {ops : Array Oper} {Q : Exit → Act → World → Prop} (I : Array Bool → Act → World → Prop) (hsz : ∀ l a w, I l a w → l.size = ops.size)
    (hstep : ∀ l a w, I l a w → ∀ i, i ∈ Region.ready .any ops l → wpOp P ops Q i (fun a' w' => I (l.setIfInBounds i true) a' w') a w)
    (hdone : ∀ l a w, I l a w → Region.ready .any ops l = [] → Q .normal a w) :
    ∀ (fuel : Nat) (l : Array Bool) (a : Act) (w : World), I l a w → toCome ops.size l ≤ fuel → wpAny P .any ops Q fuel l a w := by
  intro fuel
  induction fuel with
  | zero =>
    intro l a w h hl
    have hr : Region.ready .any ops l = [] := by
      cases hr : Region.ready .any ops l with
      | nil => rfl
      | cons i rs =>
        have hi : i ∈ Region.ready .any ops l := by rw [hr]; exact List.mem_cons_self
        obtain ⟨h1, h2, _⟩ := ready_facts hi
        have : 0 < toCome ops.size l := List.countP_pos_iff.2 ⟨i, List.mem_range.2 h1, by simp [h2]⟩
        omega
    exact ⟨hr, hdone l a w h hr⟩
  | succ fuel ih =>
    intro l a w h hl
    refine ⟨hdone l a w h, fun i hi => ?_⟩
    refine wpOp_mono (fun a' w' h' => ih _ a' w' h' ?_) (hstep l a w h i hi)
    obtain ⟨h1, h2, _⟩ := ready_facts hi
    have hs := hsz l a w h
    have : toCome ops.size (l.setIfInBounds i true) < toCome ops.size l := by
      refine countP_lt _ _ _ (fun j _ hj => ?_) i (List.mem_range.2 h1) (by simp [h2]) ?_
      · by_cases hji : i = j
        · subst hji; simp [h2]
        · simpa [Array.getD_eq_getD_getElem?, Array.getElem?_setIfInBounds_ne hji] using hj
      · simp [Array.getD_eq_getD_getElem?, hs, h1]
    omega
/-- the slots that an operation looks at -/
def looksB (o : Oper) : List Nat := o.op.operands.toList.filterMap fun | .tmp t => some t | _ => none
def waits (ops : Array Oper) (j i : Nat) : Bool := match ops[j]? with
  | some o => o.after.any fun e => Region.binds .any e && e.on == i
  | none => false
def lastB (ops : Array Oper) (base : Nat) : Bool :=
  (List.range ops.size).all fun i => match ops[i]? with
    | none => false
    | some o => (o.guard == none) && (o.after.all fun e => decide (e.on < i)) &&
        (decide (i + 1 = ops.size) || ((o.dst == some (base + i)) && ((looksB o).all fun d => decide (d < base) || o.after.any fun e => Region.binds .any e && (base + e.on == d) && decide (e.on + 1 < ops.size)) &&
          ((List.range ops.size).any fun j => decide (i < j) && waits ops j i)))
theorem getD_put {a : Act} {s d : Nat} {v : Value} (h : d ≠ s) : (a.put (some s) v).tmps.getD d undef = a.tmps.getD d undef := by
  simp [Act.put, Array.getD_eq_getD_getElem?, Array.getElem?_setIfInBounds_ne (Ne.symm h)]
theorem getD_put_same {a : Act} {s : Nat} {v : Value} (h : s < a.tmps.size) : (a.put (some s) v).tmps.getD s undef = v := by
  simp [Act.put, Array.getD_eq_getD_getElem?, h]
/-- the frame with so many slots filled -/
def puts (a : Act) (base : Nat) (val : Nat → Value) : Nat → Act
  | 0 => a
  | k + 1 => (puts a base val k).put (some (base + k)) (val k)
theorem puts_size (a : Act) (base : Nat) (val : Nat → Value) : ∀ k, (puts a base val k).tmps.size = a.tmps.size
  | 0 => rfl
  | k + 1 => by rw [← puts_size a base val k]; simp [puts, Act.put]
theorem puts_defers (a : Act) (base : Nat) (val : Nat → Value) : ∀ k, (puts a base val k).defers = a.defers
  | 0 => rfl
  | k + 1 => by rw [← puts_defers a base val k]; simp [puts, Act.put]
theorem puts_get (a : Act) (base : Nat) (val : Nat → Value) (d : Nat) : ∀ k, base + k ≤ a.tmps.size → (puts a base val k).tmps.getD d undef = if base ≤ d ∧ d < base + k then val (d - base) else a.tmps.getD d undef
  | 0, _ => by rw [if_neg (by omega)]; rfl
  | k + 1, h => by
    have ih := puts_get a base val d k (by omega)
    rw [puts]
    by_cases he : d = base + k
    · subst he
      rw [getD_put_same (by rw [puts_size]; omega), if_pos (by omega)]; congr 1; omega
    · rw [getD_put he, ih]
      by_cases h2 : base ≤ d ∧ d < base + k
      · rw [if_pos h2, if_pos (by omega)]
      · rw [if_neg h2, if_neg (by omega)]
theorem ev_puts {a : Act} {base : Nat} {val : Nat → Value} {m : Nat} (k j : Nat) (hm : m = k) (h : base + k ≤ a.tmps.size) (hj : j < k) : (puts a base val m).eval (.tmp (base + j)) = val j := by
  subst hm
  show (puts a base val m).tmps.getD (base + j) undef = _
  rw [puts_get a base val _ m h, if_pos (by omega)]; congr 1; omega
theorem act_ext {a b : Act} (hs : a.tmps.size = b.tmps.size) (hd : a.defers = b.defers) (h : ∀ d, a.tmps.getD d undef = b.tmps.getD d undef) : a = b := by
  have e : a.tmps = b.tmps := by
    apply Array.ext hs
    intro i h1 h2
    have := h i
    simpa [Array.getD_eq_getD_getElem?, h1, h2] using this
  cases a; cases b
  simp only at e hd
  subst e hd
  rfl
theorem wp_region_last {P : Program} {ops : Array Oper} {Q : Exit → Act → World → Prop} {id : Nat} {a : Act} {w : World} (hm : P.follows .mixedOrders = true) (base : Nat) (hB : lastB ops base = true) (hpos : 0 < ops.size) (hN : base + ops.size ≤ a.tmps.size + 1) (C : World → Prop) (val : Nat → Value) (hC : C w.drew)
    (hstep : ∀ i o, ops[i]? = some o → i + 1 < ops.size → ∀ a' w', C w' → (∀ d ∈ looksB o, a'.tmps.getD d undef = if d < base then a.tmps.getD d undef else val (d - base)) → o.wp P a' w' (fun a'' w'' => a'' = a'.put (some (base + i)) (val i) ∧ C w'') Q)
    (hlast : ∀ o w', ops[ops.size - 1]? = some o → C w' → o.wp P (puts a base val (ops.size - 1)) w' (fun a'' w'' => Q .normal a'' w'') Q) : (Code.region id ops true).wp P Q a w := by
  have hB' : ∀ i o, ops[i]? = some o → o.guard = none ∧ (∀ e ∈ o.after, e.on < i) ∧ (i + 1 = ops.size ∨ (o.dst = some (base + i) ∧ (∀ d ∈ looksB o, d < base ∨ ∃ e ∈ o.after, Region.binds .any e = true ∧ base + e.on = d ∧ e.on + 1 < ops.size) ∧ ∃ j, i < j ∧ j < ops.size ∧ ∃ oj, ops[j]? = some oj ∧ ∃ e ∈ oj.after, Region.binds .any e = true ∧ e.on = i)) := fun i o ho => by
    have hi : i < ops.size := (Array.getElem?_eq_some_iff.1 ho).1
    have := (List.all_eq_true.1 hB) i (List.mem_range.2 hi)
    rw [ho] at this
    simp only [Bool.and_eq_true, beq_iff_eq, List.all_eq_true, Bool.or_eq_true, decide_eq_true_eq] at this
    obtain ⟨⟨h1, h2⟩, h3⟩ := this
    refine ⟨h1, fun e he => by simpa using (Array.all_eq_true'.1 h2) e he, ?_⟩
    rcases h3 with h3 | ⟨⟨h4, h5⟩, h6⟩
    · exact .inl h3
    · refine .inr ⟨h4, fun d hd => ?_, ?_⟩
      · rcases h5 d hd with h | h
        · exact .inl h
        · obtain ⟨e, he, hh⟩ := Array.any_eq_true'.1 h
          simp only [Bool.and_eq_true, beq_iff_eq, decide_eq_true_eq] at hh
          exact .inr ⟨e, he, hh.1.1, hh.1.2, hh.2⟩
      · obtain ⟨j, hj, hj2⟩ := List.any_eq_true.1 h6
        simp only [Bool.and_eq_true, decide_eq_true_eq] at hj2
        refine ⟨j, hj2.1, List.mem_range.1 hj, ?_⟩
        have hw := hj2.2
        unfold waits at hw
        cases hoj : ops[j]? with
        | none => rw [hoj] at hw; cases hw
        | some oj =>
          rw [hoj] at hw
          obtain ⟨e, he, hh⟩ := Array.any_eq_true'.1 hw
          simp only [Bool.and_eq_true, beq_iff_eq] at hh
          exact ⟨oj, rfl, e, he, hh.1, hh.2⟩
  let closed : Array Bool → Prop := fun l => ∀ j oj, ops[j]? = some oj → l.getD j false = true → ∀ e ∈ oj.after, Region.binds .any e = true → l.getD e.on false = true
  -- the last one waits for all others
  have hall : ∀ l : Array Bool, closed l → (∀ ol, ops[ops.size - 1]? = some ol → ∀ e ∈ ol.after, Region.binds .any e = true → l.getD e.on false = true) → ∀ k i, ops.size - i = k → i + 1 < ops.size → l.getD i false = true := fun l hcl hl k => by
    induction k using Nat.strongRecOn with
    | _ k ih =>
      intro i hk hi
      obtain ⟨o, ho⟩ : ∃ o, ops[i]? = some o := ⟨_, Array.getElem?_eq_getElem (by omega)⟩
      obtain ⟨_, _, h3⟩ := hB' i o ho
      rcases h3 with h3 | ⟨_, _, j, hj1, hj2, oj, hoj, e, he, hb, hon⟩
      · omega
      · by_cases hjl : j = ops.size - 1
        · subst hjl; rw [← hon]; exact hl oj hoj e he hb
        · rw [← hon]; exact hcl j oj hoj (ih (ops.size - j) (by omega) j rfl (by omega)) e he hb
  let I : Array Bool → Act → World → Prop := fun l a' w' => l.size = ops.size ∧ ((l.getD (ops.size - 1) false = false ∧ closed l ∧ C w' ∧ a'.tmps.size = a.tmps.size ∧ a'.defers = a.defers ∧ (∀ d, d < base ∨ base + (ops.size - 1) ≤ d → a'.tmps.getD d undef = a.tmps.getD d undef) ∧
    (∀ i, i + 1 < ops.size → if l.getD i false = true then a'.tmps.getD (base + i) undef = val i else a'.tmps.getD (base + i) undef = a.tmps.getD (base + i) undef)) ∨ ((∀ i, i < ops.size → l.getD i false = true) ∧ Q .normal a' w'))
  have hset : ∀ (l : Array Bool) (i j : Nat), i ≠ j → (l.setIfInBounds i true).getD j false = l.getD j false := fun l i j h => by
    simp [Array.getD_eq_getD_getElem?, Array.getElem?_setIfInBounds_ne h]
  have hset1 : ∀ (l : Array Bool) (i : Nat), i < l.size → (l.setIfInBounds i true).getD i false = true := fun l i h => by
    simp [Array.getD_eq_getD_getElem?, h]
  have hft : ∀ (l : Array Bool) (i : Nat), l.getD i true = false → l.getD i false = false := fun l i h => by
    by_cases hi : i < l.size
    · simpa [Array.getD_eq_getD_getElem?, hi] using h
    · simp [Array.getD_eq_getD_getElem?, hi] at h
  refine wp_region_any hm (wpAny_inv I (fun l a' w' h => h.1) ?_ ?_ ops.size _ a w.drew ?_ ?_)
  · intro l a' w' hI i hi
    obtain ⟨i1, i2⟩ := hI
    obtain ⟨r1, r2, r3⟩ := ready_facts hi
    rcases i2 with ⟨n1, n2, n3, n4, n5, n6, n7⟩ | ⟨i2, _⟩
    · obtain ⟨o, ho⟩ : ∃ o, ops[i]? = some o := ⟨_, Array.getElem?_eq_getElem r1⟩
      obtain ⟨hg, hon, hk⟩ := hB' i o ho
      have hwant : Region.wanted o (yielded ops a'.tmps) = true := by simp [Region.wanted, hg]
      unfold wpOp
      rw [ho]
      simp only []
      rw [if_pos hwant]
      left
      by_cases hil : i + 1 = ops.size
      · have hil' : i = ops.size - 1 := by omega
        subst hil'
        have hfull := hall l n2 (fun ol hol => r3 ol hol)
        have ea : a' = puts a base val (ops.size - 1) := by
          refine act_ext (by rw [n4, puts_size]) (by rw [n5, puts_defers]) fun d => ?_
          rw [puts_get a base val d _ (by omega)]
          by_cases hd : base ≤ d ∧ d < base + (ops.size - 1)
          · rw [if_pos hd]
            have := n7 (d - base) (by omega)
            rw [if_pos (hfull _ (d - base) rfl (by omega)), show base + (d - base) = d by omega] at this
            exact this
          · rw [if_neg hd]; exact n6 d (by omega)
        rw [ea]
        refine Oper.wp_mono (fun a'' w'' hh => ⟨by simpa using i1, .inr ⟨fun j hj => ?_, hh⟩⟩) (hlast o w' ho n3)
        by_cases hjl : j = ops.size - 1
        · subst hjl; exact hset1 _ _ (by omega)
        · rw [hset _ _ _ (by omega)]; exact hfull _ j rfl (by omega)
      · rcases hk with hk | ⟨hd, hl, _⟩
        · omega
        · refine Oper.wp_mono (fun a'' w'' hh => ?_) (hstep i o ho (by omega) a' w' n3 (fun d hdm => ?_))
          · obtain ⟨rfl, hC'⟩ := hh
            refine ⟨by simpa using i1, .inl ⟨by rw [hset _ _ _ (by omega)]; exact n1, fun j oj hoj hlj e he hb => ?_, hC', by simpa [Act.put] using n4, n5, fun d hd => by rw [getD_put (by omega)]; exact n6 d hd, fun j hj => ?_⟩⟩
            · by_cases hij : i = j
              · subst hij
                rw [ho] at hoj; cases hoj
                have := r3 o ho e he hb
                have hlt := hon e he
                rw [hset _ _ _ (by omega)]; exact this
              · rw [hset _ _ _ hij] at hlj
                have := n2 j oj hoj hlj e he hb
                by_cases hie : i = e.on
                · rw [← hie]; exact hset1 _ _ (by omega)
                · rw [hset _ _ _ hie]; exact this
            · by_cases hij : i = j
              · subst hij
                rw [if_pos (hset1 _ _ (by omega)), getD_put_same (by rw [n4]; omega)]
              · rw [hset _ _ _ hij, getD_put (by omega)]; exact n7 j hj
          · rcases hl d hdm with h | ⟨e, he, hb, hbe, hes⟩
            · rw [if_pos h]; exact n6 d (.inl h)
            · rw [if_neg (by omega)]
              have := n7 e.on hes
              rw [if_pos (r3 o ho e he hb), hbe] at this
              rw [this]; congr 1; omega
    · have := i2 i r1
      rw [hft _ _ r2] at this; cases this
  · intro l a' w' hI hr
    obtain ⟨i1, i2⟩ := hI
    rcases i2 with ⟨n1, n2, n3, n4, n5, n6, n7⟩ | ⟨_, hq⟩
    · exfalso
      have all : ∀ i, i < ops.size → l.getD i false = true := fun i => by
        induction i using Nat.strongRecOn with
        | _ i ih =>
          intro hi
          cases hq : l.getD i false with
          | true => rfl
          | false =>
            exfalso
            obtain ⟨o, ho⟩ : ∃ o, ops[i]? = some o := ⟨_, Array.getElem?_eq_getElem hi⟩
            have hq' : l.getD i true = false := by
              rw [Array.getD_eq_getD_getElem?, Array.getElem?_eq_getElem (by omega)] at hq ⊢; exact hq
            have hm : i ∈ Region.ready .any ops l := by
              simp only [Region.ready, List.mem_filter, List.mem_range, Bool.and_eq_true, Bool.not_eq_true']
              refine ⟨hi, hq', ?_⟩
              rw [ho]
              simp only [Option.map_some, Option.getD_some]
              refine Array.all_eq_true'.2 fun e he => ?_
              have := (hB' i o ho).2.1 e he
              simp [ih e.on this (by omega)]
            rw [hr] at hm; cases hm
      rw [all (ops.size - 1) (by omega)] at n1; cases n1
    · exact hq
  · have hz : ∀ i, (Array.replicate ops.size false).getD i false = false := fun i => by
      by_cases hi : i < ops.size
      · simp [Array.getD_eq_getD_getElem?, hi]
      · simp [Array.getD_eq_getD_getElem?, hi]
    have hcl : closed (Array.replicate ops.size false) := fun j oj _ hl => by rw [hz] at hl; cases hl
    exact ⟨by simp, .inl ⟨hz _, hcl, hC, rfl, rfl, fun _ _ => rfl, fun i _ => by rw [if_neg (by rw [hz]; decide)]⟩⟩
  · exact Nat.le_trans List.countP_le_length (by simp)
/-- each of them by its place, and the last one -/
def AllTo (p : Nat → Oper → Prop) (q : Oper → Prop) : Nat → List Oper → Prop
  | _, [] => True
  | _, [o] => q o
  | i, o :: o' :: l => p i o ∧ AllTo p q (i + 1) (o' :: l)
theorem AllTo.get {p : Nat → Oper → Prop} {q : Oper → Prop} : ∀ {l : List Oper} {n : Nat}, AllTo p q n l → ∀ i o, l[i]? = some o → (i + 1 < l.length → p (n + i) o) ∧ (i + 1 = l.length → q o)
  | [], _, _, i, o, h => by simp at h
  | [x], n, h, 0, o, ho => by simp at ho; subst ho; exact ⟨fun hh => absurd hh (by simp), fun _ => h⟩
  | [x], n, h, i + 1, o, ho => by simp at ho
  | x :: y :: l, n, h, 0, o, ho => by simp at ho; subst ho; exact ⟨fun _ => h.1, fun hh => absurd hh (by simp)⟩
  | x :: y :: l, n, h, i + 1, o, ho => by
    have := AllTo.get h.2 i o (by simpa using ho)
    rw [show n + 1 + i = n + (i + 1) by omega] at this
    exact ⟨fun hh => this.1 (by simpa using hh), fun hh => this.2 (by simpa using hh)⟩
/-- what one operation must do -/
def StepP (P : Program) (Q : Exit → Act → World → Prop) (base : Nat) (a : Act) (C : World → Prop) (val : Nat → Value) (i : Nat) (o : Oper) : Prop :=
  ∀ a' w', C w' → (∀ d ∈ looksB o, a'.tmps.getD d undef = if d < base then a.tmps.getD d undef else val (d - base)) → o.wp P a' w' (fun a'' w'' => a'' = a'.put (some (base + i)) (val i) ∧ C w'') Q
theorem wp_region_last_lit {P : Program} {Q : Exit → Act → World → Prop} {id : Nat} {a : Act} {w : World} {l : List Oper} (hm : P.follows .mixedOrders = true) (base : Nat) (hB : lastB l.toArray base = true) (hpos : 0 < l.length) (hN : base + l.length ≤ a.tmps.size + 1) (C : World → Prop) (val : Nat → Value) (hC : C w.drew)
    (h : AllTo (StepP P Q base a C val) (fun o => ∀ w', C w' → o.wp P (puts a base val (l.length - 1)) w' (fun a'' w'' => Q .normal a'' w'') Q) 0 l) : (Code.region id l.toArray true).wp P Q a w := by
  refine wp_region_last hm base hB (by simpa using hpos) (by simpa using hN) C val hC (fun i o ho hi => ?_) (fun o w' ho hC' => ?_)
  · have := (h.get i o (by simpa using ho)).1 (by simpa using hi)
    rw [Nat.zero_add] at this
    exact this
  · have e : l.toArray.size - 1 = l.length - 1 := by simp
    rw [e] at ho ⊢
    exact (h.get _ o (by simpa using ho)).2 (by omega) w' hC'
/-- an operation that yields a value -/
theorem st_val {P : Program} {Q : Exit → Act → World → Prop} {C : World → Prop} {o : Oper} {a : Act} {w : World} (d : Nat) (v : Value) (hd : o.dst = some d) (hr : (execOp a.eval o).run P w = .ok (.value v) w) (hC : C w) :
    o.wp P a w (fun a'' w'' => a'' = a.put (some d) v ∧ C w'') Q := by
  unfold Oper.wp
  rw [hr]
  show a.put o.dst v = _ ∧ C w
  rw [hd]; exact ⟨rfl, hC⟩
/-- an operation that calls a function -/
theorem st_call {P : Program} {Q : Exit → Act → World → Prop} {C : World → Prop} {o : Oper} {a : Act} {w : World} (d : Nat) (v : Value) (f : FuncId) (args : Array Value) (hd : o.dst = some d) (hr : (execOp a.eval o).run P w = .ok (.enter f args) w)
    (h : Calls P f args w fun e w'' => e = .returned v ∧ C w'') :
    o.wp P a w (fun a'' w'' => a'' = a.put (some d) v ∧ C w'') Q := by
  unfold Oper.wp
  rw [hr, Oper.upon_enter]
  refine h.mono ?_
  rintro e w'' ⟨rfl, h1⟩
  show a.put o.dst v = _ ∧ C w''
  rw [hd]; exact ⟨rfl, h1⟩
/-- a store, as the last one -/
theorem st_store {P : Program} {Q : Exit → Act → World → Prop} {o : Oper} {a : Act} {w w' : World} (hd : o.dst = none) (hr : (execOp a.eval o).run P w = .ok .skip w') (hQ : Q .normal a w') :
    o.wp P a w (fun a'' w'' => Q .normal a'' w'') Q := by
  unfold Oper.wp
  rw [hr]
  show Q .normal (a.put o.dst undef) w'
  rw [hd]; exact hQ
end Go.Proofs.Ytfbjpgcgdhhfnaa
