/- The table of CodeNames: what Decode and Rebuild answer of each; laid in any order (a region that only makes memory, by what each slot holds). -/
import Derived.Test.YtfbjpgcgdhhfnaaLast
import Derived.Test.YtfbjpgcgdhhfnaaHeap
import Derived.Test.YtfbjpgcgdhhfnaaCWorks
import Derived.Test.YtfbjpgcgdhhfnaaCAnyM
import Derived.Test.YtfbjpgcgdhhfnaaOps
namespace Go.Proofs.Ytfbjpgcgdhhfnaa
open Go.RowKit
def allB (ops : Array Oper) (base : Nat) : Bool :=
  (List.range ops.size).all fun i => match ops[i]? with
    | none => false
    | some o => (o.guard == none) && (o.after.all fun e => decide (e.on < i)) && (o.dst == some (base + i)) && ((looksB o).all fun d => decide (d < base) || o.after.any fun e => Region.binds .any e && (base + e.on == d) && decide (e.on < ops.size))
theorem wp_region_all {P : Program} {ops : Array Oper} {Q : Exit → Act → World → Prop} {id : Nat} {a : Act} {w : World} (hm : P.follows .mixedOrders = true) (base : Nat) (hB : allB ops base = true) (hN : base + ops.size ≤ a.tmps.size) (C : World → Prop) (F : Nat → Value → World → Prop)
    (hmono : ∀ i v w w', F i v w → Below w.heap.size w w' → F i v w') (hC : C w.drew)
    (hstep : ∀ i o, ops[i]? = some o → ∀ a' w', C w' → (∀ d, d < base → a'.tmps.getD d undef = a.tmps.getD d undef) → (∀ j, base + j ∈ looksB o → F j (a'.tmps.getD (base + j) undef) w') → o.wp P a' w' (fun a'' w'' => ∃ v, a'' = a'.put (some (base + i)) v ∧ C w'' ∧ Below w'.heap.size w' w'' ∧ F i v w'') Q)
    (hend : ∀ val w', C w' → (∀ i, i < ops.size → F i (val i) w') → Q .normal (puts a base val ops.size) w') : (Code.region id ops true).wp P Q a w := by
  have hB' : ∀ i o, ops[i]? = some o → o.guard = none ∧ (∀ e ∈ o.after, e.on < i) ∧ o.dst = some (base + i) ∧ (∀ d ∈ looksB o, d < base ∨ ∃ e ∈ o.after, Region.binds .any e = true ∧ base + e.on = d ∧ e.on < ops.size) := fun i o ho => by
    have hi : i < ops.size := (Array.getElem?_eq_some_iff.1 ho).1
    have := (List.all_eq_true.1 hB) i (List.mem_range.2 hi)
    rw [ho] at this
    simp only [Bool.and_eq_true, beq_iff_eq, List.all_eq_true] at this
    obtain ⟨⟨⟨h1, h2⟩, h3⟩, h4⟩ := this
    refine ⟨h1, fun e he => by simpa using (Array.all_eq_true'.1 h2) e he, h3, fun d hd => ?_⟩
    rcases (Bool.or_eq_true _ _).mp (h4 d hd) with h | h
    · exact .inl (of_decide_eq_true h)
    obtain ⟨e, he, hh⟩ := Array.any_eq_true'.1 h
    simp only [Bool.and_eq_true, beq_iff_eq, decide_eq_true_eq] at hh
    exact .inr ⟨e, he, hh.1.1, hh.1.2, hh.2⟩
  let I : Array Bool → Act → World → Prop := fun l a' w' => l.size = ops.size ∧ C w' ∧ a'.tmps.size = a.tmps.size ∧ a'.defers = a.defers ∧ (∀ d, d < base ∨ base + ops.size ≤ d → a'.tmps.getD d undef = a.tmps.getD d undef) ∧
    (∀ i, i < ops.size → l.getD i false = true → F i (a'.tmps.getD (base + i) undef) w')
  refine wp_region_any hm (wpAny_inv I (fun l a' w' h => h.1) ?_ ?_ ops.size _ a w.drew ?_ ?_)
  · intro l a' w' hI i hi
    obtain ⟨i1, i2, i3, i4, i5, i6⟩ := hI
    obtain ⟨r1, r2, r3⟩ := ready_facts hi
    obtain ⟨o, ho⟩ : ∃ o, ops[i]? = some o := ⟨_, Array.getElem?_eq_getElem r1⟩
    obtain ⟨hg, hon, hd, hl⟩ := hB' i o ho
    have hwant : Region.wanted o (yielded ops a'.tmps) = true := by simp [Region.wanted, hg]
    unfold wpOp
    rw [ho]
    simp only []
    rw [if_pos hwant]
    left
    refine Oper.wp_mono (fun a'' w'' hh => ?_) (hstep i o ho a' w' i2 (fun d hd => i5 d (.inl hd)) (fun j hj => ?_))
    · obtain ⟨v, rfl, c1, c2, c3⟩ := hh
      refine ⟨by simpa using i1, c1, by simpa [Act.put] using i3, i4, fun d hd => by rw [getD_put (by omega)]; exact i5 d hd, fun j hj hjl => ?_⟩
      by_cases hij : i = j
      · subst hij; rw [getD_put_same (by omega)]; exact c3
      · rw [getD_put (by omega)]
        refine hmono _ _ w' w'' (i6 j hj ?_) c2
        simpa [Array.getD_eq_getD_getElem?, Array.getElem?_setIfInBounds_ne hij] using hjl
    · obtain ⟨e, he, hb, hbe, hes⟩ := (hl _ hj).resolve_left (by omega)
      obtain rfl : e.on = j := by omega
      exact i6 _ hes (r3 o ho e he hb)
  · intro l a' w' hI hr
    obtain ⟨i1, i2, i3, i4, i5, i6⟩ := hI
    have all : ∀ i, i < ops.size → l.getD i false = true := fun i => by
      induction i using Nat.strongRecOn with
      | _ i ih =>
        intro hi
        cases hq : l.getD i false with
        | true => rfl
        | false =>
          exfalso
          obtain ⟨o, ho⟩ : ∃ o, ops[i]? = some o := ⟨_, Array.getElem?_eq_getElem hi⟩
          have hq' : l.getD i true = false := by
            rw [Array.getD_eq_getD_getElem?, Array.getElem?_eq_getElem (by omega)] at hq ⊢; exact hq
          have hm : i ∈ Region.ready .any ops l := by
            simp only [Region.ready, List.mem_filter, List.mem_range, Bool.and_eq_true, Bool.not_eq_true']
            refine ⟨hi, hq', ?_⟩
            rw [ho]
            simp only [Option.map_some, Option.getD_some]
            refine Array.all_eq_true'.2 fun e he => ?_
            have := (hB' i o ho).2.1 e he
            simp [ih e.on this (by omega)]
          rw [hr] at hm; cases hm
    have ea : a' = puts a base (fun i => a'.tmps.getD (base + i) undef) ops.size := by
      refine act_ext (by rw [i3, puts_size]) (by rw [i4, puts_defers]) fun d => ?_
      rw [puts_get a base _ d _ (by omega)]
      by_cases hd : base ≤ d ∧ d < base + ops.size
      · rw [if_pos hd, show base + (d - base) = d by omega]
      · rw [if_neg hd]; exact i5 d (by omega)
    rw [ea]
    exact hend _ w' i2 (fun i hi => i6 i hi (all i hi))
  · refine ⟨by simp, hC, rfl, rfl, fun _ _ => rfl, fun i hi hl => ?_⟩
    simp [Array.getD_eq_getD_getElem?, hi] at hl
  · exact Nat.le_trans List.countP_le_length (by simp)
/-- each of them by its place -/
def AllFrom (p : Nat → Oper → Prop) : Nat → List Oper → Prop
  | _, [] => True
  | i, o :: l => p i o ∧ AllFrom p (i + 1) l
theorem AllFrom.get {p : Nat → Oper → Prop} : ∀ {l : List Oper} {n : Nat}, AllFrom p n l → ∀ i o, l[i]? = some o → p (n + i) o
  | [], _, _, i, o, h => by simp at h
  | x :: l, n, h, 0, o, ho => by simp at ho; subst ho; exact h.1
  | x :: l, n, h, i + 1, o, ho => by
    have := AllFrom.get h.2 i o (by simpa using ho)
    rw [show n + 1 + i = n + (i + 1) by omega] at this
    exact this
/-- what one operation must do -/
def StepF (P : Program) (Q : Exit → Act → World → Prop) (a : Act) (base : Nat) (C : World → Prop) (F : Nat → Value → World → Prop) (i : Nat) (o : Oper) : Prop :=
  ∀ a' w', C w' → (∀ d, d < base → a'.tmps.getD d undef = a.tmps.getD d undef) → (∀ j, base + j ∈ looksB o → F j (a'.tmps.getD (base + j) undef) w') → o.wp P a' w' (fun a'' w'' => ∃ v, a'' = a'.put (some (base + i)) v ∧ C w'' ∧ Below w'.heap.size w' w'' ∧ F i v w'') Q
theorem wp_region_all_lit {P : Program} {Q : Exit → Act → World → Prop} {id : Nat} {a : Act} {w : World} {l : List Oper} (hm : P.follows .mixedOrders = true) (base : Nat) (hB : allB l.toArray base = true) (hN : base + l.length ≤ a.tmps.size) (C : World → Prop) (F : Nat → Value → World → Prop)
    (hmono : ∀ i v w w', F i v w → Below w.heap.size w w' → F i v w') (hC : C w.drew) (hstep : AllFrom (StepF P Q a base C F) 0 l)
    (hend : ∀ val w', C w' → (∀ i, i < l.length → F i (val i) w') → Q .normal (puts a base val l.length) w') : (Code.region id l.toArray true).wp P Q a w := by
  refine wp_region_all hm base hB (by simpa using hN) C F hmono hC (fun i o ho => ?_) (fun val w' hc hf => ?_)
  · have := hstep.get i o (by simpa using ho)
    rw [Nat.zero_add] at this
    exact this
  · have e : l.toArray.size = l.length := by simp
    rw [e] at hf ⊢
    exact hend val w' hc hf
/-- an operation that yields a value in memory that it makes -/
theorem st_new {P : Program} {Q : Exit → Act → World → Prop} {C : World → Prop} {F : Value → World → Prop} {o : Oper} {a : Act} {w w' : World} (d : Nat) (v : Value) (hd : o.dst = some d) (hr : (execOp a.eval o).run P w = .ok (.value v) w') (hC : C w') (hb : Below w.heap.size w w') (hF : F v w') :
    o.wp P a w (fun a'' w'' => ∃ v, a'' = a.put (some d) v ∧ C w'' ∧ Below w.heap.size w w'' ∧ F v w'') Q := by
  unfold Oper.wp
  rw [hr]
  show ∃ v', a.put o.dst v = _ ∧ _
  rw [hd]; exact ⟨v, rfl, hC, hb, hF⟩
end Go.Proofs.Ytfbjpgcgdhhfnaa
namespace Go.Proofs.Ytfbjpgcgdhhfnaa
open Go.RowKit
def abc : List Nat := [97, 98, 99]
def p0 : List Nat := [0, 0, 0, 0, 0, 0]
def p1 : List Nat := [0, 3, 97, 98, 99, 0]
def p2 : List Nat := payL 2 abc 2
structure Cas where
  K : Int
  N : Int
  zs : List Int
  ps : List (List Nat)
  er : Int
def tabC : List Cas := [⟨3, 2, [0, 1], [p0, p1], 1⟩, ⟨2, 3, [0], [p0, p1], 1⟩, ⟨2, 3, [0, 3], [p0, p1], 1⟩, ⟨2, 3, [-1, 0], [p0, p1], 1⟩, ⟨2, 3, [], [], 54⟩, ⟨2, 3, [2], [p2], 54⟩,
  ⟨2, 3, [0, 1], [p0, p1 ++ [0]], 4⟩, ⟨2, 3, [0, 1], [[], []], 4⟩, ⟨2, 3, [0, 1], [[0, 0], [0, 0]], 4⟩, ⟨2, 3, [0, 1], [p0, [0, 3, 97, 98, 99, 100]], 4⟩, ⟨2, 3, [0, 1], [p0, [0, 2, 97, 98, 99, 0]], 4⟩, ⟨2, 3, [0, 1], [p0, [0, 5, 97, 98, 99, 0]], 4⟩,
  ⟨2, 3, [0, 1], [[0, 0, 0, 0, 0, 1], p1], 4⟩, ⟨2, 3, [0, 1], [[128, 0, 0, 0, 0, 0], p1], 4⟩, ⟨2, 3, [0, 1], [p0 ++ [0], p1 ++ [0]], 4⟩, ⟨2, 3, [0, 1], [[0, 0, 0, 0, 0, 0, 0], [3, 97, 98, 99, 0, 0, 0]], 4⟩,
  ⟨2, 3, [1, 0], [p1, p0], 0⟩, ⟨2, 3, [2, 0], [p2, p0], 0⟩, ⟨2, 3, [2, 1, 0], [p2, p1, p0], 0⟩, ⟨2, 3, [2, 1, 0], [p2, p1, p1], 4⟩, ⟨2, 3, [0, 1, 2], [p0, p1, p1], 4⟩]
def dataD (K : Nat) (zs : List Int) (ps : List (List Nat)) : Nat → Nat := flatD K (ps.getD 0 []).length (fun i => (zs.getD i 0).toNat) (fun i t => (ps.getD i []).getD t 0)
/-- no blob has them -/
def noB (K : Nat) (zs : List Int) (ps : List (List Nat)) : Bool :=
  !mayL K ps || (decide (K * (ps.getD 0 []).length < 8 + num (dataD K zs ps) 8) || !decide (∀ i, i < zs.length → ps.getD i [] = payL K (rowN (num (dataD K zs ps) 8) (fun i => dataD K zs ps (8 + i))) (zs.getD i 0).toNat))
theorem noB_is {K N : Nat} {zs : List Int} {ps : List (List Nat)} (h1 : 1 ≤ K) (hK : K ≤ 12) (hN : N ≤ 12) (hg : goodZ (N : Int) zs) (hl : zs.length = ps.length) (hz : K ≤ zs.length) (h : noB K zs ps = true) : ¬ ∃ b, IsOf K zs ps b := by
  rintro ⟨b, hb⟩
  have hm := mayL_of hb hl (by omega)
  obtain ⟨_, _, hj⟩ := mayL_facts hm
  obtain ⟨e1, e2, e3⟩ := isOf_blob h1 hK hN (chosen_first hg hz) (fun i hi => hj i (by omega)) hb rfl
  have e1' : num (dataD K zs ps) 8 = b.length := e1
  have e3' : rowN (num (dataD K zs ps) 8) (fun i => dataD K zs ps (8 + i)) = b := e3
  unfold noB at h
  rw [hm, e3', e1'] at h
  simp only [Bool.not_true, Bool.false_or, Bool.or_eq_true, decide_eq_true_eq, Bool.not_eq_true', decide_eq_false_iff_not] at h
  rcases h with h | h
  · omega
  · exact h hb.2.2
instance (K N : Int) (zs : List Int) (ps : List (List Nat)) : Decidable (PreD K N zs ps) := by unfold PreD; infer_instance
instance (K : Nat) (zs : List Int) (ps : List (List Nat)) (b : List Nat) : Decidable (IsOf K zs ps b) := by unfold IsOf; infer_instance
def okC (c : Cas) : Bool :=
  (decide (c.er = 1) && !decide (PreD c.K c.N c.zs c.ps)) || (decide (PreD c.K c.N c.zs c.ps) && decide (2 < c.N) &&
    ((decide (c.er = 54) && decide ((c.zs.length : Int) < c.K)) || (!decide ((c.zs.length : Int) < c.K) && ((decide (c.er = 0) && decide (IsOf c.K.toNat c.zs c.ps abc)) || (decide (c.er = 4) && noB c.K.toNat c.zs c.ps)))))
theorem okC_is {c : Cas} (h : okC c = true) : ∃ s s', DecIs c.K c.N c.zs c.ps s c.er ∧ RebIs c.K c.N c.zs c.ps 2 s' c.er ∧ ((c.er = 0 ∧ s = abc ∧ s' = payL c.K.toNat abc 2) ∨ (c.er ≠ 0 ∧ s = [] ∧ s' = [])) := by
  have reb : ∀ {s er}, DecIs c.K c.N c.zs c.ps s er → er ≠ 0 → (er = 1 ∨ 2 < c.N) → RebIs c.K c.N c.zs c.ps 2 [] er := fun {s er} hd he hn => by
    by_cases hm : Mx.mayC c.K c.N = true ∧ (0 : Int) ≤ 2 ∧ 2 < c.N
    · exact .inr ⟨hm, s, er, hd, .inl ⟨he, rfl, rfl⟩⟩
    · rcases hn with rfl | hn
      · exact .inl ⟨hm, rfl, rfl⟩
      · have hp : ¬ PreD c.K c.N c.zs c.ps := fun hp => hm ⟨hp.1, by decide, hn⟩
        rcases hd with ⟨_, _, rfl⟩ | ⟨a, _⟩ | ⟨a, _⟩
        · exact .inl ⟨hm, rfl, rfl⟩
        · exact absurd a hp
        · exact absurd a hp
  unfold okC at h
  simp only [Bool.or_eq_true, Bool.and_eq_true, decide_eq_true_eq, Bool.not_eq_true', decide_eq_false_iff_not] at h
  rcases h with ⟨e, hp⟩ | ⟨⟨hp, hn⟩, h⟩
  · have hd : DecIs c.K c.N c.zs c.ps [] 1 := .inl ⟨hp, rfl, rfl⟩
    rw [e]
    exact ⟨[], [], hd, reb hd (by decide) (.inl rfl), .inr ⟨by decide, rfl, rfl⟩⟩
  · rcases h with ⟨e, hl⟩ | ⟨hl, h⟩
    · have hd : DecIs c.K c.N c.zs c.ps [] 54 := .inr (.inl ⟨hp, hl, rfl, rfl⟩)
      rw [e]
      exact ⟨[], [], hd, reb hd (by decide) (.inr hn), .inr ⟨by decide, rfl, rfl⟩⟩
    · rcases h with ⟨e, h⟩ | ⟨e, h⟩
      · have hd : DecIs c.K c.N c.zs c.ps abc 0 := .inr (.inr ⟨hp, hl, .inl ⟨h, rfl⟩⟩)
        rw [e]
        exact ⟨abc, _, hd, .inr ⟨⟨hp.1, by decide, hn⟩, abc, 0, hd, .inr ⟨rfl, rfl, rfl⟩⟩, .inl ⟨rfl, rfl, rfl⟩⟩
      · have hd : DecIs c.K c.N c.zs c.ps [] 4 := by
          refine .inr (.inr ⟨hp, hl, .inr ⟨?_, rfl, rfl⟩⟩)
          obtain ⟨k, n, e1, e2, h1, h2, h3⟩ := mayC_facts hp.1
          have hg := hp.2.2
          rw [e1] at hl h ⊢
          rw [e2] at hg
          exact noB_is h1 (by omega) h3 hg hp.2.1 (by omega) h
        rw [e]
        exact ⟨[], [], hd, reb hd (by decide) (.inr hn), .inr ⟨by decide, rfl, rfl⟩⟩
theorem tab_ok : ∀ c ∈ tabC, okC c = true := by
  have : tabC.all okC = true := by decide +kernel
  exact List.all_eq_true.1 this
end Go.Proofs.Ytfbjpgcgdhhfnaa
namespace Go.Proofs.Ytfbjpgcgdhhfnaa
open Go.RowKit
instance : Inhabited Cas := ⟨⟨0, 0, [], [], 0⟩⟩
def casAt (w : World) (g i : Nat) (c : Cas) : Prop := ∃ a1 n1 c1 a2 n2 c2, w.cell? ⟨g, i, none⟩ = some (.int .i64 c.K) ∧ w.cell? ⟨g, i + 1, none⟩ = some (.int .i64 c.N) ∧ w.cell? ⟨g, i + 2, none⟩ = some (.slice a1 n1 c1) ∧ w.cell? ⟨g, i + 3, none⟩ = some (.slice a2 n2 c2) ∧ w.cell? ⟨g, i + 4, none⟩ = some (.int .i64 c.er) ∧ Ints64 w (.slice a1 n1 c1) c.zs ∧ Strs w (.slice a2 n2 c2) c.ps
def TabAt (w : World) (v : Value) : Prop := ∃ g, v = .slice (some ⟨g, 0, none⟩) 21 21 ∧ g < w.heap.size ∧ ∀ i, i < 21 → casAt w g (i * 5) (tabC.getD i default)
inductive Dsc where
  | val (v : Value)
  | ints (zs : List Int)
  | strs (ps : List (List Nat))
  | cas (c : Cas)
  | tab
def Dsc.F : Dsc → Value → World → Prop
  | .val u, v, _ => v = u
  | .ints zs, v, w => Ints64 w v zs
  | .strs ps, v, w => Strs w v ps
  | .cas c, v, w => ∃ a1 n1 c1 a2 n2 c2, v = .agg #[.int .i64 c.K, .int .i64 c.N, .slice a1 n1 c1, .slice a2 n2 c2, .int .i64 c.er] ∧ Ints64 w (.slice a1 n1 c1) c.zs ∧ Strs w (.slice a2 n2 c2) c.ps
  | .tab, v, w => TabAt w v
theorem ints64_below {w w' : World} {v : Value} {zs : List Int} (h : Ints64 w v zs) (hb : Below w.heap.size w w') : Ints64 w' v zs := ⟨h.1.below hb, h.2⟩
theorem casAt_below {w w' : World} {g i : Nat} {c : Cas} (h : casAt w g i c) (hg : g < w.heap.size) (hb : Below w.heap.size w w') : casAt w' g i c := by
  obtain ⟨a1, n1, c1, a2, n2, c2, k0, k1, k2, k3, k4, hi, hs⟩ := h
  exact ⟨a1, n1, c1, a2, n2, c2, cell_below hb hg k0, cell_below hb hg k1, cell_below hb hg k2, cell_below hb hg k3, cell_below hb hg k4, ints64_below hi hb, hs.below hb⟩
theorem Dsc.mono (d : Dsc) {v : Value} {w w' : World} (h : d.F v w) (hb : Below w.heap.size w w') : d.F v w' := by
  cases d with
  | val u => exact h
  | ints zs => exact ints64_below h hb
  | strs ps => exact Strs.below h hb
  | cas c =>
    obtain ⟨a1, n1, c1, a2, n2, c2, e, hi, hs⟩ := h
    exact ⟨a1, n1, c1, a2, n2, c2, e, ints64_below hi hb, hs.below hb⟩
  | tab =>
    obtain ⟨g, e, hg, h⟩ := h
    exact ⟨g, e, Nat.lt_of_lt_of_le hg hb.size, fun i hi => casAt_below (h i hi) hg hb⟩
def FT (ds : List Dsc) (i : Nat) (v : Value) (w : World) : Prop := match ds[i]? with | some d => d.F v w | none => True
theorem FT.mono (ds : List Dsc) (i : Nat) (v : Value) (w w' : World) (h : FT ds i v w) (hb : Below w.heap.size w w') : FT ds i v w' := by
  unfold FT at h ⊢
  cases hd : ds[i]? with
  | none => trivial
  | some d => rw [hd] at h; exact Dsc.mono d h hb
theorem AllFrom.app {p : Nat → Oper → Prop} {b : List Oper} {m : Nat} : ∀ {a : List Oper} {n : Nat}, AllFrom p n a → n + a.length = m → AllFrom p m b → AllFrom p n (a.append b)
  | [], n, _, hm, h => by simp at hm; subst hm; exact h
  | x :: a, n, h1, hm, h => ⟨h1.1, AllFrom.app h1.2 (by simp at hm; omega) h⟩
section
variable {ev : Operand → Value} {o : Oper} {w : World}
theorem rn_load24 {x : Operand} {g : Nat} {K N : Int} (ho : o.op = .load 24 x) (hx : ev x = .pointer (some ⟨g, 0, none⟩)) (h0 : w.cell? ⟨g, 0, none⟩ = some (.int .i64 K)) (h1 : w.cell? ⟨g, 1, none⟩ = some (.int .i64 N)) : (execOp ev o).run Try.prog w = .ok (.value (.agg #[.int .i64 K, .int .i64 N])) w := by
  simp [execOp, ho, hx, go_sem, h0, h1]
theorem rn_bI1 {x : Operand} {a : Int} (ho : o.op = .buildSlice 32 1 #[(0, x)]) (hx : ev x = .int .i64 a) : (execOp ev o).run Try.prog w = .ok (.value (.slice (some ⟨w.heap.size, 0, none⟩) 1 1)) (w.alloc (.cells #[.int .i64 a] 3)) := by
  simp [execOp, ho, hx, go_sem]
theorem rn_bI2 {x y : Operand} {a b : Int} (ho : o.op = .buildSlice 32 2 #[(0, x), (1, y)]) (hx : ev x = .int .i64 a) (hy : ev y = .int .i64 b) : (execOp ev o).run Try.prog w = .ok (.value (.slice (some ⟨w.heap.size, 0, none⟩) 2 2)) (w.alloc (.cells #[.int .i64 a, .int .i64 b] 3)) := by
  simp [execOp, ho, hx, hy, go_sem]
theorem rn_bI3 {x y z : Operand} {a b c : Int} (ho : o.op = .buildSlice 32 3 #[(0, x), (1, y), (2, z)]) (hx : ev x = .int .i64 a) (hy : ev y = .int .i64 b) (hz : ev z = .int .i64 c) : (execOp ev o).run Try.prog w = .ok (.value (.slice (some ⟨w.heap.size, 0, none⟩) 3 3)) (w.alloc (.cells #[.int .i64 a, .int .i64 b, .int .i64 c] 3)) := by
  simp [execOp, ho, hx, hy, hz, go_sem]
theorem rn_bS2 {x y : Operand} {a b : ByteArray} (ho : o.op = .buildSlice 28 2 #[(0, x), (1, y)]) (hx : ev x = .string a) (hy : ev y = .string b) : (execOp ev o).run Try.prog w = .ok (.value (.slice (some ⟨w.heap.size, 0, none⟩) 2 2)) (w.alloc (.cells #[.string a, .string b] 9)) := by
  simp [execOp, ho, hx, hy, go_sem]
theorem rn_bS3 {x y z : Operand} {a b c : ByteArray} (ho : o.op = .buildSlice 28 3 #[(0, x), (1, y), (2, z)]) (hx : ev x = .string a) (hy : ev y = .string b) (hz : ev z = .string c) : (execOp ev o).run Try.prog w = .ok (.value (.slice (some ⟨w.heap.size, 0, none⟩) 3 3)) (w.alloc (.cells #[.string a, .string b, .string c] 9)) := by
  simp [execOp, ho, hx, hy, hz, go_sem]
theorem rn_slH {x : Operand} {T : Nat} (ho : o.op = .slice 28 x none (some (.const (.int .i64 2))) none) (he : ∀ v, ev (.const v) = v) (hx : ev x = .slice (some ⟨T, 0, none⟩) 3 3) : (execOp ev o).run Try.prog w = .ok (.value (.slice (some ⟨T, 0, none⟩) 2 3)) w := by
  simp [execOp, ho, hx, go_sem, he]
theorem rn_slL {x : Operand} {T : Nat} (ho : o.op = .slice 28 x (some (.const (.int .i64 2))) none none) (he : ∀ v, ev (.const v) = v) (hx : ev x = .slice (some ⟨T, 0, none⟩) 3 3) : (execOp ev o).run Try.prog w = .ok (.value (.slice (some ⟨T, 2, none⟩) 1 1)) w := by
  simp [execOp, ho, hx, go_sem, he]
theorem rn_ix {x y : Operand} {T i : Nat} (ho : o.op = .indexAddr 28 x y) (hx : ev x = .slice (some ⟨T, 0, none⟩) 3 3) (hy : ev y = .int .i64 (i : Int)) (hi : i < 3) : (execOp ev o).run Try.prog w = .ok (.value (.pointer (some ⟨T, i, none⟩))) w := by
  have h1 : (i : Int) < 3 := by omega
  simp [execOp, ho, hx, hy, go_sem, h1]
theorem rn_ld9 {x : Operand} {T i : Nat} {s : ByteArray} (ho : o.op = .load 9 x) (hx : ev x = .pointer (some ⟨T, i, none⟩)) (h0 : w.cell? ⟨T, i, none⟩ = some (.string s)) : (execOp ev o).run Try.prog w = .ok (.value (.string s)) w := by
  simp [execOp, ho, hx, go_sem, h0]
theorem rn_addS {x y : Operand} {a b : List Nat} (ho : o.op = .binOp .add 9 x y 9) (hx : ev x = .string (ofBs a)) (hy : ev y = .string (ofBs b)) (hl : a.length + b.length ≤ 1000) : (execOp ev o).run Try.prog w = .ok (.value (.string (ofBs (a ++ b)))) w := by
  have h1 : (ofBs a).size + (ofBs b).size ≤ 9223372036854775807 := by rw [ofBs_size, ofBs_size]; omega
  simp [execOp, ho, hx, hy, go_sem, ofBs_app, h1]
theorem rn_b33 {x y z u : Operand} {K N er : Int} {a1 a2 : Option Addr} {n1 c1 n2 c2 : Nat} (ho : o.op = .build 33 #[(0, x), (1, y), (2, z), (3, u)]) (hx : ev x = .agg #[.int .i64 K, .int .i64 N]) (hy : ev y = .slice a1 n1 c1) (hz : ev z = .slice a2 n2 c2) (hu : ev u = .int .i64 er) : (execOp ev o).run Try.prog w = .ok (.value (.agg #[.int .i64 K, .int .i64 N, .slice a1 n1 c1, .slice a2 n2 c2, .int .i64 er])) w := by
  simp [execOp, ho, hx, hy, hz, hu, go_sem]
set_option maxHeartbeats 4000000 in
set_option maxRecDepth 20000 in
theorem rn_b34 {x0 x1 x2 x3 x4 x5 x6 x7 x8 x9 x10 x11 x12 x13 x14 x15 x16 x17 x18 x19 x20 : Operand} {e0_0 e0_1 e0_2 e0_3 e0_4 e1_0 e1_1 e1_2 e1_3 e1_4 e2_0 e2_1 e2_2 e2_3 e2_4 e3_0 e3_1 e3_2 e3_3 e3_4 e4_0 e4_1 e4_2 e4_3 e4_4 e5_0 e5_1 e5_2 e5_3 e5_4 e6_0 e6_1 e6_2 e6_3 e6_4 e7_0 e7_1 e7_2 e7_3 e7_4 e8_0 e8_1 e8_2 e8_3 e8_4 e9_0 e9_1 e9_2 e9_3 e9_4 e10_0 e10_1 e10_2 e10_3 e10_4 e11_0 e11_1 e11_2 e11_3 e11_4 e12_0 e12_1 e12_2 e12_3 e12_4 e13_0 e13_1 e13_2 e13_3 e13_4 e14_0 e14_1 e14_2 e14_3 e14_4 e15_0 e15_1 e15_2 e15_3 e15_4 e16_0 e16_1 e16_2 e16_3 e16_4 e17_0 e17_1 e17_2 e17_3 e17_4 e18_0 e18_1 e18_2 e18_3 e18_4 e19_0 e19_1 e19_2 e19_3 e19_4 e20_0 e20_1 e20_2 e20_3 e20_4 : Value} (ho : o.op = .buildSlice 34 21 #[(0, x0), (1, x1), (2, x2), (3, x3), (4, x4), (5, x5), (6, x6), (7, x7), (8, x8), (9, x9), (10, x10), (11, x11), (12, x12), (13, x13), (14, x14), (15, x15), (16, x16), (17, x17), (18, x18), (19, x19), (20, x20)]) (h0 : ev x0 = .agg #[e0_0, e0_1, e0_2, e0_3, e0_4]) (h1 : ev x1 = .agg #[e1_0, e1_1, e1_2, e1_3, e1_4]) (h2 : ev x2 = .agg #[e2_0, e2_1, e2_2, e2_3, e2_4]) (h3 : ev x3 = .agg #[e3_0, e3_1, e3_2, e3_3, e3_4]) (h4 : ev x4 = .agg #[e4_0, e4_1, e4_2, e4_3, e4_4]) (h5 : ev x5 = .agg #[e5_0, e5_1, e5_2, e5_3, e5_4]) (h6 : ev x6 = .agg #[e6_0, e6_1, e6_2, e6_3, e6_4]) (h7 : ev x7 = .agg #[e7_0, e7_1, e7_2, e7_3, e7_4]) (h8 : ev x8 = .agg #[e8_0, e8_1, e8_2, e8_3, e8_4]) (h9 : ev x9 = .agg #[e9_0, e9_1, e9_2, e9_3, e9_4]) (h10 : ev x10 = .agg #[e10_0, e10_1, e10_2, e10_3, e10_4]) (h11 : ev x11 = .agg #[e11_0, e11_1, e11_2, e11_3, e11_4]) (h12 : ev x12 = .agg #[e12_0, e12_1, e12_2, e12_3, e12_4]) (h13 : ev x13 = .agg #[e13_0, e13_1, e13_2, e13_3, e13_4]) (h14 : ev x14 = .agg #[e14_0, e14_1, e14_2, e14_3, e14_4]) (h15 : ev x15 = .agg #[e15_0, e15_1, e15_2, e15_3, e15_4]) (h16 : ev x16 = .agg #[e16_0, e16_1, e16_2, e16_3, e16_4]) (h17 : ev x17 = .agg #[e17_0, e17_1, e17_2, e17_3, e17_4]) (h18 : ev x18 = .agg #[e18_0, e18_1, e18_2, e18_3, e18_4]) (h19 : ev x19 = .agg #[e19_0, e19_1, e19_2, e19_3, e19_4]) (h20 : ev x20 = .agg #[e20_0, e20_1, e20_2, e20_3, e20_4]) : (execOp ev o).run Try.prog w = .ok (.value (.slice (some ⟨w.heap.size, 0, none⟩) 21 21)) (w.alloc (.cells #[e0_0, e0_1, e0_2, e0_3, e0_4, e1_0, e1_1, e1_2, e1_3, e1_4, e2_0, e2_1, e2_2, e2_3, e2_4, e3_0, e3_1, e3_2, e3_3, e3_4, e4_0, e4_1, e4_2, e4_3, e4_4, e5_0, e5_1, e5_2, e5_3, e5_4, e6_0, e6_1, e6_2, e6_3, e6_4, e7_0, e7_1, e7_2, e7_3, e7_4, e8_0, e8_1, e8_2, e8_3, e8_4, e9_0, e9_1, e9_2, e9_3, e9_4, e10_0, e10_1, e10_2, e10_3, e10_4, e11_0, e11_1, e11_2, e11_3, e11_4, e12_0, e12_1, e12_2, e12_3, e12_4, e13_0, e13_1, e13_2, e13_3, e13_4, e14_0, e14_1, e14_2, e14_3, e14_4, e15_0, e15_1, e15_2, e15_3, e15_4, e16_0, e16_1, e16_2, e16_3, e16_4, e17_0, e17_1, e17_2, e17_3, e17_4, e18_0, e18_1, e18_2, e18_3, e18_4, e19_0, e19_1, e19_2, e19_3, e19_4, e20_0, e20_1, e20_2, e20_3, e20_4] 33)) := by
  simp [execOp, ho, h0, h1, h2, h3, h4, h5, h6, h7, h8, h9, h10, h11, h12, h13, h14, h15, h16, h17, h18, h19, h20, go_sem]
theorem rn_len34 {x : Operand} {a : Option Addr} {n c : Nat} (ho : o.op = .call { callee := .builtin .len, args := #[x], argTypes := #[34] }) (hx : ev x = .slice a n c) : (execOp ev o).run Try.prog w = .ok (.value (.int .i64 (n : Int))) w := by
  have hl := run_len_slice (P := Try.prog) (w := w) 34 o.type a n c (by kernel_rfl)
  simp [execOp, ho, hx, go_sem, hl]
end
theorem strs_lit {w : World} {g : Nat} (ps : List (List Nat)) (h : Has w g (ps.map fun l => Value.string (ofBs l)).toArray 9) (hl : ps.length ≤ 1000000) (hx : ∀ l ∈ ps, ∀ x ∈ l, x < 256) : Strs w (.slice (some ⟨g, 0, none⟩) ps.length ps.length) ps := by
  refine ⟨_, _, rfl, by omega, fun i x hxi => ?_, fun _ => ⟨g, 0, rfl, h.lt, fun j hj => ?_⟩⟩
  · by_cases hi : i < ps.length
    · rw [List.getD_eq_getElem?_getD, List.getElem?_eq_getElem hi] at hxi
      exact hx _ (List.getElem_mem hi) x hxi
    · rw [List.getD_eq_getElem?_getD, List.getElem?_eq_none (by omega)] at hxi; simp at hxi
  · rw [Nat.zero_add, h.cell]
    simp [List.getD_eq_getElem?_getD, List.getElem?_eq_getElem hj]
end Go.Proofs.Ytfbjpgcgdhhfnaa
namespace Go.Proofs.Ytfbjpgcgdhhfnaa
open Go.RowKit
theorem bel1 {w W : World} (h : Below w.heap.size w W) (ob : Obj) : Below w.heap.size w (W.alloc ob) := h.alloc h.size ob
theorem ints_form {w : World} {v : Value} {zs : List Int} (h : Ints64 w v zs) : ∃ a c, v = .slice a zs.length c := by obtain ⟨⟨a, c, e, _⟩, _⟩ := h; exact ⟨a, c, e⟩
theorem strs_form {w : World} {v : Value} {ps : List (List Nat)} (h : Strs w v ps) : ∃ a c, v = .slice a ps.length c := by obtain ⟨a, c, e, _⟩ := h; exact ⟨a, c, e⟩
theorem ints_nil (w : World) : Ints64 w (.slice none 0 0) [] := ⟨⟨none, 0, rfl, by simp, fun h => absurd h (by simp)⟩, fun j => by simp⟩
def tds (T : Nat) : List Dsc := [.val (.agg #[.int .i64 3, .int .i64 2]), .ints [0, 1], .val (.slice (some ⟨T, 0, none⟩) 3 3), .strs [p0, p1], .cas ⟨3, 2, [0, 1], [p0, p1], 1⟩, .val (.agg #[.int .i64 2, .int .i64 3]), .ints [0], .val (.slice (some ⟨T, 0, none⟩) 3 3), .strs [p0, p1], .cas ⟨2, 3, [0], [p0, p1], 1⟩, .val (.agg #[.int .i64 2, .int .i64 3]), .ints [0, 3], .val (.slice (some ⟨T, 0, none⟩) 3 3), .strs [p0, p1], .cas ⟨2, 3, [0, 3], [p0, p1], 1⟩, .val (.agg #[.int .i64 2, .int .i64 3]), .ints [-1, 0], .val (.slice (some ⟨T, 0, none⟩) 3 3), .strs [p0, p1], .cas ⟨2, 3, [-1, 0], [p0, p1], 1⟩, .val (.agg #[.int .i64 2, .int .i64 3]), .cas ⟨2, 3, [], [], 54⟩, .val (.agg #[.int .i64 2, .int .i64 3]), .ints [2], .val (.slice (some ⟨T, 0, none⟩) 3 3), .strs [p2], .cas ⟨2, 3, [2], [p2], 54⟩, .val (.agg #[.int .i64 2, .int .i64 3]), .ints [0, 1], .val (.slice (some ⟨T, 0, none⟩) 3 3), .val (.pointer (some ⟨T, 0, none⟩)), .val (.string (ofBs p0)), .val (.slice (some ⟨T, 0, none⟩) 3 3), .val (.pointer (some ⟨T, 1, none⟩)), .val (.string (ofBs p1)), .val (.string (ofBs (p1 ++ [0]))), .strs [p0, p1 ++ [0]], .cas ⟨2, 3, [0, 1], [p0, p1 ++ [0]], 4⟩, .val (.agg #[.int .i64 2, .int .i64 3]), .ints [0, 1], .strs [[], []], .cas ⟨2, 3, [0, 1], [[], []], 4⟩, .val (.agg #[.int .i64 2, .int .i64 3]), .ints [0, 1], .strs [[0, 0], [0, 0]], .cas ⟨2, 3, [0, 1], [[0, 0], [0, 0]], 4⟩, .val (.agg #[.int .i64 2, .int .i64 3]), .ints [0, 1], .val (.slice (some ⟨T, 0, none⟩) 3 3), .val (.pointer (some ⟨T, 0, none⟩)), .val (.string (ofBs p0)), .strs [p0, [0, 3, 97, 98, 99, 100]], .cas ⟨2, 3, [0, 1], [p0, [0, 3, 97, 98, 99, 100]], 4⟩, .val (.agg #[.int .i64 2, .int .i64 3]), .ints [0, 1], .val (.slice (some ⟨T, 0, none⟩) 3 3), .val (.pointer (some ⟨T, 0, none⟩)), .val (.string (ofBs p0)), .strs [p0, [0, 2, 97, 98, 99, 0]], .cas ⟨2, 3, [0, 1], [p0, [0, 2, 97, 98, 99, 0]], 4⟩, .val (.agg #[.int .i64 2, .int .i64 3]), .ints [0, 1], .val (.slice (some ⟨T, 0, none⟩) 3 3), .val (.pointer (some ⟨T, 0, none⟩)), .val (.string (ofBs p0)), .strs [p0, [0, 5, 97, 98, 99, 0]], .cas ⟨2, 3, [0, 1], [p0, [0, 5, 97, 98, 99, 0]], 4⟩, .val (.agg #[.int .i64 2, .int .i64 3]), .ints [0, 1], .val (.slice (some ⟨T, 0, none⟩) 3 3), .val (.pointer (some ⟨T, 1, none⟩)), .val (.string (ofBs p1)), .strs [[0, 0, 0, 0, 0, 1], p1], .cas ⟨2, 3, [0, 1], [[0, 0, 0, 0, 0, 1], p1], 4⟩, .val (.agg #[.int .i64 2, .int .i64 3]), .ints [0, 1], .val (.slice (some ⟨T, 0, none⟩) 3 3), .val (.pointer (some ⟨T, 1, none⟩)), .val (.string (ofBs p1)), .strs [[128, 0, 0, 0, 0, 0], p1], .cas ⟨2, 3, [0, 1], [[128, 0, 0, 0, 0, 0], p1], 4⟩, .val (.agg #[.int .i64 2, .int .i64 3]), .ints [0, 1], .val (.slice (some ⟨T, 0, none⟩) 3 3), .val (.pointer (some ⟨T, 0, none⟩)), .val (.string (ofBs p0)), .val (.string (ofBs (p0 ++ [0]))), .val (.slice (some ⟨T, 0, none⟩) 3 3), .val (.pointer (some ⟨T, 1, none⟩)), .val (.string (ofBs p1)), .val (.string (ofBs (p1 ++ [0]))), .strs [p0 ++ [0], p1 ++ [0]], .cas ⟨2, 3, [0, 1], [p0 ++ [0], p1 ++ [0]], 4⟩, .val (.agg #[.int .i64 2, .int .i64 3]), .ints [0, 1], .strs [[0, 0, 0, 0, 0, 0, 0], [3, 97, 98, 99, 0, 0, 0]], .cas ⟨2, 3, [0, 1], [[0, 0, 0, 0, 0, 0, 0], [3, 97, 98, 99, 0, 0, 0]], 4⟩, .val (.agg #[.int .i64 2, .int .i64 3]), .ints [1, 0], .val (.slice (some ⟨T, 0, none⟩) 3 3), .val (.pointer (some ⟨T, 1, none⟩)), .val (.string (ofBs p1)), .val (.slice (some ⟨T, 0, none⟩) 3 3), .val (.pointer (some ⟨T, 0, none⟩)), .val (.string (ofBs p0)), .strs [p1, p0], .cas ⟨2, 3, [1, 0], [p1, p0], 0⟩, .val (.agg #[.int .i64 2, .int .i64 3]), .ints [2, 0], .val (.slice (some ⟨T, 0, none⟩) 3 3), .val (.pointer (some ⟨T, 2, none⟩)), .val (.string (ofBs p2)), .val (.slice (some ⟨T, 0, none⟩) 3 3), .val (.pointer (some ⟨T, 0, none⟩)), .val (.string (ofBs p0)), .strs [p2, p0], .cas ⟨2, 3, [2, 0], [p2, p0], 0⟩, .val (.agg #[.int .i64 2, .int .i64 3]), .ints [2, 1, 0], .val (.slice (some ⟨T, 0, none⟩) 3 3), .val (.pointer (some ⟨T, 2, none⟩)), .val (.string (ofBs p2)), .val (.slice (some ⟨T, 0, none⟩) 3 3), .val (.pointer (some ⟨T, 1, none⟩)), .val (.string (ofBs p1)), .val (.slice (some ⟨T, 0, none⟩) 3 3), .val (.pointer (some ⟨T, 0, none⟩)), .val (.string (ofBs p0)), .strs [p2, p1, p0], .cas ⟨2, 3, [2, 1, 0], [p2, p1, p0], 0⟩, .val (.agg #[.int .i64 2, .int .i64 3]), .ints [2, 1, 0], .val (.slice (some ⟨T, 0, none⟩) 3 3), .val (.pointer (some ⟨T, 2, none⟩)), .val (.string (ofBs p2)), .val (.slice (some ⟨T, 0, none⟩) 3 3), .val (.pointer (some ⟨T, 1, none⟩)), .val (.string (ofBs p1)), .val (.slice (some ⟨T, 0, none⟩) 3 3), .val (.pointer (some ⟨T, 1, none⟩)), .val (.string (ofBs p1)), .strs [p2, p1, p1], .cas ⟨2, 3, [2, 1, 0], [p2, p1, p1], 4⟩, .val (.agg #[.int .i64 2, .int .i64 3]), .ints [0, 1, 2], .val (.slice (some ⟨T, 0, none⟩) 3 3), .val (.pointer (some ⟨T, 0, none⟩)), .val (.string (ofBs p0)), .val (.slice (some ⟨T, 0, none⟩) 3 3), .val (.pointer (some ⟨T, 1, none⟩)), .val (.string (ofBs p1)), .val (.slice (some ⟨T, 0, none⟩) 3 3), .val (.pointer (some ⟨T, 1, none⟩)), .val (.string (ofBs p1)), .strs [p0, p1, p1], .cas ⟨2, 3, [0, 1, 2], [p0, p1, p1], 4⟩, .tab, .val (.int .i64 21), .val (.int .i64 0)]
theorem new_tab {w' : World} {a0 b0 : Option Addr} {n0 c0 m0 d0 : Nat} {a1 b1 : Option Addr} {n1 c1 m1 d1 : Nat} {a2 b2 : Option Addr} {n2 c2 m2 d2 : Nat} {a3 b3 : Option Addr} {n3 c3 m3 d3 : Nat} {a4 b4 : Option Addr} {n4 c4 m4 d4 : Nat} {a5 b5 : Option Addr} {n5 c5 m5 d5 : Nat} {a6 b6 : Option Addr} {n6 c6 m6 d6 : Nat} {a7 b7 : Option Addr} {n7 c7 m7 d7 : Nat} {a8 b8 : Option Addr} {n8 c8 m8 d8 : Nat} {a9 b9 : Option Addr} {n9 c9 m9 d9 : Nat} {a10 b10 : Option Addr} {n10 c10 m10 d10 : Nat} {a11 b11 : Option Addr} {n11 c11 m11 d11 : Nat} {a12 b12 : Option Addr} {n12 c12 m12 d12 : Nat} {a13 b13 : Option Addr} {n13 c13 m13 d13 : Nat} {a14 b14 : Option Addr} {n14 c14 m14 d14 : Nat} {a15 b15 : Option Addr} {n15 c15 m15 d15 : Nat} {a16 b16 : Option Addr} {n16 c16 m16 d16 : Nat} {a17 b17 : Option Addr} {n17 c17 m17 d17 : Nat} {a18 b18 : Option Addr} {n18 c18 m18 d18 : Nat} {a19 b19 : Option Addr} {n19 c19 m19 d19 : Nat} {a20 b20 : Option Addr} {n20 c20 m20 d20 : Nat} (i0 : Ints64 w' (.slice a0 n0 c0) [0, 1]) (s0 : Strs w' (.slice b0 m0 d0) [p0, p1]) (i1 : Ints64 w' (.slice a1 n1 c1) [0]) (s1 : Strs w' (.slice b1 m1 d1) [p0, p1]) (i2 : Ints64 w' (.slice a2 n2 c2) [0, 3]) (s2 : Strs w' (.slice b2 m2 d2) [p0, p1]) (i3 : Ints64 w' (.slice a3 n3 c3) [-1, 0]) (s3 : Strs w' (.slice b3 m3 d3) [p0, p1]) (i4 : Ints64 w' (.slice a4 n4 c4) []) (s4 : Strs w' (.slice b4 m4 d4) []) (i5 : Ints64 w' (.slice a5 n5 c5) [2]) (s5 : Strs w' (.slice b5 m5 d5) [p2]) (i6 : Ints64 w' (.slice a6 n6 c6) [0, 1]) (s6 : Strs w' (.slice b6 m6 d6) [p0, p1 ++ [0]]) (i7 : Ints64 w' (.slice a7 n7 c7) [0, 1]) (s7 : Strs w' (.slice b7 m7 d7) [[], []]) (i8 : Ints64 w' (.slice a8 n8 c8) [0, 1]) (s8 : Strs w' (.slice b8 m8 d8) [[0, 0], [0, 0]]) (i9 : Ints64 w' (.slice a9 n9 c9) [0, 1]) (s9 : Strs w' (.slice b9 m9 d9) [p0, [0, 3, 97, 98, 99, 100]]) (i10 : Ints64 w' (.slice a10 n10 c10) [0, 1]) (s10 : Strs w' (.slice b10 m10 d10) [p0, [0, 2, 97, 98, 99, 0]]) (i11 : Ints64 w' (.slice a11 n11 c11) [0, 1]) (s11 : Strs w' (.slice b11 m11 d11) [p0, [0, 5, 97, 98, 99, 0]]) (i12 : Ints64 w' (.slice a12 n12 c12) [0, 1]) (s12 : Strs w' (.slice b12 m12 d12) [[0, 0, 0, 0, 0, 1], p1]) (i13 : Ints64 w' (.slice a13 n13 c13) [0, 1]) (s13 : Strs w' (.slice b13 m13 d13) [[128, 0, 0, 0, 0, 0], p1]) (i14 : Ints64 w' (.slice a14 n14 c14) [0, 1]) (s14 : Strs w' (.slice b14 m14 d14) [p0 ++ [0], p1 ++ [0]]) (i15 : Ints64 w' (.slice a15 n15 c15) [0, 1]) (s15 : Strs w' (.slice b15 m15 d15) [[0, 0, 0, 0, 0, 0, 0], [3, 97, 98, 99, 0, 0, 0]]) (i16 : Ints64 w' (.slice a16 n16 c16) [1, 0]) (s16 : Strs w' (.slice b16 m16 d16) [p1, p0]) (i17 : Ints64 w' (.slice a17 n17 c17) [2, 0]) (s17 : Strs w' (.slice b17 m17 d17) [p2, p0]) (i18 : Ints64 w' (.slice a18 n18 c18) [2, 1, 0]) (s18 : Strs w' (.slice b18 m18 d18) [p2, p1, p0]) (i19 : Ints64 w' (.slice a19 n19 c19) [2, 1, 0]) (s19 : Strs w' (.slice b19 m19 d19) [p2, p1, p1]) (i20 : Ints64 w' (.slice a20 n20 c20) [0, 1, 2]) (s20 : Strs w' (.slice b20 m20 d20) [p0, p1, p1]) : TabAt (w'.alloc (.cells #[.int .i64 (3), .int .i64 (2), .slice a0 n0 c0, .slice b0 m0 d0, .int .i64 1, .int .i64 (2), .int .i64 (3), .slice a1 n1 c1, .slice b1 m1 d1, .int .i64 1, .int .i64 (2), .int .i64 (3), .slice a2 n2 c2, .slice b2 m2 d2, .int .i64 1, .int .i64 (2), .int .i64 (3), .slice a3 n3 c3, .slice b3 m3 d3, .int .i64 1, .int .i64 (2), .int .i64 (3), .slice a4 n4 c4, .slice b4 m4 d4, .int .i64 54, .int .i64 (2), .int .i64 (3), .slice a5 n5 c5, .slice b5 m5 d5, .int .i64 54, .int .i64 (2), .int .i64 (3), .slice a6 n6 c6, .slice b6 m6 d6, .int .i64 4, .int .i64 (2), .int .i64 (3), .slice a7 n7 c7, .slice b7 m7 d7, .int .i64 4, .int .i64 (2), .int .i64 (3), .slice a8 n8 c8, .slice b8 m8 d8, .int .i64 4, .int .i64 (2), .int .i64 (3), .slice a9 n9 c9, .slice b9 m9 d9, .int .i64 4, .int .i64 (2), .int .i64 (3), .slice a10 n10 c10, .slice b10 m10 d10, .int .i64 4, .int .i64 (2), .int .i64 (3), .slice a11 n11 c11, .slice b11 m11 d11, .int .i64 4, .int .i64 (2), .int .i64 (3), .slice a12 n12 c12, .slice b12 m12 d12, .int .i64 4, .int .i64 (2), .int .i64 (3), .slice a13 n13 c13, .slice b13 m13 d13, .int .i64 4, .int .i64 (2), .int .i64 (3), .slice a14 n14 c14, .slice b14 m14 d14, .int .i64 4, .int .i64 (2), .int .i64 (3), .slice a15 n15 c15, .slice b15 m15 d15, .int .i64 4, .int .i64 (2), .int .i64 (3), .slice a16 n16 c16, .slice b16 m16 d16, .int .i64 0, .int .i64 (2), .int .i64 (3), .slice a17 n17 c17, .slice b17 m17 d17, .int .i64 0, .int .i64 (2), .int .i64 (3), .slice a18 n18 c18, .slice b18 m18 d18, .int .i64 0, .int .i64 (2), .int .i64 (3), .slice a19 n19 c19, .slice b19 m19 d19, .int .i64 4, .int .i64 (2), .int .i64 (3), .slice a20 n20 c20, .slice b20 m20 d20, .int .i64 4] 33)) (.slice (some ⟨w'.heap.size, 0, none⟩) 21 21) := by
  have hH := Has.new w' w'.heap.size #[.int .i64 (3), .int .i64 (2), .slice a0 n0 c0, .slice b0 m0 d0, .int .i64 1, .int .i64 (2), .int .i64 (3), .slice a1 n1 c1, .slice b1 m1 d1, .int .i64 1, .int .i64 (2), .int .i64 (3), .slice a2 n2 c2, .slice b2 m2 d2, .int .i64 1, .int .i64 (2), .int .i64 (3), .slice a3 n3 c3, .slice b3 m3 d3, .int .i64 1, .int .i64 (2), .int .i64 (3), .slice a4 n4 c4, .slice b4 m4 d4, .int .i64 54, .int .i64 (2), .int .i64 (3), .slice a5 n5 c5, .slice b5 m5 d5, .int .i64 54, .int .i64 (2), .int .i64 (3), .slice a6 n6 c6, .slice b6 m6 d6, .int .i64 4, .int .i64 (2), .int .i64 (3), .slice a7 n7 c7, .slice b7 m7 d7, .int .i64 4, .int .i64 (2), .int .i64 (3), .slice a8 n8 c8, .slice b8 m8 d8, .int .i64 4, .int .i64 (2), .int .i64 (3), .slice a9 n9 c9, .slice b9 m9 d9, .int .i64 4, .int .i64 (2), .int .i64 (3), .slice a10 n10 c10, .slice b10 m10 d10, .int .i64 4, .int .i64 (2), .int .i64 (3), .slice a11 n11 c11, .slice b11 m11 d11, .int .i64 4, .int .i64 (2), .int .i64 (3), .slice a12 n12 c12, .slice b12 m12 d12, .int .i64 4, .int .i64 (2), .int .i64 (3), .slice a13 n13 c13, .slice b13 m13 d13, .int .i64 4, .int .i64 (2), .int .i64 (3), .slice a14 n14 c14, .slice b14 m14 d14, .int .i64 4, .int .i64 (2), .int .i64 (3), .slice a15 n15 c15, .slice b15 m15 d15, .int .i64 4, .int .i64 (2), .int .i64 (3), .slice a16 n16 c16, .slice b16 m16 d16, .int .i64 0, .int .i64 (2), .int .i64 (3), .slice a17 n17 c17, .slice b17 m17 d17, .int .i64 0, .int .i64 (2), .int .i64 (3), .slice a18 n18 c18, .slice b18 m18 d18, .int .i64 0, .int .i64 (2), .int .i64 (3), .slice a19 n19 c19, .slice b19 m19 d19, .int .i64 4, .int .i64 (2), .int .i64 (3), .slice a20 n20 c20, .slice b20 m20 d20, .int .i64 4] 33 rfl
  have hb : Below w'.heap.size w' (w'.alloc (.cells #[.int .i64 (3), .int .i64 (2), .slice a0 n0 c0, .slice b0 m0 d0, .int .i64 1, .int .i64 (2), .int .i64 (3), .slice a1 n1 c1, .slice b1 m1 d1, .int .i64 1, .int .i64 (2), .int .i64 (3), .slice a2 n2 c2, .slice b2 m2 d2, .int .i64 1, .int .i64 (2), .int .i64 (3), .slice a3 n3 c3, .slice b3 m3 d3, .int .i64 1, .int .i64 (2), .int .i64 (3), .slice a4 n4 c4, .slice b4 m4 d4, .int .i64 54, .int .i64 (2), .int .i64 (3), .slice a5 n5 c5, .slice b5 m5 d5, .int .i64 54, .int .i64 (2), .int .i64 (3), .slice a6 n6 c6, .slice b6 m6 d6, .int .i64 4, .int .i64 (2), .int .i64 (3), .slice a7 n7 c7, .slice b7 m7 d7, .int .i64 4, .int .i64 (2), .int .i64 (3), .slice a8 n8 c8, .slice b8 m8 d8, .int .i64 4, .int .i64 (2), .int .i64 (3), .slice a9 n9 c9, .slice b9 m9 d9, .int .i64 4, .int .i64 (2), .int .i64 (3), .slice a10 n10 c10, .slice b10 m10 d10, .int .i64 4, .int .i64 (2), .int .i64 (3), .slice a11 n11 c11, .slice b11 m11 d11, .int .i64 4, .int .i64 (2), .int .i64 (3), .slice a12 n12 c12, .slice b12 m12 d12, .int .i64 4, .int .i64 (2), .int .i64 (3), .slice a13 n13 c13, .slice b13 m13 d13, .int .i64 4, .int .i64 (2), .int .i64 (3), .slice a14 n14 c14, .slice b14 m14 d14, .int .i64 4, .int .i64 (2), .int .i64 (3), .slice a15 n15 c15, .slice b15 m15 d15, .int .i64 4, .int .i64 (2), .int .i64 (3), .slice a16 n16 c16, .slice b16 m16 d16, .int .i64 0, .int .i64 (2), .int .i64 (3), .slice a17 n17 c17, .slice b17 m17 d17, .int .i64 0, .int .i64 (2), .int .i64 (3), .slice a18 n18 c18, .slice b18 m18 d18, .int .i64 0, .int .i64 (2), .int .i64 (3), .slice a19 n19 c19, .slice b19 m19 d19, .int .i64 4, .int .i64 (2), .int .i64 (3), .slice a20 n20 c20, .slice b20 m20 d20, .int .i64 4] 33)) := bel1 (Below.refl _ _) _
  refine ⟨_, rfl, hH.lt, fun i hi => ?_⟩
  match i, hi with
  | 0, _ => exact ⟨_, _, _, _, _, _, hH.cell 0, hH.cell 1, hH.cell 2, hH.cell 3, hH.cell 4, ints64_below i0 hb, s0.below hb⟩
  | 1, _ => exact ⟨_, _, _, _, _, _, hH.cell 5, hH.cell 6, hH.cell 7, hH.cell 8, hH.cell 9, ints64_below i1 hb, s1.below hb⟩
  | 2, _ => exact ⟨_, _, _, _, _, _, hH.cell 10, hH.cell 11, hH.cell 12, hH.cell 13, hH.cell 14, ints64_below i2 hb, s2.below hb⟩
  | 3, _ => exact ⟨_, _, _, _, _, _, hH.cell 15, hH.cell 16, hH.cell 17, hH.cell 18, hH.cell 19, ints64_below i3 hb, s3.below hb⟩
  | 4, _ => exact ⟨_, _, _, _, _, _, hH.cell 20, hH.cell 21, hH.cell 22, hH.cell 23, hH.cell 24, ints64_below i4 hb, s4.below hb⟩
  | 5, _ => exact ⟨_, _, _, _, _, _, hH.cell 25, hH.cell 26, hH.cell 27, hH.cell 28, hH.cell 29, ints64_below i5 hb, s5.below hb⟩
  | 6, _ => exact ⟨_, _, _, _, _, _, hH.cell 30, hH.cell 31, hH.cell 32, hH.cell 33, hH.cell 34, ints64_below i6 hb, s6.below hb⟩
  | 7, _ => exact ⟨_, _, _, _, _, _, hH.cell 35, hH.cell 36, hH.cell 37, hH.cell 38, hH.cell 39, ints64_below i7 hb, s7.below hb⟩
  | 8, _ => exact ⟨_, _, _, _, _, _, hH.cell 40, hH.cell 41, hH.cell 42, hH.cell 43, hH.cell 44, ints64_below i8 hb, s8.below hb⟩
  | 9, _ => exact ⟨_, _, _, _, _, _, hH.cell 45, hH.cell 46, hH.cell 47, hH.cell 48, hH.cell 49, ints64_below i9 hb, s9.below hb⟩
  | 10, _ => exact ⟨_, _, _, _, _, _, hH.cell 50, hH.cell 51, hH.cell 52, hH.cell 53, hH.cell 54, ints64_below i10 hb, s10.below hb⟩
  | 11, _ => exact ⟨_, _, _, _, _, _, hH.cell 55, hH.cell 56, hH.cell 57, hH.cell 58, hH.cell 59, ints64_below i11 hb, s11.below hb⟩
  | 12, _ => exact ⟨_, _, _, _, _, _, hH.cell 60, hH.cell 61, hH.cell 62, hH.cell 63, hH.cell 64, ints64_below i12 hb, s12.below hb⟩
  | 13, _ => exact ⟨_, _, _, _, _, _, hH.cell 65, hH.cell 66, hH.cell 67, hH.cell 68, hH.cell 69, ints64_below i13 hb, s13.below hb⟩
  | 14, _ => exact ⟨_, _, _, _, _, _, hH.cell 70, hH.cell 71, hH.cell 72, hH.cell 73, hH.cell 74, ints64_below i14 hb, s14.below hb⟩
  | 15, _ => exact ⟨_, _, _, _, _, _, hH.cell 75, hH.cell 76, hH.cell 77, hH.cell 78, hH.cell 79, ints64_below i15 hb, s15.below hb⟩
  | 16, _ => exact ⟨_, _, _, _, _, _, hH.cell 80, hH.cell 81, hH.cell 82, hH.cell 83, hH.cell 84, ints64_below i16 hb, s16.below hb⟩
  | 17, _ => exact ⟨_, _, _, _, _, _, hH.cell 85, hH.cell 86, hH.cell 87, hH.cell 88, hH.cell 89, ints64_below i17 hb, s17.below hb⟩
  | 18, _ => exact ⟨_, _, _, _, _, _, hH.cell 90, hH.cell 91, hH.cell 92, hH.cell 93, hH.cell 94, ints64_below i18 hb, s18.below hb⟩
  | 19, _ => exact ⟨_, _, _, _, _, _, hH.cell 95, hH.cell 96, hH.cell 97, hH.cell 98, hH.cell 99, ints64_below i19 hb, s19.below hb⟩
  | 20, _ => exact ⟨_, _, _, _, _, _, hH.cell 100, hH.cell 101, hH.cell 102, hH.cell 103, hH.cell 104, ints64_below i20 hb, s20.below hb⟩
  | k + 21, h => exact absurd h (by omega)
theorem tabw {P : Program} {Rg : Code} {Q : Exit → Act → World → Prop} {act : Act} {wt : World} (v1 v2 v19 : Value) (h1 : act.tmps.getD 1 undef = v1) (h2 : act.tmps.getD 2 undef = v2) (h19 : act.tmps.getD 19 undef = v19) (k : ∀ act', act' = act → act'.tmps.getD 1 undef = v1 → act'.tmps.getD 2 undef = v2 → act'.tmps.getD 19 undef = v19 → Rg.wp P Q act' wt) : Rg.wp P Q act wt := k act rfl h1 h2 h19
def seqV (val : Nat → Value) : Nat → Nat → List Value
  | _, 0 => []
  | k, n + 1 => val k :: seqV val (k + 1) n
theorem seqV_length (val : Nat → Value) : ∀ n k, (seqV val k n).length = n
  | 0, _ => rfl
  | n + 1, k => by simp [seqV, seqV_length val n]
theorem seqV_get (val : Nat → Value) : ∀ n k i, i < n → (seqV val k n)[i]? = some (val (k + i))
  | 0, _, _, h => absurd h (by omega)
  | n + 1, k, 0, _ => by simp [seqV]
  | n + 1, k, i + 1, h => by
    rw [seqV, List.getElem?_cons_succ, seqV_get val n (k + 1) i (by omega)]; congr 2; omega
theorem puts_cut (a : Act) (base : Nat) (val : Nat → Value) (n : Nat) (h : base + n ≤ a.tmps.size) : puts a base val n = { a with tmps := (a.tmps.toList.take base ++ (seqV val 0 n ++ a.tmps.toList.drop (base + n))).toArray } := by
  refine act_ext ?_ (by rw [puts_defers]) fun d => ?_
  · rw [puts_size]; simp [seqV_length]; omega
  · rw [puts_get a base val d n h]
    simp only [Array.getD_eq_getD_getElem?, List.getElem?_toArray]
    by_cases h1 : d < base
    · rw [if_neg (by omega), List.getElem?_append_left (by simp; omega), List.getElem?_take, if_pos h1, Array.getElem?_toList]
    · rw [List.getElem?_append_right (by simp; omega)]
      have el : (a.tmps.toList.take base).length = base := by simp; omega
      rw [el]
      by_cases h2 : d < base + n
      · rw [if_pos (by omega), List.getElem?_append_left (by rw [seqV_length]; omega), seqV_get _ _ _ _ (by omega)]; simp
      · rw [if_neg (by omega), List.getElem?_append_right (by rw [seqV_length]; omega), seqV_length, List.getElem?_drop, Array.getElem?_toList]
        congr 2; omega
theorem strs_at {w : World} {g o n c : Nat} (ps : List (List Nat)) (hn : ps.length = n) (h6 : n ≤ 1000000) (hg : g < w.heap.size) (hx : ∀ l ∈ ps, ∀ x ∈ l, x < 256) (hc : ∀ j, j < ps.length → w.cell? ⟨g, o + j, none⟩ = some (.string (ofBs (ps.getD j [])))) : Strs w (.slice (some ⟨g, o, none⟩) n c) ps := by
  subst hn
  refine ⟨_, _, rfl, by omega, fun i x hxi => ?_, fun _ => ⟨g, o, rfl, hg, hc⟩⟩
  by_cases hi : i < ps.length
  · rw [List.getD_eq_getElem?_getD, List.getElem?_eq_getElem hi] at hxi
    exact hx _ (List.getElem_mem hi) x hxi
  · rw [List.getD_eq_getElem?_getD, List.getElem?_eq_none (by omega)] at hxi; simp at hxi
end Go.Proofs.Ytfbjpgcgdhhfnaa
