/- A region that draws its order, one that stores among the operations that may come in whatever order. No program in it. -/
import Derived.Test.YtnepfllbfagfnaaDoorSBad
namespace Go.Proofs.YtnepfllbfagfnaaDoor
open Go.RowKit
namespace Tl
/-- the first h may be run in whatever order, one that tells nothing with them; behind them each waits for all ahead of it -/
def mixB (ops : Array Oper) (h : Nat) (ds : List Nat) (N : Nat) : Bool :=
  decide (h ≤ ops.size) && (ds == (List.range h).filterMap (dstOf ops)) && (ds.all fun d => decide (d < N)) &&
  (List.range ops.size).all fun i => match ops[i]? with
    | none => false
    | some o => (o.after.all fun e => (!Region.binds .any e) || decide (e.on < i)) &&
      (if i < h then (o.dst.isNone || ((List.range h).all fun j => i == j || dstOf ops j != o.dst)) &&
          ((looks ops o).all fun d => (!ds.contains d) || o.after.any fun e => Region.binds .any e && decide (e.on < h) && (dstOf ops e.on == some d))
       else (List.range i).all fun j => o.after.any fun e => Region.binds .any e && e.on == j)
theorem wp_region_mix {P : Program} {ops : Array Oper} {Q : Exit → Act → World → Prop} {id : Nat} {a : Act} {w : World} (hm : P.follows .mixedOrders = true) (h : Nat) (ds : List Nat) (N : Nat) (hN : a.tmps.size = N) (hB : mixB ops h ds N = true)
    (C : World → Prop) (F : Nat → Value → World → Prop) (hC : C w.drew)
    (hstep : ∀ (i : Nat) (o : Oper), ops[i]? = some o → i < h → ∀ a' w', C w' → (∀ d ∈ looks ops o, (d ∈ ds → F d (a'.tmps.getD d undef) w') ∧ (d ∉ ds → a'.tmps.getD d undef = a.tmps.getD d undef)) →
      if Region.wanted o (yielded ops a'.tmps) = true then o.wp P a' w' (fun a'' w'' => ∃ v, a'' = a'.put o.dst v ∧ C w'' ∧ (∀ d v, F d v w' → F d v w'') ∧ ∀ d, o.dst = some d → F d v w'') Q else ∀ d, o.dst = some d → F d undef w')
    (hlast : ∀ (v : Nat → Value) w', C w' → (∀ d ∈ ds, F d (v d) w') → wpList P ops Q (ops.toList.drop h) (fill a v ds) w') : (Code.region id ops true).wp P Q a w := by
  unfold mixB at hB
  simp only [Bool.and_eq_true, decide_eq_true_eq, beq_iff_eq, List.all_eq_true, List.mem_range] at hB
  obtain ⟨⟨⟨hle, hds⟩, hdN⟩, hall⟩ := hB
  have hds' : ∀ d, d ∈ ds ↔ ∃ j, j < h ∧ dstOf ops j = some d := fun d => by
    rw [hds]; simp [List.mem_filterMap]
  have hafter : ∀ (i : Nat) (o : Oper), ops[i]? = some o → ∀ e ∈ o.after, Region.binds .any e = true → e.on < i := fun i o ho e he hb => by
    have hi : i < ops.size := (Array.getElem?_eq_some_iff.1 ho).1
    have := hall i hi
    rw [ho] at this
    simp only [Bool.and_eq_true] at this
    simpa [hb] using (Array.all_eq_true'.1 this.1) e he
  have hhead : ∀ (i : Nat) (o : Oper), ops[i]? = some o → i < h → (∀ d, o.dst = some d → ∀ j, j < h → j ≠ i → dstOf ops j ≠ o.dst) ∧ (∀ d ∈ looks ops o, d ∈ ds → ∃ e ∈ o.after, Region.binds .any e = true ∧ e.on < h ∧ dstOf ops e.on = some d) := fun i o ho hlt => by
    have hi : i < ops.size := (Array.getElem?_eq_some_iff.1 ho).1
    have := hall i hi
    rw [ho] at this
    simp only [Bool.and_eq_true, if_pos hlt, List.all_eq_true, List.mem_range, Bool.or_eq_true, beq_iff_eq, bne_iff_ne, Bool.not_eq_true'] at this
    obtain ⟨_, h2, h3⟩ := this
    refine ⟨fun d0 hd0 j hj hne => ?_, fun d hd hdm => ?_⟩
    · rcases h2 with h2 | h2
      · rw [hd0] at h2; simp at h2
      rcases h2 j hj with h | h
      · exact absurd h.symm hne
      · exact h
    · rcases h3 d hd with h | h
      · rw [← Bool.not_eq_true] at h; exact absurd (by simpa using hdm) h
      · obtain ⟨e, he, hh⟩ := Array.any_eq_true'.1 h
        simp only [Bool.and_eq_true, beq_iff_eq, decide_eq_true_eq] at hh
        exact ⟨e, he, hh.1.1, hh.1.2, hh.2⟩
  have htail : ∀ (i : Nat) (o : Oper), ops[i]? = some o → ¬ i < h → ∀ j, j < i → ∃ e ∈ o.after, Region.binds .any e = true ∧ e.on = j := fun i o ho hlt j hj => by
    have hi : i < ops.size := (Array.getElem?_eq_some_iff.1 ho).1
    have := hall i hi
    rw [ho] at this
    simp only [Bool.and_eq_true, if_neg hlt, List.all_eq_true, List.mem_range] at this
    obtain ⟨e, he, hh⟩ := Array.any_eq_true'.1 (this.2 j hj)
    simp only [Bool.and_eq_true, beq_iff_eq] at hh
    exact ⟨e, he, hh.1, hh.2⟩
  have hset : ∀ (l : Array Bool) (i j : Nat), i ≠ j → (l.setIfInBounds i true).getD j false = l.getD j false := fun l i j h => by
    simp [Array.getD_eq_getD_getElem?, Array.getElem?_setIfInBounds_ne h]
  have hset1 : ∀ (l : Array Bool) (i : Nat), i < l.size → (l.setIfInBounds i true).getD i false = true := fun l i h => by
    simp [Array.getD_eq_getD_getElem?, h]
  have hft : ∀ (l : Array Bool) (i : Nat), l.getD i true = false → l.getD i false = false := fun l i h => by
    by_cases hi : i < l.size
    · simpa [Array.getD_eq_getD_getElem?, hi] using h
    · simp [Array.getD_eq_getD_getElem?, hi] at h
  have hdone : ∀ l : Array Bool, l.size = ops.size → Region.ready .any ops l = [] → ∀ i, i < ops.size → l.getD i false = true := fun l hl hr i => by
    induction i using Nat.strongRecOn with
    | _ i ih =>
      intro hi
      cases hq : l.getD i false with
      | true => rfl
      | false =>
        exfalso
        obtain ⟨o, ho⟩ : ∃ o, ops[i]? = some o := ⟨_, Array.getElem?_eq_getElem hi⟩
        have hq' : l.getD i true = false := by
          rw [Array.getD_eq_getD_getElem?, Array.getElem?_eq_getElem (by omega)] at hq ⊢; exact hq
        have hm : i ∈ Region.ready .any ops l := by
          simp only [Region.ready, List.mem_filter, List.mem_range, Bool.and_eq_true, Bool.not_eq_true']
          refine ⟨hi, hq', ?_⟩
          rw [ho]
          simp only [Option.map_some, Option.getD_some]
          refine Array.all_eq_true'.2 fun e he => ?_
          cases hb : Region.binds .any e with
          | false => simp
          | true =>
            have := hafter i o ho e he hb
            simp [ih e.on this (by omega)]
        rw [hr] at hm; cases hm
  let FrA : Array Bool → Act → World → Prop := fun l a' w' => C w' ∧ a'.tmps.size = a.tmps.size ∧ a'.defers = a.defers ∧ (∀ d, (∀ j, j < h → l.getD j false = true → dstOf ops j ≠ some d) → a'.tmps.getD d undef = a.tmps.getD d undef) ∧
    (∀ j, j < h → l.getD j false = true → ∀ d, dstOf ops j = some d → F d (a'.tmps.getD d undef) w')
  have hfull : ∀ l a' w', FrA l a' w' → (∀ j, j < h → l.getD j false = true) → wpList P ops Q (ops.toList.drop h) a' w' := fun l a' w' hA hl => by
    obtain ⟨f1, f2, f3, f4, f5⟩ := hA
    have ea : a' = fill a (fun d => a'.tmps.getD d undef) ds := by
      refine act_ext (by rw [fill_size, f2]) (by rw [fill_defers, f3]) fun d => ?_
      rw [fill_get _ _ ds a (fun d hd => by rw [hN]; simpa using hdN d hd)]
      by_cases hd : d ∈ ds
      · rw [if_pos hd]
      · rw [if_neg hd]
        exact f4 d fun j hj _ he => hd ((hds' d).2 ⟨j, hj, he⟩)
    have := hlast (fun d => a'.tmps.getD d undef) w' f1 fun d hd => by
      obtain ⟨j, hj, he⟩ := (hds' d).1 hd
      exact f5 j hj (hl j hj) d he
    rw [← ea] at this
    exact this
  let I : Array Bool → Act → World → Prop := fun l a' w' => l.size = ops.size ∧ (((∀ t, h ≤ t → l.getD t false = false) ∧ FrA l a' w') ∨ (∃ k, h < k ∧ k ≤ ops.size ∧ (∀ t, t < k → l.getD t false = true) ∧ (∀ t, k ≤ t → l.getD t false = false) ∧ wpList P ops Q (ops.toList.drop k) a' w'))
  have hseq : ∀ (k : Nat) (l : Array Bool) (a' : Act) (w' : World), l.size = ops.size → h ≤ k → k < ops.size → (∀ t, t < k → l.getD t false = true) → (∀ t, k ≤ t → l.getD t false = false) → wpList P ops Q (ops.toList.drop k) a' w' → wpOp P ops Q k (fun a'' w'' => I (l.setIfInBounds k true) a'' w'') a' w' := fun k l a' w' hl hk1 hk2 g1 g2 hw => by
    obtain ⟨o, ho⟩ : ∃ o, ops[k]? = some o := ⟨_, Array.getElem?_eq_getElem hk2⟩
    have ed : ops.toList.drop k = o :: ops.toList.drop (k + 1) := by
      rw [List.drop_eq_getElem_cons (by simpa using hk2)]
      congr 1
      have := (Array.getElem?_eq_some_iff.1 ho).2
      simpa using this
    rw [ed] at hw
    have hnext : ∀ a'' w'', wpList P ops Q (ops.toList.drop (k + 1)) a'' w'' → I (l.setIfInBounds k true) a'' w'' := fun a'' w'' hh =>
      ⟨by simpa using hl, .inr ⟨k + 1, by omega, by omega, fun t ht => by
        by_cases htk : t = k
        · subst htk; exact hset1 _ _ (by omega)
        · rw [hset _ _ _ (by omega)]; exact g1 t (by omega), fun t ht => by rw [hset _ _ _ (by omega)]; exact g2 t (by omega), hh⟩⟩
    unfold wpOp
    rw [ho]
    simp only []
    unfold wpList at hw
    split
    · rename_i hwn
      rw [if_pos hwn] at hw
      rcases hw with hw | hw
      · exact .inl (Oper.wp_mono hnext hw)
      · exact .inr hw
    · rename_i hwn
      rw [if_neg hwn] at hw
      exact hnext _ _ hw
  refine wp_region_any hm (wpAny_inv I (fun l a' w' h => h.1) ?_ ?_ ops.size _ a w.drew ?_ ?_)
  · intro l a' w' hI i hi
    obtain ⟨i1, i2⟩ := hI
    obtain ⟨r1, r2, r3⟩ := ready_facts hi
    obtain ⟨o, ho⟩ : ∃ o, ops[i]? = some o := ⟨_, Array.getElem?_eq_getElem r1⟩
    rcases i2 with ⟨n1, hA⟩ | ⟨k, k1, k2, k3, k4, k5⟩
    · by_cases hlt : i < h
      · obtain ⟨f1, f2, f3, f4, f5⟩ := hA
        obtain ⟨hdist, hlk⟩ := hhead i o ho hlt
        have hs := hstep i o ho hlt a' w' f1 fun d hd => ⟨fun hdm => by
            obtain ⟨e, he, hb, heh, hed⟩ := hlk d hd hdm
            exact f5 e.on heh (r3 o ho e he hb) d hed, fun hdm => f4 d fun j hj _ he => hdm ((hds' d).2 ⟨j, hj, he⟩)⟩
        have hput : ∀ v w'', C w'' → (∀ d v, F d v w' → F d v w'') → (∀ d, o.dst = some d → F d v w'') → I (l.setIfInBounds i true) (a'.put o.dst v) w'' := fun v w'' c1 c2 c3 => by
          cases hdi : o.dst with
          | none =>
            have hdsi : dstOf ops i = none := by unfold dstOf; rw [ho]; exact hdi
            refine ⟨by simpa using i1, .inl ⟨fun t ht => by rw [hset _ _ _ (by omega)]; exact n1 t ht, c1, f2, f3, fun d hd => ?_, fun j hj hjl d hjd => ?_⟩⟩
            · refine f4 d fun j hj hjl => ?_
              by_cases hij : i = j
              · subst hij; rw [hft _ _ r2] at hjl; cases hjl
              · exact hd j hj (by rw [hset _ _ _ hij]; exact hjl)
            · by_cases hij : i = j
              · subst hij; rw [hdsi] at hjd; cases hjd
              · rw [hset _ _ _ hij] at hjl
                exact c2 _ _ (f5 j hj hjl d hjd)
          | some di =>
            have hdsi : dstOf ops i = some di := by unfold dstOf; rw [ho]; exact hdi
            have hdiN : di < a.tmps.size := by rw [hN]; simpa using hdN di ((hds' di).2 ⟨i, hlt, hdsi⟩)
            refine ⟨by simpa using i1, .inl ⟨fun t ht => by rw [hset _ _ _ (by omega)]; exact n1 t ht, c1, by simpa [Act.put] using f2, f3, fun d hd => ?_, fun j hj hjl d hjd => ?_⟩⟩
            · have hne : d ≠ di := fun e => hd i hlt (hset1 _ _ (by omega)) (by rw [e]; exact hdsi)
              rw [getD_put hne]
              refine f4 d fun j hj hjl => ?_
              by_cases hij : i = j
              · subst hij; rw [hft _ _ r2] at hjl; cases hjl
              · exact hd j hj (by rw [hset _ _ _ hij]; exact hjl)
            · by_cases hij : i = j
              · subst hij
                rw [hdsi] at hjd; cases hjd
                rw [getD_put_same (by rw [f2]; exact hdiN)]; exact c3 _ hdi
              · have hne : d ≠ di := fun e => hdist di hdi j hj (Ne.symm hij) (by rw [hjd, e, hdi])
                rw [getD_put hne]
                rw [hset _ _ _ hij] at hjl
                exact c2 _ _ (f5 j hj hjl d hjd)
        unfold wpOp
        rw [ho]
        simp only []
        by_cases hw : Region.wanted o (yielded ops a'.tmps) = true
        · rw [if_pos hw] at hs ⊢
          refine .inl (Oper.wp_mono (fun a'' w'' hh => ?_) hs)
          obtain ⟨v, rfl, c1, c2, c3⟩ := hh
          exact hput v w'' c1 c2 c3
        · rw [if_neg hw] at hs ⊢
          exact hput undef w' f1 (fun _ _ h => h) hs
      · have hall' : ∀ j, j < i → l.getD j false = true := fun j hj => by
          obtain ⟨e, he, hb, hej⟩ := htail i o ho hlt j hj
          rw [← hej]; exact r3 o ho e he hb
        have hih : i = h := by
          by_cases hih : i = h
          · exact hih
          · have := hall' h (by omega)
            rw [n1 h (Nat.le_refl _)] at this; cases this
        subst hih
        exact hseq i l a' w' i1 (Nat.le_refl _) r1 hall' n1 (hfull l a' w' hA hall')
    · have hik : i = k := by
        have h1 : ¬ i < k := fun hlt => by have := k3 i hlt; rw [hft _ _ r2] at this; cases this
        by_cases hik : i = k
        · exact hik
        · obtain ⟨e, he, hb, hej⟩ := htail i o ho (by omega) k (by omega)
          have := r3 o ho e he hb
          rw [hej, k4 k (Nat.le_refl _)] at this; cases this
      subst hik
      exact hseq i l a' w' i1 (by omega) r1 k3 k4 k5
  · intro l a' w' hI hr
    obtain ⟨i1, i2⟩ := hI
    have hd := hdone l i1 hr
    rcases i2 with ⟨n1, hA⟩ | ⟨k, k1, k2, k3, k4, k5⟩
    · have hsz : h = ops.size := by
        by_cases hlt : h < ops.size
        · have := hd h hlt; rw [n1 h (Nat.le_refl _)] at this; cases this
        · omega
      have := hfull l a' w' hA fun j hj => hd j (by omega)
      rw [List.drop_of_length_le (by simp [hsz])] at this
      exact this
    · have hsz : k = ops.size := by
        by_cases hlt : k < ops.size
        · have := hd k hlt; rw [k4 k (Nat.le_refl _)] at this; cases this
        · omega
      rw [List.drop_of_length_le (by simp [hsz])] at k5
      exact k5
  · have hz : ∀ i, (Array.replicate ops.size false).getD i false = false := fun i => by
      by_cases hi : i < ops.size
      · simp [Array.getD_eq_getD_getElem?, hi]
      · simp [Array.getD_eq_getD_getElem?, hi]
    exact ⟨by simp, .inl ⟨fun t _ => hz t, hC, rfl, rfl, fun _ _ => rfl, fun j _ hj => by rw [hz] at hj; cases hj⟩⟩
  · exact Nat.le_trans List.countP_le_length (by simp)
/-- what one operation must do -/
def StepM (P : Program) (Q : Exit → Act → World → Prop) (ops : Array Oper) (ds : List Nat) (a : Act) (C : World → Prop) (F : Nat → Value → World → Prop) (o : Oper) : Prop :=
  ∀ a' w', C w' → (∀ d ∈ looks ops o, (d ∈ ds → F d (a'.tmps.getD d undef) w') ∧ (d ∉ ds → a'.tmps.getD d undef = a.tmps.getD d undef)) →
      if Region.wanted o (yielded ops a'.tmps) = true then o.wp P a' w' (fun a'' w'' => ∃ v, a'' = a'.put o.dst v ∧ C w'' ∧ (∀ d v, F d v w' → F d v w'') ∧ ∀ d, o.dst = some d → F d v w'') Q else ∀ d, o.dst = some d → F d undef w'
theorem StepP.mix {P : Program} {Q : Exit → Act → World → Prop} {ops : Array Oper} {ds : List Nat} {a : Act} {C : World → Prop} {F : Nat → Value → World → Prop} {o : Oper} (hmono : ∀ d v w w', F d v w → Below w.heap.size w w' → F d v w') (h : StepP P Q ops ds a C F o) : StepM P Q ops ds a C F o := by
  intro a' w' hC hF
  have hs := h a' w' hC hF
  by_cases hw : Region.wanted o (yielded ops a'.tmps) = true
  · rw [if_pos hw] at hs ⊢
    refine Oper.wp_mono (fun a'' w'' hh => ?_) hs
    obtain ⟨v, h1, h2, h3, h4⟩ := hh
    exact ⟨v, h1, h2, fun d v hf => hmono _ _ _ _ hf h3, h4⟩
  · rw [if_neg hw] at hs ⊢
    exact hs
theorem wp_mix_lit {P : Program} {l : List Oper} {Q : Exit → Act → World → Prop} {id : Nat} {a : Act} {w : World} (hm : P.follows .mixedOrders = true) (h : Nat) (ds : List Nat) (N : Nat) (hN : a.tmps.size = N) (hB : mixB l.toArray h ds N = true)
    (C : World → Prop) (F : Nat → Value → World → Prop) (hC : C w.drew)
    (hstep : AllL (StepM P Q l.toArray ds a C F) (l.take h))
    (hlast : ∀ (v : Nat → Value) w', C w' → (∀ d ∈ ds, F d (v d) w') → wpList P l.toArray Q (l.drop h) (fill a v ds) w') : (Code.region id l.toArray true).wp P Q a w :=
  wp_region_mix hm h ds N hN hB C F hC (fun i o ho hi => hstep.get i o (by rw [List.getElem?_take_of_lt hi]; simpa using ho)) hlast
end Tl
end Go.Proofs.YtnepfllbfagfnaaDoor
