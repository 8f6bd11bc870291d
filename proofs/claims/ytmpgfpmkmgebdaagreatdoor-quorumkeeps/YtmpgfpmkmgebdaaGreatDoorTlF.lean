/- Drawn regions where a block is made and stored into in whatever order: what a slot holds is told by which operations have been run. -/
import Derived.Test.YtmpgfpmkmgebdaaGreatDoorWTlL
namespace Go.Proofs.YtmpgfpmkmgebdaaGreatDoor.W
open Go.RowKit Go.Maps
namespace Tl
theorem wp_region_mixF {P : Program} {ops : Array Oper} {Q : Exit → Act → World → Prop} {id : Nat} {a : Act} {w : World} (hm : P.follows .mixedOrders = true) (h : Nat) (ds : List Nat) (N : Nat) (hN : a.tmps.size = N) (hB : mixB ops h ds N = true)
    (C : Array Bool → World → Prop) (F : Array Bool → Nat → Value → World → Prop) (hC : C (Array.replicate ops.size false) w.drew)
    (hstep : ∀ (i : Nat) (o : Oper), ops[i]? = some o → i < h → ∀ (l : Array Bool) a' w', l.size = ops.size → l.getD i false = false → Closed ops l → (∀ k, edgeB ops i k = true → l.getD k false = true) → C l w' → (∀ d ∈ looks ops o, (d ∈ ds → F l d (a'.tmps.getD d undef) w') ∧ (d ∉ ds → a'.tmps.getD d undef = a.tmps.getD d undef)) →
      if Region.wanted o (yielded ops a'.tmps) = true then o.wp P a' w' (fun a'' w'' => ∃ v, a'' = a'.put o.dst v ∧ C (l.setIfInBounds i true) w'' ∧ (∀ d, o.dst ≠ some d → F l d (a'.tmps.getD d undef) w' → F (l.setIfInBounds i true) d (a'.tmps.getD d undef) w'') ∧ ∀ d, o.dst = some d → F (l.setIfInBounds i true) d v w'') Q else C (l.setIfInBounds i true) w' ∧ (∀ d, o.dst ≠ some d → F l d (a'.tmps.getD d undef) w' → F (l.setIfInBounds i true) d (a'.tmps.getD d undef) w') ∧ ∀ d, o.dst = some d → F (l.setIfInBounds i true) d undef w')
    (hlast : ∀ (l : Array Bool) (v : Nat → Value) w', (∀ j, j < h → l.getD j false = true) → C l w' → (∀ d ∈ ds, F l d (v d) w') → wpList P ops Q (ops.toList.drop h) (fill a v ds) w') : (Code.region id ops true).wp P Q a w := by
  unfold mixB at hB
  simp only [Bool.and_eq_true, decide_eq_true_eq, beq_iff_eq, List.all_eq_true, List.mem_range] at hB
  obtain ⟨⟨⟨hle, hds⟩, hdN⟩, hall⟩ := hB
  have hds' : ∀ d, d ∈ ds ↔ ∃ j, j < h ∧ dstOf ops j = some d := fun d => by
    rw [hds]; simp [List.mem_filterMap]
  have hafter : ∀ (i : Nat) (o : Oper), ops[i]? = some o → ∀ e ∈ o.after, Region.binds .any e = true → e.on < i := fun i o ho e he hb => by
    have hi : i < ops.size := (Array.getElem?_eq_some_iff.1 ho).1
    have := hall i hi
    rw [ho] at this
    simp only [Bool.and_eq_true] at this
    simpa [hb] using (Array.all_eq_true'.1 this.1) e he
  have hhead : ∀ (i : Nat) (o : Oper), ops[i]? = some o → i < h → (∀ d, o.dst = some d → ∀ j, j < h → j ≠ i → dstOf ops j ≠ o.dst) ∧ (∀ d ∈ looks ops o, d ∈ ds → ∃ e ∈ o.after, Region.binds .any e = true ∧ e.on < h ∧ dstOf ops e.on = some d) := fun i o ho hlt => by
    have hi : i < ops.size := (Array.getElem?_eq_some_iff.1 ho).1
    have := hall i hi
    rw [ho] at this
    simp only [Bool.and_eq_true, if_pos hlt, List.all_eq_true, List.mem_range, Bool.or_eq_true, beq_iff_eq, bne_iff_ne, Bool.not_eq_true'] at this
    obtain ⟨_, h2, h3⟩ := this
    refine ⟨fun d0 hd0 j hj hne => ?_, fun d hd hdm => ?_⟩
    · rcases h2 with h2 | h2
      · rw [hd0] at h2; simp at h2
      rcases h2 j hj with h | h
      · exact absurd h.symm hne
      · exact h
    · rcases h3 d hd with h | h
      · rw [← Bool.not_eq_true] at h; exact absurd (by simpa using hdm) h
      · obtain ⟨e, he, hh⟩ := Array.any_eq_true'.1 h
        simp only [Bool.and_eq_true, beq_iff_eq, decide_eq_true_eq] at hh
        exact ⟨e, he, hh.1.1, hh.1.2, hh.2⟩
  have htail : ∀ (i : Nat) (o : Oper), ops[i]? = some o → ¬ i < h → ∀ l : Array Bool, Closed ops l → i ∈ Region.ready .any ops l → ∀ j, j < i → l.getD j false = true := fun i o ho hlt l hcl hrd j hj => by
    have hi : i < ops.size := (Array.getElem?_eq_some_iff.1 ho).1
    have := hall i hi
    rw [ho] at this
    simp only [Bool.and_eq_true, if_neg hlt, List.all_eq_true, List.mem_range] at this
    have hm : j ∈ ancs ops i [i] := by simpa using this.2 j hj
    rcases ancs_listed hcl (edgeB_ready hrd) i [i] (fun m hm => .inl (by simpa using hm)) j hm with e | hl
    · omega
    · exact hl
  have hset : ∀ (l : Array Bool) (i j : Nat), i ≠ j → (l.setIfInBounds i true).getD j false = l.getD j false := fun l i j h => by
    simp [Array.getD_eq_getD_getElem?, Array.getElem?_setIfInBounds_ne h]
  have hset1 : ∀ (l : Array Bool) (i : Nat), i < l.size → (l.setIfInBounds i true).getD i false = true := fun l i h => by
    simp [Array.getD_eq_getD_getElem?, h]
  have hft : ∀ (l : Array Bool) (i : Nat), l.getD i true = false → l.getD i false = false := fun l i h => by
    by_cases hi : i < l.size
    · simpa [Array.getD_eq_getD_getElem?, hi] using h
    · simp [Array.getD_eq_getD_getElem?, hi] at h
  have hdone : ∀ l : Array Bool, l.size = ops.size → Region.ready .any ops l = [] → ∀ i, i < ops.size → l.getD i false = true := fun l hl hr i => by
    induction i using Nat.strongRecOn with
    | _ i ih =>
      intro hi
      cases hq : l.getD i false with
      | true => rfl
      | false =>
        exfalso
        obtain ⟨o, ho⟩ : ∃ o, ops[i]? = some o := ⟨_, Array.getElem?_eq_getElem hi⟩
        have hq' : l.getD i true = false := by
          rw [Array.getD_eq_getD_getElem?, Array.getElem?_eq_getElem (by omega)] at hq ⊢; exact hq
        have hm : i ∈ Region.ready .any ops l := by
          simp only [Region.ready, List.mem_filter, List.mem_range, Bool.and_eq_true, Bool.not_eq_true']
          refine ⟨hi, hq', ?_⟩
          rw [ho]
          simp only [Option.map_some, Option.getD_some]
          refine Array.all_eq_true'.2 fun e he => ?_
          cases hb : Region.binds .any e with
          | false => simp
          | true =>
            have := hafter i o ho e he hb
            simp [ih e.on this (by omega)]
        rw [hr] at hm; cases hm
  let FrA : Array Bool → Act → World → Prop := fun l a' w' => C l w' ∧ a'.tmps.size = a.tmps.size ∧ a'.defers = a.defers ∧ (∀ d, (∀ j, j < h → l.getD j false = true → dstOf ops j ≠ some d) → a'.tmps.getD d undef = a.tmps.getD d undef) ∧
    (∀ j, j < h → l.getD j false = true → ∀ d, dstOf ops j = some d → F l d (a'.tmps.getD d undef) w')
  have hfull : ∀ l a' w', FrA l a' w' → (∀ j, j < h → l.getD j false = true) → wpList P ops Q (ops.toList.drop h) a' w' := fun l a' w' hA hl => by
    obtain ⟨f1, f2, f3, f4, f5⟩ := hA
    have ea : a' = fill a (fun d => a'.tmps.getD d undef) ds := by
      refine act_ext (by rw [fill_size, f2]) (by rw [fill_defers, f3]) fun d => ?_
      rw [fill_get _ _ ds a (fun d hd => by rw [hN]; simpa using hdN d hd)]
      by_cases hd : d ∈ ds
      · rw [if_pos hd]
      · rw [if_neg hd]
        exact f4 d fun j hj _ he => hd ((hds' d).2 ⟨j, hj, he⟩)
    have := hlast l (fun d => a'.tmps.getD d undef) w' hl f1 fun d hd => by
      obtain ⟨j, hj, he⟩ := (hds' d).1 hd
      exact f5 j hj (hl j hj) d he
    rw [← ea] at this
    exact this
  let I : Array Bool → Act → World → Prop := fun l a' w' => l.size = ops.size ∧ (((∀ t, h ≤ t → l.getD t false = false) ∧ FrA l a' w') ∨ (∃ k, h < k ∧ k ≤ ops.size ∧ (∀ t, t < k → l.getD t false = true) ∧ (∀ t, k ≤ t → l.getD t false = false) ∧ wpList P ops Q (ops.toList.drop k) a' w'))
  have hseq : ∀ (k : Nat) (l : Array Bool) (a' : Act) (w' : World), l.size = ops.size → h ≤ k → k < ops.size → (∀ t, t < k → l.getD t false = true) → (∀ t, k ≤ t → l.getD t false = false) → wpList P ops Q (ops.toList.drop k) a' w' → wpOp P ops Q k (fun a'' w'' => I (l.setIfInBounds k true) a'' w'') a' w' := fun k l a' w' hl hk1 hk2 g1 g2 hw => by
    obtain ⟨o, ho⟩ : ∃ o, ops[k]? = some o := ⟨_, Array.getElem?_eq_getElem hk2⟩
    have ed : ops.toList.drop k = o :: ops.toList.drop (k + 1) := by
      rw [List.drop_eq_getElem_cons (by simpa using hk2)]
      congr 1
      have := (Array.getElem?_eq_some_iff.1 ho).2
      simpa using this
    rw [ed] at hw
    have hnext : ∀ a'' w'', wpList P ops Q (ops.toList.drop (k + 1)) a'' w'' → I (l.setIfInBounds k true) a'' w'' := fun a'' w'' hh =>
      ⟨by simpa using hl, .inr ⟨k + 1, by omega, by omega, fun t ht => by
        by_cases htk : t = k
        · subst htk; exact hset1 _ _ (by omega)
        · rw [hset _ _ _ (by omega)]; exact g1 t (by omega), fun t ht => by rw [hset _ _ _ (by omega)]; exact g2 t (by omega), hh⟩⟩
    unfold wpOp
    rw [ho]
    simp only []
    unfold wpList at hw
    split
    · rename_i hwn
      rw [if_pos hwn] at hw
      rcases hw with hw | hw
      · exact .inl (Oper.wp_mono hnext hw)
      · exact .inr hw
    · rename_i hwn
      rw [if_neg hwn] at hw
      exact hnext _ _ hw
  refine wp_region_any hm (wpAny_inv (fun l a' w' => I l a' w' ∧ Closed ops l) (fun l a' w' h => h.1.1) ?_ ?_ ops.size _ a w.drew ?_ ?_)
  · intro l a' w' hIc i hi
    obtain ⟨hI, hcl⟩ := hIc
    refine wpOp_mono (fun a'' w'' hh => ⟨hh, hcl.push (edgeB_ready hi)⟩) ?_
    obtain ⟨i1, i2⟩ := hI
    obtain ⟨r1, r2, r3⟩ := ready_facts hi
    obtain ⟨o, ho⟩ : ∃ o, ops[i]? = some o := ⟨_, Array.getElem?_eq_getElem r1⟩
    rcases i2 with ⟨n1, hA⟩ | ⟨k, k1, k2, k3, k4, k5⟩
    · by_cases hlt : i < h
      · obtain ⟨f1, f2, f3, f4, f5⟩ := hA
        obtain ⟨hdist, hlk⟩ := hhead i o ho hlt
        have hs := hstep i o ho hlt l a' w' i1 (hft _ _ r2) hcl (edgeB_ready hi) f1 fun d hd => ⟨fun hdm => by
            obtain ⟨e, he, hb, heh, hed⟩ := hlk d hd hdm
            exact f5 e.on heh (r3 o ho e he hb) d hed, fun hdm => f4 d fun j hj _ he => hdm ((hds' d).2 ⟨j, hj, he⟩)⟩
        have hput : ∀ v w'', C (l.setIfInBounds i true) w'' → (∀ d, o.dst ≠ some d → F l d (a'.tmps.getD d undef) w' → F (l.setIfInBounds i true) d (a'.tmps.getD d undef) w'') → (∀ d, o.dst = some d → F (l.setIfInBounds i true) d v w'') → I (l.setIfInBounds i true) (a'.put o.dst v) w'' := fun v w'' c1 c2 c3 => by
          cases hdi : o.dst with
          | none =>
            have hdsi : dstOf ops i = none := by unfold dstOf; rw [ho]; exact hdi
            refine ⟨by simpa using i1, .inl ⟨fun t ht => by rw [hset _ _ _ (by omega)]; exact n1 t ht, c1, f2, f3, fun d hd => ?_, fun j hj hjl d hjd => ?_⟩⟩
            · refine f4 d fun j hj hjl => ?_
              by_cases hij : i = j
              · subst hij; rw [hft _ _ r2] at hjl; cases hjl
              · exact hd j hj (by rw [hset _ _ _ hij]; exact hjl)
            · by_cases hij : i = j
              · subst hij; rw [hdsi] at hjd; cases hjd
              · rw [hset _ _ _ hij] at hjl
                exact c2 _ (by rw [hdi]; simp) (f5 j hj hjl d hjd)
          | some di =>
            have hdsi : dstOf ops i = some di := by unfold dstOf; rw [ho]; exact hdi
            have hdiN : di < a.tmps.size := by rw [hN]; simpa using hdN di ((hds' di).2 ⟨i, hlt, hdsi⟩)
            refine ⟨by simpa using i1, .inl ⟨fun t ht => by rw [hset _ _ _ (by omega)]; exact n1 t ht, c1, by simpa [Act.put] using f2, f3, fun d hd => ?_, fun j hj hjl d hjd => ?_⟩⟩
            · have hne : d ≠ di := fun e => hd i hlt (hset1 _ _ (by omega)) (by rw [e]; exact hdsi)
              rw [getD_put hne]
              refine f4 d fun j hj hjl => ?_
              by_cases hij : i = j
              · subst hij; rw [hft _ _ r2] at hjl; cases hjl
              · exact hd j hj (by rw [hset _ _ _ hij]; exact hjl)
            · by_cases hij : i = j
              · subst hij
                rw [hdsi] at hjd; cases hjd
                rw [getD_put_same (by rw [f2]; exact hdiN)]; exact c3 _ hdi
              · have hne : d ≠ di := fun e => hdist di hdi j hj (Ne.symm hij) (by rw [hjd, e, hdi])
                rw [getD_put hne]
                rw [hset _ _ _ hij] at hjl
                exact c2 _ (fun e => hne (by rw [hdi] at e; exact (Option.some.inj e).symm)) (f5 j hj hjl d hjd)
        unfold wpOp
        rw [ho]
        simp only []
        by_cases hw : Region.wanted o (yielded ops a'.tmps) = true
        · rw [if_pos hw] at hs ⊢
          refine .inl (Oper.wp_mono (fun a'' w'' hh => ?_) hs)
          obtain ⟨v, rfl, c1, c2, c3⟩ := hh
          exact hput v w'' c1 c2 c3
        · rw [if_neg hw] at hs ⊢
          exact hput undef w' hs.1 hs.2.1 hs.2.2
      · have hall' : ∀ j, j < i → l.getD j false = true := htail i o ho hlt l hcl hi
        have hih : i = h := by
          by_cases hih : i = h
          · exact hih
          · have := hall' h (by omega)
            rw [n1 h (Nat.le_refl _)] at this; cases this
        subst hih
        exact hseq i l a' w' i1 (Nat.le_refl _) r1 hall' n1 (hfull l a' w' hA hall')
    · have hik : i = k := by
        have h1 : ¬ i < k := fun hlt => by have := k3 i hlt; rw [hft _ _ r2] at this; cases this
        by_cases hik : i = k
        · exact hik
        · have := htail i o ho (by omega) l hcl hi k (by omega)
          rw [k4 k (Nat.le_refl _)] at this; cases this
      subst hik
      exact hseq i l a' w' i1 (by omega) r1 k3 k4 k5
  · intro l a' w' hIc hr
    have hI := hIc.1
    obtain ⟨i1, i2⟩ := hI
    have hd := hdone l i1 hr
    rcases i2 with ⟨n1, hA⟩ | ⟨k, k1, k2, k3, k4, k5⟩
    · have hsz : h = ops.size := by
        by_cases hlt : h < ops.size
        · have := hd h hlt; rw [n1 h (Nat.le_refl _)] at this; cases this
        · omega
      have := hfull l a' w' hA fun j hj => hd j (by omega)
      rw [List.drop_of_length_le (by simp [hsz])] at this
      exact this
    · have hsz : k = ops.size := by
        by_cases hlt : k < ops.size
        · have := hd k hlt; rw [k4 k (Nat.le_refl _)] at this; cases this
        · omega
      rw [List.drop_of_length_le (by simp [hsz])] at k5
      exact k5
  · have hz : ∀ i, (Array.replicate ops.size false).getD i false = false := fun i => by
      by_cases hi : i < ops.size
      · simp [Array.getD_eq_getD_getElem?, hi]
      · simp [Array.getD_eq_getD_getElem?, hi]
    exact ⟨⟨by simp, .inl ⟨fun t _ => hz t, hC, rfl, rfl, fun _ _ => rfl, fun j _ hj => by rw [hz] at hj; cases hj⟩⟩, fun m k hm => by rw [hz] at hm; cases hm⟩
  · exact Nat.le_trans List.countP_le_length (by simp)
def StepF (P : Program) (Q : Exit → Act → World → Prop) (ops : Array Oper) (ds : List Nat) (a : Act) (C : Array Bool → World → Prop) (F : Array Bool → Nat → Value → World → Prop) (i : Nat) (o : Oper) : Prop :=
  ∀ (l : Array Bool) a' w', l.size = ops.size → l.getD i false = false → Closed ops l → (∀ k, edgeB ops i k = true → l.getD k false = true) → C l w' → (∀ d ∈ looks ops o, (d ∈ ds → F l d (a'.tmps.getD d undef) w') ∧ (d ∉ ds → a'.tmps.getD d undef = a.tmps.getD d undef)) →
      if Region.wanted o (yielded ops a'.tmps) = true then o.wp P a' w' (fun a'' w'' => ∃ v, a'' = a'.put o.dst v ∧ C (l.setIfInBounds i true) w'' ∧ (∀ d, o.dst ≠ some d → F l d (a'.tmps.getD d undef) w' → F (l.setIfInBounds i true) d (a'.tmps.getD d undef) w'') ∧ ∀ d, o.dst = some d → F (l.setIfInBounds i true) d v w'') Q else C (l.setIfInBounds i true) w' ∧ (∀ d, o.dst ≠ some d → F l d (a'.tmps.getD d undef) w' → F (l.setIfInBounds i true) d (a'.tmps.getD d undef) w') ∧ ∀ d, o.dst = some d → F (l.setIfInBounds i true) d undef w'
theorem wp_mixF_lit {P : Program} {l : List Oper} {Q : Exit → Act → World → Prop} {id : Nat} {a : Act} {w : World} (hm : P.follows .mixedOrders = true) (h : Nat) (ds : List Nat) (N : Nat) (hN : a.tmps.size = N) (hB : mixB l.toArray h ds N = true)
    (C : Array Bool → World → Prop) (F : Array Bool → Nat → Value → World → Prop) (hC : C (Array.replicate l.toArray.size false) w.drew)
    (hstep : AllI (StepF P Q l.toArray ds a C F) 0 (l.take h))
    (hlast : ∀ (k : Array Bool) (v : Nat → Value) w', (∀ j, j < h → k.getD j false = true) → C k w' → (∀ d ∈ ds, F k d (v d) w') → wpList P l.toArray Q (l.drop h) (fill a v ds) w') : (Code.region id l.toArray true).wp P Q a w :=
  wp_region_mixF hm h ds N hN hB C F hC (fun i o ho hi => by
    have := hstep.get i o (by rw [List.getElem?_take_of_lt hi]; simpa using ho)
    rwa [Nat.zero_add] at this) hlast
/-- an operation that yields a value, and leaves the memory as it is -/
theorem sf_v {P : Program} {Q : Exit → Act → World → Prop} {ops : Array Oper} {C' : World → Prop} {F F' : Nat → Value → World → Prop} {o : Oper} {a : Act} {w : World} {X : Prop} (d : Nat) (v : Value) (hd : o.dst = some d) (hw : Region.wanted o (yielded ops a.tmps) = true) (hC : C' w) (hF : F' d v w) (hr : (execOp a.eval o).run P w = .ok (.value v) w) (hk : ∀ d v, F d v w → F' d v w) :
    if Region.wanted o (yielded ops a.tmps) = true then o.wp P a w (fun a'' w'' => ∃ v, a'' = a.put o.dst v ∧ C' w'' ∧ (∀ d, o.dst ≠ some d → F d (a.tmps.getD d undef) w → F' d (a.tmps.getD d undef) w'') ∧ ∀ d, o.dst = some d → F' d v w'') Q else X := by
  rw [if_pos hw]
  unfold Oper.wp
  rw [hr]
  exact ⟨v, rfl, hC, fun _ _ h => hk _ _ h, fun d' h' => by rw [hd] at h'; cases h'; exact hF⟩
/-- one that calls a function -/
theorem sf_call {P : Program} {Q : Exit → Act → World → Prop} {ops : Array Oper} {C' : World → Prop} {F F' : Nat → Value → World → Prop} {o : Oper} {a : Act} {w w' : World} {X : Prop} (f : FuncId) (args : Array Value) (hw : Region.wanted o (yielded ops a.tmps) = true) (hr : (execOp a.eval o).run P w = .ok (.enter f args) w')
    (h : Calls P f args w' fun e w'' => ∃ v, e = .returned v ∧ C' w'' ∧ (∀ d, o.dst ≠ some d → F d (a.tmps.getD d undef) w → F' d (a.tmps.getD d undef) w'') ∧ ∀ d, o.dst = some d → F' d v w'') :
    if Region.wanted o (yielded ops a.tmps) = true then o.wp P a w (fun a'' w'' => ∃ v, a'' = a.put o.dst v ∧ C' w'' ∧ (∀ d, o.dst ≠ some d → F d (a.tmps.getD d undef) w → F' d (a.tmps.getD d undef) w'') ∧ ∀ d, o.dst = some d → F' d v w'') Q else X := by
  rw [if_pos hw]
  unfold Oper.wp
  rw [hr, Oper.upon_enter]
  refine h.mono ?_
  rintro e w'' ⟨v, rfl, h1, h2, h3⟩
  exact ⟨v, rfl, h1, h2, h3⟩
/-- one that yields a value, and makes memory -/
theorem sf_w {P : Program} {Q : Exit → Act → World → Prop} {ops : Array Oper} {C' : World → Prop} {F F' : Nat → Value → World → Prop} {o : Oper} {a : Act} {w w' : World} {X : Prop} (d : Nat) (v : Value) (hd : o.dst = some d) (hw : Region.wanted o (yielded ops a.tmps) = true) (hr : (execOp a.eval o).run P w = .ok (.value v) w') (hC : C' w') (hF : F' d v w') (hk : ∀ d, F d (a.tmps.getD d undef) w → F' d (a.tmps.getD d undef) w') :
    if Region.wanted o (yielded ops a.tmps) = true then o.wp P a w (fun a'' w'' => ∃ v, a'' = a.put o.dst v ∧ C' w'' ∧ (∀ d, o.dst ≠ some d → F d (a.tmps.getD d undef) w → F' d (a.tmps.getD d undef) w'') ∧ ∀ d, o.dst = some d → F' d v w'') Q else X := by
  rw [if_pos hw]
  unfold Oper.wp
  rw [hr]
  exact ⟨v, rfl, hC, fun _ _ h => hk _ h, fun d' h' => by rw [hd] at h'; cases h'; exact hF⟩
/-- one that stores, and yields nothing -/
theorem sf_s {P : Program} {Q : Exit → Act → World → Prop} {ops : Array Oper} {C' : World → Prop} {F F' : Nat → Value → World → Prop} {o : Oper} {a : Act} {w w' : World} {X : Prop} (hd : o.dst = none) (hw : Region.wanted o (yielded ops a.tmps) = true) (hr : (execOp a.eval o).run P w = .ok .skip w') (hC : C' w') (hk : ∀ d, F d (a.tmps.getD d undef) w → F' d (a.tmps.getD d undef) w') :
    if Region.wanted o (yielded ops a.tmps) = true then o.wp P a w (fun a'' w'' => ∃ v, a'' = a.put o.dst v ∧ C' w'' ∧ (∀ d, o.dst ≠ some d → F d (a.tmps.getD d undef) w → F' d (a.tmps.getD d undef) w'') ∧ ∀ d, o.dst = some d → F' d v w'') Q else X := by
  rw [if_pos hw]
  unfold Oper.wp
  rw [hr]
  exact ⟨undef, by rw [hd], hC, fun _ _ h => hk _ h, fun d' h' => by rw [hd] at h'; cases h'⟩
end Tl
end Go.Proofs.YtmpgfpmkmgebdaaGreatDoor.W
