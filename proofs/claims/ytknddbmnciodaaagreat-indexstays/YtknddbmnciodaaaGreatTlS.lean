/- A region that draws its order, and one of whose operations writes into a box that another has made. No program in it. -/
import Derived.Test.YtknddbmnciodaaaGreatTl
namespace Go.Proofs.YtknddbmnciodaaaGreat
open Go.RowKit
set_option linter.unusedVariables false
namespace Tl
theorem wp_region_mixs {P : Program} {ops : Array Oper} {Q : Exit → Act → World → Prop} {id : Nat} {a : Act} {w : World} (hm : P.follows .mixedOrders = true) (h : Nat) (ds : List Nat) (N : Nat) (hN : a.tmps.size = N) (hB : mixB ops h ds N = true)
    (C : World → Prop) (F : Nat → Value → World → Prop) (p0 z : Nat) (hz0 : z ∉ ds) (hC : C w.drew)
    (hst : ∀ (i : Nat) (o : Oper), ops[i]? = some o → i < h → o.dst = none → o.guard = none ∧ (p0 ∈ ds → p0 ∈ looks ops o))
    (hstep : ∀ (i : Nat) (o : Oper), ops[i]? = some o → i < h → ∀ a' w', C w' → (∀ d ∈ looks ops o, (d ∈ ds → F d (a'.tmps.getD d undef) w') ∧ (d ∉ ds → a'.tmps.getD d undef = a.tmps.getD d undef)) →
      if Region.wanted o (yielded ops a'.tmps) = true then o.wp P a' w' (fun a'' w'' => ∃ v, a'' = a'.put o.dst v ∧ C w'' ∧ (∀ d v, o.dst ≠ some d → F d v w' → F d v w'') ∧ (∀ d, o.dst = some d → F d v w'') ∧ (o.dst = none → F z (a'.tmps.getD p0 undef) w'')) Q else ∀ d, o.dst = some d → F d undef w')
    (hlast : ∀ (v : Nat → Value) w', C w' → (∀ d ∈ ds, F d (v d) w') → (∀ j, j < h → dstOf ops j = none → F z (v p0) w') → wpList P ops Q (ops.toList.drop h) (fill a v ds) w') : (Code.region id ops true).wp P Q a w := by
  unfold mixB at hB
  simp only [Bool.and_eq_true, decide_eq_true_eq, beq_iff_eq, List.all_eq_true, List.mem_range] at hB
  obtain ⟨⟨⟨hle, hds⟩, hdN⟩, hall⟩ := hB
  have hds' : ∀ d, d ∈ ds ↔ ∃ j, j < h ∧ dstOf ops j = some d := fun d => by
    rw [hds]; simp [List.mem_filterMap]
  have hafter : ∀ (i : Nat) (o : Oper), ops[i]? = some o → ∀ e ∈ o.after, Region.binds .any e = true → e.on < i := fun i o ho e he hb => by
    have hi : i < ops.size := (Array.getElem?_eq_some_iff.1 ho).1
    have := hall i hi
    rw [ho] at this
    simp only [Bool.and_eq_true] at this
    simpa [hb] using (Array.all_eq_true'.1 this.1) e he
  have hhead : ∀ (i : Nat) (o : Oper), ops[i]? = some o → i < h → (∀ d, o.dst = some d → ∀ j, j < h → j ≠ i → dstOf ops j ≠ o.dst) ∧ (∀ d ∈ looks ops o, d ∈ ds → ∃ e ∈ o.after, Region.binds .any e = true ∧ e.on < h ∧ dstOf ops e.on = some d) := fun i o ho hlt => by
    have hi : i < ops.size := (Array.getElem?_eq_some_iff.1 ho).1
    have := hall i hi
    rw [ho] at this
    simp only [Bool.and_eq_true, if_pos hlt, List.all_eq_true, List.mem_range, Bool.or_eq_true, beq_iff_eq, bne_iff_ne, Bool.not_eq_true'] at this
    obtain ⟨_, h2, h3⟩ := this
    refine ⟨fun d0 hd0 j hj hne => ?_, fun d hd hdm => ?_⟩
    · rcases h2 with h2 | h2
      · rw [hd0] at h2; simp at h2
      rcases h2 j hj with h | h
      · exact absurd h.symm hne
      · exact h
    · rcases h3 d hd with h | h
      · rw [← Bool.not_eq_true] at h; exact absurd (by simpa using hdm) h
      · obtain ⟨e, he, hh⟩ := Array.any_eq_true'.1 h
        simp only [Bool.and_eq_true, beq_iff_eq, decide_eq_true_eq] at hh
        exact ⟨e, he, hh.1.1, hh.1.2, hh.2⟩
  have htail : ∀ (i : Nat) (o : Oper), ops[i]? = some o → ¬ i < h → ∀ l : Array Bool, Closed ops l → i ∈ Region.ready .any ops l → ∀ j, j < i → l.getD j false = true := fun i o ho hlt l hcl hrd j hj => by
    have hi : i < ops.size := (Array.getElem?_eq_some_iff.1 ho).1
    have := hall i hi
    rw [ho] at this
    simp only [Bool.and_eq_true, if_neg hlt, List.all_eq_true, List.mem_range] at this
    have hm : j ∈ ancs ops i [i] := by simpa using this.2 j hj
    rcases ancs_listed hcl (edgeB_ready hrd) i [i] (fun m hm => .inl (by simpa using hm)) j hm with e | hl
    · omega
    · exact hl
  have hset : ∀ (l : Array Bool) (i j : Nat), i ≠ j → (l.setIfInBounds i true).getD j false = l.getD j false := fun l i j h => by
    simp [Array.getD_eq_getD_getElem?, Array.getElem?_setIfInBounds_ne h]
  have hset1 : ∀ (l : Array Bool) (i : Nat), i < l.size → (l.setIfInBounds i true).getD i false = true := fun l i h => by
    simp [Array.getD_eq_getD_getElem?, h]
  have hft : ∀ (l : Array Bool) (i : Nat), l.getD i true = false → l.getD i false = false := fun l i h => by
    by_cases hi : i < l.size
    · simpa [Array.getD_eq_getD_getElem?, hi] using h
    · simp [Array.getD_eq_getD_getElem?, hi] at h
  have hdone : ∀ l : Array Bool, l.size = ops.size → Region.ready .any ops l = [] → ∀ i, i < ops.size → l.getD i false = true := fun l hl hr i => by
    induction i using Nat.strongRecOn with
    | _ i ih =>
      intro hi
      cases hq : l.getD i false with
      | true => rfl
      | false =>
        exfalso
        obtain ⟨o, ho⟩ : ∃ o, ops[i]? = some o := ⟨_, Array.getElem?_eq_getElem hi⟩
        have hq' : l.getD i true = false := by
          rw [Array.getD_eq_getD_getElem?, Array.getElem?_eq_getElem (by omega)] at hq ⊢; exact hq
        have hm : i ∈ Region.ready .any ops l := by
          simp only [Region.ready, List.mem_filter, List.mem_range, Bool.and_eq_true, Bool.not_eq_true']
          refine ⟨hi, hq', ?_⟩
          rw [ho]
          simp only [Option.map_some, Option.getD_some]
          refine Array.all_eq_true'.2 fun e he => ?_
          cases hb : Region.binds .any e with
          | false => simp
          | true =>
            have := hafter i o ho e he hb
            simp [ih e.on this (by omega)]
        rw [hr] at hm; cases hm
  let FrA : Array Bool → Act → World → Prop := fun l a' w' => C w' ∧ a'.tmps.size = a.tmps.size ∧ a'.defers = a.defers ∧ (∀ d, (∀ j, j < h → l.getD j false = true → dstOf ops j ≠ some d) → a'.tmps.getD d undef = a.tmps.getD d undef) ∧
    (∀ j, j < h → l.getD j false = true → ∀ d, dstOf ops j = some d → F d (a'.tmps.getD d undef) w') ∧ (∀ j, j < h → l.getD j false = true → dstOf ops j = none → F z (a'.tmps.getD p0 undef) w' ∧ (p0 ∈ ds → ∃ i0, i0 < h ∧ l.getD i0 false = true ∧ dstOf ops i0 = some p0))
  have hfull : ∀ l a' w', FrA l a' w' → (∀ j, j < h → l.getD j false = true) → wpList P ops Q (ops.toList.drop h) a' w' := fun l a' w' hA hl => by
    obtain ⟨f1, f2, f3, f4, f5, f6⟩ := hA
    have ea : a' = fill a (fun d => a'.tmps.getD d undef) ds := by
      refine act_ext (by rw [fill_size, f2]) (by rw [fill_defers, f3]) fun d => ?_
      rw [fill_get _ _ ds a (fun d hd => by rw [hN]; simpa using hdN d hd)]
      by_cases hd : d ∈ ds
      · rw [if_pos hd]
      · rw [if_neg hd]
        exact f4 d fun j hj _ he => hd ((hds' d).2 ⟨j, hj, he⟩)
    have := hlast (fun d => a'.tmps.getD d undef) w' f1 fun d hd => by
      obtain ⟨j, hj, he⟩ := (hds' d).1 hd
      exact f5 j hj (hl j hj) d he
    have this := this fun j hj he => (f6 j hj (hl j hj) he).1
    rw [← ea] at this
    exact this
  let I : Array Bool → Act → World → Prop := fun l a' w' => l.size = ops.size ∧ (((∀ t, h ≤ t → l.getD t false = false) ∧ FrA l a' w') ∨ (∃ k, h < k ∧ k ≤ ops.size ∧ (∀ t, t < k → l.getD t false = true) ∧ (∀ t, k ≤ t → l.getD t false = false) ∧ wpList P ops Q (ops.toList.drop k) a' w'))
  have hseq : ∀ (k : Nat) (l : Array Bool) (a' : Act) (w' : World), l.size = ops.size → h ≤ k → k < ops.size → (∀ t, t < k → l.getD t false = true) → (∀ t, k ≤ t → l.getD t false = false) → wpList P ops Q (ops.toList.drop k) a' w' → wpOp P ops Q k (fun a'' w'' => I (l.setIfInBounds k true) a'' w'') a' w' := fun k l a' w' hl hk1 hk2 g1 g2 hw => by
    obtain ⟨o, ho⟩ : ∃ o, ops[k]? = some o := ⟨_, Array.getElem?_eq_getElem hk2⟩
    have ed : ops.toList.drop k = o :: ops.toList.drop (k + 1) := by
      rw [List.drop_eq_getElem_cons (by simpa using hk2)]
      congr 1
      have := (Array.getElem?_eq_some_iff.1 ho).2
      simpa using this
    rw [ed] at hw
    have hnext : ∀ a'' w'', wpList P ops Q (ops.toList.drop (k + 1)) a'' w'' → I (l.setIfInBounds k true) a'' w'' := fun a'' w'' hh =>
      ⟨by simpa using hl, .inr ⟨k + 1, by omega, by omega, fun t ht => by
        by_cases htk : t = k
        · subst htk; exact hset1 _ _ (by omega)
        · rw [hset _ _ _ (by omega)]; exact g1 t (by omega), fun t ht => by rw [hset _ _ _ (by omega)]; exact g2 t (by omega), hh⟩⟩
    unfold wpOp
    rw [ho]
    simp only []
    unfold wpList at hw
    split
    · rename_i hwn
      rw [if_pos hwn] at hw
      rcases hw with hw | hw
      · exact .inl (Oper.wp_mono hnext hw)
      · exact .inr hw
    · rename_i hwn
      rw [if_neg hwn] at hw
      exact hnext _ _ hw
  refine wp_region_any hm (wpAny_inv (fun l a' w' => I l a' w' ∧ Closed ops l) (fun l a' w' h => h.1.1) ?_ ?_ ops.size _ a w.drew ?_ ?_)
  · intro l a' w' hIc i hi
    obtain ⟨hI, hcl⟩ := hIc
    refine wpOp_mono (fun a'' w'' hh => ⟨hh, hcl.push (edgeB_ready hi)⟩) ?_
    obtain ⟨i1, i2⟩ := hI
    obtain ⟨r1, r2, r3⟩ := ready_facts hi
    obtain ⟨o, ho⟩ : ∃ o, ops[i]? = some o := ⟨_, Array.getElem?_eq_getElem r1⟩
    rcases i2 with ⟨n1, hA⟩ | ⟨k, k1, k2, k3, k4, k5⟩
    · by_cases hlt : i < h
      · obtain ⟨f1, f2, f3, f4, f5, f6⟩ := hA
        obtain ⟨hdist, hlk⟩ := hhead i o ho hlt
        have hs := hstep i o ho hlt a' w' f1 fun d hd => ⟨fun hdm => by
            obtain ⟨e, he, hb, heh, hed⟩ := hlk d hd hdm
            exact f5 e.on heh (r3 o ho e he hb) d hed, fun hdm => f4 d fun j hj _ he => hdm ((hds' d).2 ⟨j, hj, he⟩)⟩
        have hput : ∀ v w'', C w'' → (∀ d v, o.dst ≠ some d → F d v w' → F d v w'') → (∀ d, o.dst = some d → F d v w'') → (o.dst = none → F z (a'.tmps.getD p0 undef) w'') → I (l.setIfInBounds i true) (a'.put o.dst v) w'' := fun v w'' c1 c2 c3 c4 => by
          cases hdi : o.dst with
          | none =>
            have hdsi : dstOf ops i = none := by unfold dstOf; rw [ho]; exact hdi
            refine ⟨by simpa using i1, .inl ⟨fun t ht => by rw [hset _ _ _ (by omega)]; exact n1 t ht, c1, f2, f3, fun d hd => ?_, fun j hj hjl d hjd => ?_, fun j hj hjl hjd => ?_⟩⟩
            · refine f4 d fun j hj hjl => ?_
              by_cases hij : i = j
              · subst hij; rw [hft _ _ r2] at hjl; cases hjl
              · exact hd j hj (by rw [hset _ _ _ hij]; exact hjl)
            · by_cases hij : i = j
              · subst hij; rw [hdsi] at hjd; cases hjd
              · rw [hset _ _ _ hij] at hjl
                exact c2 _ _ (by rw [hdi]; simp) (f5 j hj hjl d hjd)
            · have hset' : ∀ k, l.getD k false = true → (l.setIfInBounds i true).getD k false = true := fun k hk => by
                by_cases hik : i = k
                · subst hik; exact hset1 _ _ (by omega)
                · rw [hset _ _ _ hik]; exact hk
              by_cases hij : i = j
              · refine ⟨c4 hdi, fun hp0 => ?_⟩
                obtain ⟨e, he, hb, heh, hed⟩ := hlk p0 ((hst i o ho hlt hdi).2 hp0) hp0
                exact ⟨e.on, heh, hset' _ (r3 o ho e he hb), hed⟩
              · rw [hset _ _ _ hij] at hjl
                obtain ⟨g1, g5⟩ := f6 j hj hjl hjd
                exact ⟨c2 _ _ (by rw [hdi]; simp) g1, fun hp0 => by
                  obtain ⟨i0, g2, g3, g4⟩ := g5 hp0
                  exact ⟨i0, g2, hset' _ g3, g4⟩⟩
          | some di =>
            have hdsi : dstOf ops i = some di := by unfold dstOf; rw [ho]; exact hdi
            have hdiN : di < a.tmps.size := by rw [hN]; simpa using hdN di ((hds' di).2 ⟨i, hlt, hdsi⟩)
            refine ⟨by simpa using i1, .inl ⟨fun t ht => by rw [hset _ _ _ (by omega)]; exact n1 t ht, c1, by simpa [Act.put] using f2, f3, fun d hd => ?_, fun j hj hjl d hjd => ?_, fun j hj hjl hjd => ?_⟩⟩
            · have hne : d ≠ di := fun e => hd i hlt (hset1 _ _ (by omega)) (by rw [e]; exact hdsi)
              rw [getD_put hne]
              refine f4 d fun j hj hjl => ?_
              by_cases hij : i = j
              · subst hij; rw [hft _ _ r2] at hjl; cases hjl
              · exact hd j hj (by rw [hset _ _ _ hij]; exact hjl)
            · by_cases hij : i = j
              · subst hij
                rw [hdsi] at hjd; cases hjd
                rw [getD_put_same (by rw [f2]; exact hdiN)]; exact c3 _ hdi
              · have hne : d ≠ di := fun e => hdist di hdi j hj (Ne.symm hij) (by rw [hjd, e, hdi])
                rw [getD_put hne]
                rw [hset _ _ _ hij] at hjl
                exact c2 _ _ (fun e => hne (by rw [hdi] at e; exact (Option.some.inj e).symm)) (f5 j hj hjl d hjd)
            · have hset' : ∀ k, l.getD k false = true → (l.setIfInBounds i true).getD k false = true := fun k hk => by
                by_cases hik : i = k
                · subst hik; exact hset1 _ _ (by omega)
                · rw [hset _ _ _ hik]; exact hk
              have hij : i ≠ j := fun e => by subst e; rw [hdsi] at hjd; cases hjd
              rw [hset _ _ _ hij] at hjl
              obtain ⟨g1, g5⟩ := f6 j hj hjl hjd
              have hdm : di ∈ ds := (hds' di).2 ⟨i, hlt, hdsi⟩
              have hne : p0 ≠ di := fun e => by
                obtain ⟨i0, g2, g3, g4⟩ := g5 (e ▸ hdm)
                have hi0 : i0 ≠ i := fun e => by subst e; rw [hft _ _ r2] at g3; cases g3
                exact hdist di hdi i0 g2 hi0 (by rw [g4, e, hdi])
              rw [getD_put hne]
              exact ⟨c2 _ _ (fun e => hz0 (by rw [hdi] at e; rw [← Option.some.inj e]; exact (hds' di).2 ⟨i, hlt, hdsi⟩)) g1, fun hp0 => by
                obtain ⟨i0, g2, g3, g4⟩ := g5 hp0
                exact ⟨i0, g2, hset' _ g3, g4⟩⟩
        unfold wpOp
        rw [ho]
        simp only []
        by_cases hw : Region.wanted o (yielded ops a'.tmps) = true
        · rw [if_pos hw] at hs ⊢
          refine .inl (Oper.wp_mono (fun a'' w'' hh => ?_) hs)
          obtain ⟨v, rfl, c1, c2, c3, c4⟩ := hh
          exact hput v w'' c1 c2 c3 c4
        · rw [if_neg hw] at hs ⊢
          exact hput undef w' f1 (fun _ _ _ h => h) hs fun hd => absurd (wanted_none (hst i o ho hlt hd).1) hw
      · have hall' : ∀ j, j < i → l.getD j false = true := htail i o ho hlt l hcl hi
        have hih : i = h := by
          by_cases hih : i = h
          · exact hih
          · have := hall' h (by omega)
            rw [n1 h (Nat.le_refl _)] at this; cases this
        subst hih
        exact hseq i l a' w' i1 (Nat.le_refl _) r1 hall' n1 (hfull l a' w' hA hall')
    · have hik : i = k := by
        have h1 : ¬ i < k := fun hlt => by have := k3 i hlt; rw [hft _ _ r2] at this; cases this
        by_cases hik : i = k
        · exact hik
        · have := htail i o ho (by omega) l hcl hi k (by omega)
          rw [k4 k (Nat.le_refl _)] at this; cases this
      subst hik
      exact hseq i l a' w' i1 (by omega) r1 k3 k4 k5
  · intro l a' w' hIc hr
    have hI := hIc.1
    obtain ⟨i1, i2⟩ := hI
    have hd := hdone l i1 hr
    rcases i2 with ⟨n1, hA⟩ | ⟨k, k1, k2, k3, k4, k5⟩
    · have hsz : h = ops.size := by
        by_cases hlt : h < ops.size
        · have := hd h hlt; rw [n1 h (Nat.le_refl _)] at this; cases this
        · omega
      have := hfull l a' w' hA fun j hj => hd j (by omega)
      rw [List.drop_of_length_le (by simp [hsz])] at this
      exact this
    · have hsz : k = ops.size := by
        by_cases hlt : k < ops.size
        · have := hd k hlt; rw [k4 k (Nat.le_refl _)] at this; cases this
        · omega
      rw [List.drop_of_length_le (by simp [hsz])] at k5
      exact k5
  · have hz : ∀ i, (Array.replicate ops.size false).getD i false = false := fun i => by
      by_cases hi : i < ops.size
      · simp [Array.getD_eq_getD_getElem?, hi]
      · simp [Array.getD_eq_getD_getElem?, hi]
    exact ⟨⟨by simp, .inl ⟨fun t _ => hz t, hC, rfl, rfl, fun _ _ => rfl, fun j _ hj => (by rw [hz] at hj; cases hj), fun j _ hj => (by rw [hz] at hj; cases hj)⟩⟩, fun m k hm => by rw [hz] at hm; cases hm⟩
  · exact Nat.le_trans List.countP_le_length (by simp)
/-- what one operation must do: one that tells nothing must make a fact of the box -/
def StepS (P : Program) (Q : Exit → Act → World → Prop) (ops : Array Oper) (ds : List Nat) (a : Act) (C : World → Prop) (F : Nat → Value → World → Prop) (p0 z : Nat) (o : Oper) : Prop := match o.dst with
  | some _ => StepM P Q ops ds a C F o
  | none => o.guard = none ∧ (p0 ∈ ds → p0 ∈ looks ops o) ∧ ∀ a' w', C w' → (∀ d ∈ looks ops o, (d ∈ ds → F d (a'.tmps.getD d undef) w') ∧ (d ∉ ds → a'.tmps.getD d undef = a.tmps.getD d undef)) →
      o.wp P a' w' (fun a'' w'' => ∃ v, a'' = a'.put o.dst v ∧ C w'' ∧ (∀ d v, F d v w' → F d v w'') ∧ F z (a'.tmps.getD p0 undef) w'') Q
theorem wp_mixs_lit {P : Program} {l : List Oper} {Q : Exit → Act → World → Prop} {id : Nat} {a : Act} {w : World} (hm : P.follows .mixedOrders = true) (h : Nat) (ds : List Nat) (N : Nat) (hN : a.tmps.size = N) (hB : mixB l.toArray h ds N = true)
    (C : World → Prop) (F : Nat → Value → World → Prop) (p0 z : Nat) (hz0 : z ∉ ds) (hC : C w.drew)
    (hstep : AllL (StepS P Q l.toArray ds a C F p0 z) (l.take h))
    (hlast : ∀ (v : Nat → Value) w', C w' → (∀ d ∈ ds, F d (v d) w') → (∀ j, j < h → dstOf l.toArray j = none → F z (v p0) w') → wpList P l.toArray Q (l.drop h) (fill a v ds) w') : (Code.region id l.toArray true).wp P Q a w := by
  have hget : ∀ (i : Nat) (o : Oper), l.toArray[i]? = some o → i < h → StepS P Q l.toArray ds a C F p0 z o := fun i o ho hi => hstep.get i o (by rw [List.getElem?_take_of_lt hi]; simpa using ho)
  refine wp_region_mixs hm h ds N hN hB C F p0 z hz0 hC (fun i o ho hi hd => ?_) (fun i o ho hi a' w' c f => ?_) hlast
  · have := hget i o ho hi
    unfold StepS at this
    rw [hd] at this
    exact ⟨this.1, this.2.1⟩
  · have := hget i o ho hi
    unfold StepS at this
    cases hd : o.dst with
    | some d =>
      rw [hd] at this
      have h1 := this a' w' c f
      by_cases hw : Region.wanted o (yielded l.toArray a'.tmps) = true
      · rw [if_pos hw] at h1 ⊢
        refine Oper.wp_mono (fun a'' w'' hh => ?_) h1
        obtain ⟨v, e1, e2, e3, e4⟩ := hh
        rw [hd] at e1 e3 e4
        exact ⟨v, e1, e2, e3, e4, fun e => by cases e⟩
      · rw [if_neg hw] at h1 ⊢
        rw [hd] at h1
        exact h1
    | none =>
      rw [hd] at this
      have h1 := this.2.2 a' w' c f
      rw [if_pos (wanted_none this.1)]
      refine Oper.wp_mono (fun a'' w'' hh => ?_) h1
      obtain ⟨v, e1, e2, e3, e4⟩ := hh
      exact ⟨v, e1, e2, fun d v _ h => e3 d v h, fun d e => (by cases e), fun _ => e4⟩
/-- a store into a box -/
theorem ss_w {P : Program} {Q : Exit → Act → World → Prop} {C : World → Prop} {F : Nat → Value → World → Prop} {o : Oper} {a : Act} {w w' : World} {G : World → Prop} (hr : (execOp a.eval o).run P w = .ok .skip w') (hd : o.dst = none) (hC : C w') (hk : ∀ d v, F d v w → F d v w') (hG : G w') :
    o.wp P a w (fun a'' w'' => ∃ v, a'' = a.put o.dst v ∧ C w'' ∧ (∀ d v, F d v w → F d v w'') ∧ G w'') Q := by
  unfold Oper.wp
  rw [hr]
  exact ⟨undef, by rw [hd], hC, hk, hG⟩
end Tl
end Go.Proofs.YtknddbmnciodaaaGreat
