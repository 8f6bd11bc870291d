/- Drawn regions where a block is made and stored into in whatever order: what a slot holds is told by which operations have been run. -/
import Derived.Test.YteapbbaollmniaaGreatDoorG9
namespace Go.Proofs.YteapbbaollmniaaGreatDoor.W
open Go.RowKit Go.Maps
namespace Tl
theorem wp_region_mixF {P : Program} {ops : Array Oper} {Q : Exit -> Act -> World -> Prop} {id : Nat} {a : Act} {w : World} (hm : P.follows .mixedOrders = true) (h : Nat) (ds : List Nat) (N : Nat) (hN : a.tmps.size = N) (hB : mixB ops h ds N = true)
  (C : Array Bool -> World -> Prop) (F : Array Bool -> Nat -> Value -> World -> Prop) (hC : C (Array.replicate ops.size false) w.drew)
  (hstep : ∀ (i : Nat) (o : Oper),ops[i]? = some o -> i < h -> ∀ (l : Array Bool) a' w',l.size = ops.size -> l.getD i false = false -> Closed ops l -> (∀ k,edgeB ops i k = true -> l.getD k false = true) -> C l w' -> (∀ d ∈ looks ops o,(d ∈ ds -> F l d (a'.tmps.getD d undef) w') /\ (d ∉ ds -> a'.tmps.getD d undef = a.tmps.getD d undef)) ->
   if Region.wanted o (yielded ops a'.tmps) = true then o.wp P a' w' (fun a'' w''=>∃ v,a'' = a'.put o.dst v /\ C (l.setIfInBounds i true) w'' /\ (∀ d,o.dst ≠ some d -> F l d (a'.tmps.getD d undef) w' -> F (l.setIfInBounds i true) d (a'.tmps.getD d undef) w'') /\ ∀ d,o.dst = some d -> F (l.setIfInBounds i true) d v w'') Q else C (l.setIfInBounds i true) w' /\ (∀ d,o.dst ≠ some d -> F l d (a'.tmps.getD d undef) w' -> F (l.setIfInBounds i true) d (a'.tmps.getD d undef) w') /\ ∀ d,o.dst = some d -> F (l.setIfInBounds i true) d undef w')
  (hlast : ∀ (l : Array Bool) (v : Nat -> Value) w',(∀ j,j < h -> l.getD j false = true) -> C l w' -> (∀ d ∈ ds,F l d (v d) w') -> wpList P ops Q (ops.toList.drop h) (fill a v ds) w') : (Code.region id ops true).wp P Q a w:=by
 unfold mixB at hB
 simp only [Bool.and_eq_true,decide_eq_true_eq,beq_iff_eq,List.all_eq_true,List.mem_range] at hB
 obtain ⟨⟨⟨hle,hds⟩,hdN⟩,hall⟩:=hB
 have hds' : ∀ d,d ∈ ds ↔ ∃ j,j < h /\ dstOf ops j = some d:=fun d=>by
  rw [hds]; simp [List.mem_filterMap]
 have hafter : ∀ (i : Nat) (o : Oper),ops[i]? = some o -> ∀ e ∈ o.after,Region.binds .any e = true -> e.on < i:=fun i o ho e he hb=>by
  have hi : i < ops.size:=(Array.getElem?_eq_some_iff.1 ho).1
  have:=hall i hi
  rw [ho] at this
  simp only [Bool.and_eq_true] at this
  simpa [hb] using (Array.all_eq_true'.1 this.1) e he
 have hhead : ∀ (i : Nat) (o : Oper),ops[i]? = some o -> i < h -> (∀ d,o.dst = some d -> ∀ j,j < h -> j ≠ i -> dstOf ops j ≠ o.dst) /\ (∀ d ∈ looks ops o,d ∈ ds -> ∃ e ∈ o.after,Region.binds .any e = true /\ e.on < h /\ dstOf ops e.on = some d):=fun i o ho hlt=>by
  have hi : i < ops.size:=(Array.getElem?_eq_some_iff.1 ho).1
  have:=hall i hi
  rw [ho] at this
  simp only [Bool.and_eq_true,if_pos hlt,List.all_eq_true,List.mem_range,Bool.or_eq_true,beq_iff_eq,bne_iff_ne,Bool.not_eq_true'] at this
  obtain ⟨_,h2,h3⟩:=this
  refine ⟨fun d0 hd0 j hj hne=>?_,fun d hd hdm=>?_⟩
  ·rcases h2 with h2 | h2
   ·rw [hd0] at h2; simp at h2
   rcases h2 j hj with h | h
   ·exact absurd h.symm hne
   ·exact h
  ·rcases h3 d hd with h | h
   ·rw [<- Bool.not_eq_true] at h; exact absurd (by simpa using hdm) h
   ·obtain ⟨e,he,hh⟩:=Array.any_eq_true'.1 h
    simp only [Bool.and_eq_true,beq_iff_eq,decide_eq_true_eq] at hh
    exact ⟨e,he,hh.1.1,hh.1.2,hh.2⟩
 have htail : ∀ (i : Nat) (o : Oper),ops[i]? = some o -> ¬ i < h -> ∀ l : Array Bool,Closed ops l -> i ∈ Region.ready .any ops l -> ∀ j,j < i -> l.getD j false = true:=fun i o ho hlt l hcl hrd j hj=>by
  have hi : i < ops.size:=(Array.getElem?_eq_some_iff.1 ho).1
  have:=hall i hi
  rw [ho] at this
  simp only [Bool.and_eq_true,if_neg hlt,List.all_eq_true,List.mem_range] at this
  have hm : j ∈ ancs ops i [i]:=by simpa using this.2 j hj
  rcases ancs_listed hcl (edgeB_ready hrd) i [i] (fun m hm=>.inl (by simpa using hm)) j hm with e | hl
  ·omega
  ·exact hl
 have hset : ∀ (l : Array Bool) (i j : Nat),i ≠ j -> (l.setIfInBounds i true).getD j false = l.getD j false:=fun l i j h=>by
  simp [Array.getD_eq_getD_getElem?,Array.getElem?_setIfInBounds_ne h]
 have hset1 : ∀ (l : Array Bool) (i : Nat),i < l.size -> (l.setIfInBounds i true).getD i false = true:=fun l i h=>by
  simp [Array.getD_eq_getD_getElem?,h]
 have hft : ∀ (l : Array Bool) (i : Nat),l.getD i true = false -> l.getD i false = false:=fun l i h=>by
  by_cases hi : i < l.size
  ·simpa [Array.getD_eq_getD_getElem?,hi] using h
  ·simp [Array.getD_eq_getD_getElem?,hi] at h
 have hdone : ∀ l : Array Bool,l.size = ops.size -> Region.ready .any ops l = [] -> ∀ i,i < ops.size -> l.getD i false = true:=fun l hl hr i=>by
  induction i using Nat.strongRecOn with
  | _ i ih =>
   intro hi
   cases hq : l.getD i false with
   | true=>rfl
   | false =>
    exfalso
    obtain ⟨o,ho⟩ : ∃ o,ops[i]? = some o:=⟨_,Array.getElem?_eq_getElem hi⟩
    have hq' : l.getD i true = false:=by
     rw [Array.getD_eq_getD_getElem?,Array.getElem?_eq_getElem (by omega)] at hq ⊢; exact hq
    have hm : i ∈ Region.ready .any ops l:=by
     simp only [Region.ready,List.mem_filter,List.mem_range,Bool.and_eq_true,Bool.not_eq_true']
     refine ⟨hi,hq',?_⟩
     rw [ho]
     simp only [Option.map_some,Option.getD_some]
     refine Array.all_eq_true'.2 fun e he=>?_
     cases hb : Region.binds .any e with
     | false=>simp
     | true =>
      have:=hafter i o ho e he hb
      simp [ih e.on this (by omega)]
    rw [hr] at hm; cases hm
 let FrA : Array Bool -> Act -> World -> Prop:=fun l a' w'=>C l w' /\ a'.tmps.size = a.tmps.size /\ a'.defers = a.defers /\ (∀ d,(∀ j,j < h -> l.getD j false = true -> dstOf ops j ≠ some d) -> a'.tmps.getD d undef = a.tmps.getD d undef) /\
  (∀ j,j < h -> l.getD j false = true -> ∀ d,dstOf ops j = some d -> F l d (a'.tmps.getD d undef) w')
 have hfull : ∀ l a' w',FrA l a' w' -> (∀ j,j < h -> l.getD j false = true) -> wpList P ops Q (ops.toList.drop h) a' w':=fun l a' w' hA hl=>by
  obtain ⟨f1,f2,f3,f4,f5⟩:=hA
  have ea : a' = fill a (fun d=>a'.tmps.getD d undef) ds:=by
   refine act_ext (by rw [fill_size,f2]) (by rw [fill_defers,f3]) fun d=>?_
   rw [fill_get _ _ ds a (fun d hd=>by rw [hN]; simpa using hdN d hd)]
   by_cases hd : d ∈ ds
   ·rw [if_pos hd]
   ·rw [if_neg hd]
    exact f4 d fun j hj _ he=>hd ((hds' d).2 ⟨j,hj,he⟩)
  have:=hlast l (fun d=>a'.tmps.getD d undef) w' hl f1 fun d hd=>by
   obtain ⟨j,hj,he⟩:=(hds' d).1 hd
   exact f5 j hj (hl j hj) d he
  rw [<- ea] at this
  exact this
 let I : Array Bool -> Act -> World -> Prop:=fun l a' w'=>l.size = ops.size /\ (((∀ t,h <= t -> l.getD t false = false) /\ FrA l a' w') \/ (∃ k,h < k /\ k <= ops.size /\ (∀ t,t < k -> l.getD t false = true) /\ (∀ t,k <= t -> l.getD t false = false) /\ wpList P ops Q (ops.toList.drop k) a' w'))
 have hseq : ∀ (k : Nat) (l : Array Bool) (a' : Act) (w' : World),l.size = ops.size -> h <= k -> k < ops.size -> (∀ t,t < k -> l.getD t false = true) -> (∀ t,k <= t -> l.getD t false = false) -> wpList P ops Q (ops.toList.drop k) a' w' -> wpOp P ops Q k (fun a'' w''=>I (l.setIfInBounds k true) a'' w'') a' w':=fun k l a' w' hl hk1 hk2 g1 g2 hw=>by
  obtain ⟨o,ho⟩ : ∃ o,ops[k]? = some o:=⟨_,Array.getElem?_eq_getElem hk2⟩
  have ed : ops.toList.drop k = o :: ops.toList.drop (k + 1):=by
   rw [List.drop_eq_getElem_cons (by simpa using hk2)]
   congr 1
   have:=(Array.getElem?_eq_some_iff.1 ho).2
   simpa using this
  rw [ed] at hw
  have hnext : ∀ a'' w'',wpList P ops Q (ops.toList.drop (k + 1)) a'' w'' -> I (l.setIfInBounds k true) a'' w'':=fun a'' w'' hh =>
   ⟨by simpa using hl,.inr ⟨k + 1,by omega,by omega,fun t ht=>by
    by_cases htk : t = k
    ·subst htk; exact hset1 _ _ (by omega)
    ·rw [hset _ _ _ (by omega)]; exact g1 t (by omega),fun t ht=>by rw [hset _ _ _ (by omega)]; exact g2 t (by omega),hh⟩⟩
  unfold wpOp
  rw [ho]
  simp only []
  unfold wpList at hw
  split
  ·rename_i hwn
   rw [if_pos hwn] at hw
   rcases hw with hw | hw
   ·exact .inl (Oper.wp_mono hnext hw)
   ·exact .inr hw
  ·rename_i hwn
   rw [if_neg hwn] at hw
   exact hnext _ _ hw
 refine wp_region_any hm (wpAny_inv (fun l a' w'=>I l a' w' /\ Closed ops l) (fun l a' w' h=>h.1.1) ?_ ?_ ops.size _ a w.drew ?_ ?_)
 ·intro l a' w' hIc i hi
  obtain ⟨hI,hcl⟩:=hIc
  refine wpOp_mono (fun a'' w'' hh=>⟨hh,hcl.push (edgeB_ready hi)⟩) ?_
  obtain ⟨i1,i2⟩:=hI
  obtain ⟨r1,r2,r3⟩:=ready_facts hi
  obtain ⟨o,ho⟩ : ∃ o,ops[i]? = some o:=⟨_,Array.getElem?_eq_getElem r1⟩
  rcases i2 with ⟨n1,hA⟩ | ⟨k,k1,k2,k3,k4,k5⟩
  ·by_cases hlt : i < h
   ·obtain ⟨f1,f2,f3,f4,f5⟩:=hA
    obtain ⟨hdist,hlk⟩:=hhead i o ho hlt
    have hs:=hstep i o ho hlt l a' w' i1 (hft _ _ r2) hcl (edgeB_ready hi) f1 fun d hd=>⟨fun hdm=>by
      obtain ⟨e,he,hb,heh,hed⟩:=hlk d hd hdm
      exact f5 e.on heh (r3 o ho e he hb) d hed,fun hdm=>f4 d fun j hj _ he=>hdm ((hds' d).2 ⟨j,hj,he⟩)⟩
    have hput : ∀ v w'',C (l.setIfInBounds i true) w'' -> (∀ d,o.dst ≠ some d -> F l d (a'.tmps.getD d undef) w' -> F (l.setIfInBounds i true) d (a'.tmps.getD d undef) w'') -> (∀ d,o.dst = some d -> F (l.setIfInBounds i true) d v w'') -> I (l.setIfInBounds i true) (a'.put o.dst v) w'':=fun v w'' c1 c2 c3=>by
     cases hdi : o.dst with
     | none =>
      have hdsi : dstOf ops i = none:=by unfold dstOf; rw [ho]; exact hdi
      refine ⟨by simpa using i1,.inl ⟨fun t ht=>by rw [hset _ _ _ (by omega)]; exact n1 t ht,c1,f2,f3,fun d hd=>?_,fun j hj hjl d hjd=>?_⟩⟩
      ·refine f4 d fun j hj hjl=>?_
       by_cases hij : i = j
       ·subst hij; rw [hft _ _ r2] at hjl; cases hjl
       ·exact hd j hj (by rw [hset _ _ _ hij]; exact hjl)
      ·by_cases hij : i = j
       ·subst hij; rw [hdsi] at hjd; cases hjd
       ·rw [hset _ _ _ hij] at hjl
        exact c2 _ (by rw [hdi]; simp) (f5 j hj hjl d hjd)
     | some di =>
      have hdsi : dstOf ops i = some di:=by unfold dstOf; rw [ho]; exact hdi
      have hdiN : di < a.tmps.size:=by rw [hN]; simpa using hdN di ((hds' di).2 ⟨i,hlt,hdsi⟩)
      refine ⟨by simpa using i1,.inl ⟨fun t ht=>by rw [hset _ _ _ (by omega)]; exact n1 t ht,c1,by simpa [Act.put] using f2,f3,fun d hd=>?_,fun j hj hjl d hjd=>?_⟩⟩
      ·have hne : d ≠ di:=fun e=>hd i hlt (hset1 _ _ (by omega)) (by rw [e]; exact hdsi)
       rw [getD_put hne]
       refine f4 d fun j hj hjl=>?_
       by_cases hij : i = j
       ·subst hij; rw [hft _ _ r2] at hjl; cases hjl
       ·exact hd j hj (by rw [hset _ _ _ hij]; exact hjl)
      ·by_cases hij : i = j
       ·subst hij
        rw [hdsi] at hjd; cases hjd
        rw [getD_put_same (by rw [f2]; exact hdiN)]; exact c3 _ hdi
       ·have hne : d ≠ di:=fun e=>hdist di hdi j hj (Ne.symm hij) (by rw [hjd,e,hdi])
        rw [getD_put hne]
        rw [hset _ _ _ hij] at hjl
        exact c2 _ (fun e=>hne (by rw [hdi] at e; exact (Option.some.inj e).symm)) (f5 j hj hjl d hjd)
    unfold wpOp
    rw [ho]
    simp only []
    by_cases hw : Region.wanted o (yielded ops a'.tmps) = true
    ·rw [if_pos hw] at hs ⊢
     refine .inl (Oper.wp_mono (fun a'' w'' hh=>?_) hs)
     obtain ⟨v,rfl,c1,c2,c3⟩:=hh
     exact hput v w'' c1 c2 c3
    ·rw [if_neg hw] at hs ⊢
     exact hput undef w' hs.1 hs.2.1 hs.2.2
   ·have hall' : ∀ j,j < i -> l.getD j false = true:=htail i o ho hlt l hcl hi
    have hih : i = h:=by
     by_cases hih : i = h
     ·exact hih
     ·have:=hall' h (by omega)
      rw [n1 h (Nat.le_refl _)] at this; cases this
    subst hih
    exact hseq i l a' w' i1 (Nat.le_refl _) r1 hall' n1 (hfull l a' w' hA hall')
  ·have hik : i = k:=by
    have h1 : ¬ i < k:=fun hlt=>by have:=k3 i hlt; rw [hft _ _ r2] at this; cases this
    by_cases hik : i = k
    ·exact hik
    ·have:=htail i o ho (by omega) l hcl hi k (by omega)
     rw [k4 k (Nat.le_refl _)] at this; cases this
   subst hik
   exact hseq i l a' w' i1 (by omega) r1 k3 k4 k5
 ·intro l a' w' hIc hr
  have hI:=hIc.1
  obtain ⟨i1,i2⟩:=hI
  have hd:=hdone l i1 hr
  rcases i2 with ⟨n1,hA⟩ | ⟨k,k1,k2,k3,k4,k5⟩
  ·have hsz : h = ops.size:=by
    by_cases hlt : h < ops.size
    ·have:=hd h hlt; rw [n1 h (Nat.le_refl _)] at this; cases this
    ·omega
   have:=hfull l a' w' hA fun j hj=>hd j (by omega)
   rw [List.drop_of_length_le (by simp [hsz])] at this
   exact this
  ·have hsz : k = ops.size:=by
    by_cases hlt : k < ops.size
    ·have:=hd k hlt; rw [k4 k (Nat.le_refl _)] at this; cases this
    ·omega
   rw [List.drop_of_length_le (by simp [hsz])] at k5
   exact k5
 ·have hz : ∀ i,(Array.replicate ops.size false).getD i false = false:=fun i=>by
   by_cases hi : i < ops.size
   ·simp [Array.getD_eq_getD_getElem?,hi]
   ·simp [Array.getD_eq_getD_getElem?,hi]
  exact ⟨⟨by simp,.inl ⟨fun t _=>hz t,hC,rfl,rfl,fun _ _=>rfl,fun j _ hj=>by rw [hz] at hj; cases hj⟩⟩,fun m k hm=>by rw [hz] at hm; cases hm⟩
 ·exact Nat.le_trans List.countP_le_length (by simp)
def StepF (P : Program) (Q : Exit -> Act -> World -> Prop) (ops : Array Oper) (ds : List Nat) (a : Act) (C : Array Bool -> World -> Prop) (F : Array Bool -> Nat -> Value -> World -> Prop) (i : Nat) (o : Oper) : Prop :=
 ∀ (l : Array Bool) a' w',l.size = ops.size -> l.getD i false = false -> Closed ops l -> (∀ k,edgeB ops i k = true -> l.getD k false = true) -> C l w' -> (∀ d ∈ looks ops o,(d ∈ ds -> F l d (a'.tmps.getD d undef) w') /\ (d ∉ ds -> a'.tmps.getD d undef = a.tmps.getD d undef)) ->
   if Region.wanted o (yielded ops a'.tmps) = true then o.wp P a' w' (fun a'' w''=>∃ v,a'' = a'.put o.dst v /\ C (l.setIfInBounds i true) w'' /\ (∀ d,o.dst ≠ some d -> F l d (a'.tmps.getD d undef) w' -> F (l.setIfInBounds i true) d (a'.tmps.getD d undef) w'') /\ ∀ d,o.dst = some d -> F (l.setIfInBounds i true) d v w'') Q else C (l.setIfInBounds i true) w' /\ (∀ d,o.dst ≠ some d -> F l d (a'.tmps.getD d undef) w' -> F (l.setIfInBounds i true) d (a'.tmps.getD d undef) w') /\ ∀ d,o.dst = some d -> F (l.setIfInBounds i true) d undef w'
theorem wp_mixF_lit {P : Program} {l : List Oper} {Q : Exit -> Act -> World -> Prop} {id : Nat} {a : Act} {w : World} (hm : P.follows .mixedOrders = true) (h : Nat) (ds : List Nat) (N : Nat) (hN : a.tmps.size = N) (hB : mixB l.toArray h ds N = true)
  (C : Array Bool -> World -> Prop) (F : Array Bool -> Nat -> Value -> World -> Prop) (hC : C (Array.replicate l.toArray.size false) w.drew)
  (hstep : AllI (StepF P Q l.toArray ds a C F) 0 (l.take h))
  (hlast : ∀ (k : Array Bool) (v : Nat -> Value) w',(∀ j,j < h -> k.getD j false = true) -> C k w' -> (∀ d ∈ ds,F k d (v d) w') -> wpList P l.toArray Q (l.drop h) (fill a v ds) w') : (Code.region id l.toArray true).wp P Q a w :=
 wp_region_mixF hm h ds N hN hB C F hC (fun i o ho hi=>by
  have:=hstep.get i o (by rw [List.getElem?_take_of_lt hi]; simpa using ho)
  rwa [Nat.zero_add] at this) hlast
/-- an operation that yields a value, and leaves the memory as it is -/
theorem sf_v {P : Program} {Q : Exit -> Act -> World -> Prop} {ops : Array Oper} {C' : World -> Prop} {F F' : Nat -> Value -> World -> Prop} {o : Oper} {a : Act} {w : World} {X : Prop} (d : Nat) (v : Value) (hd : o.dst = some d) (hw : Region.wanted o (yielded ops a.tmps) = true) (hC : C' w) (hF : F' d v w) (hr : (execOp a.eval o).run P w = .ok (.value v) w) (hk : ∀ d v,F d v w -> F' d v w) :
  if Region.wanted o (yielded ops a.tmps) = true then o.wp P a w (fun a'' w''=>∃ v,a'' = a.put o.dst v /\ C' w'' /\ (∀ d,o.dst ≠ some d -> F d (a.tmps.getD d undef) w -> F' d (a.tmps.getD d undef) w'') /\ ∀ d,o.dst = some d -> F' d v w'') Q else X:=by
 rw [if_pos hw]
 unfold Oper.wp
 rw [hr]
 exact ⟨v,rfl,hC,fun _ _ h=>hk _ _ h,fun d' h'=>by rw [hd] at h'; cases h'; exact hF⟩
/-- one that calls a function -/
theorem sf_call {P : Program} {Q : Exit -> Act -> World -> Prop} {ops : Array Oper} {C' : World -> Prop} {F F' : Nat -> Value -> World -> Prop} {o : Oper} {a : Act} {w w' : World} {X : Prop} (f : FuncId) (args : Array Value) (hw : Region.wanted o (yielded ops a.tmps) = true) (hr : (execOp a.eval o).run P w = .ok (.enter f args) w')
  (h : Calls P f args w' fun e w''=>∃ v,e = .returned v /\ C' w'' /\ (∀ d,o.dst ≠ some d -> F d (a.tmps.getD d undef) w -> F' d (a.tmps.getD d undef) w'') /\ ∀ d,o.dst = some d -> F' d v w'') :
  if Region.wanted o (yielded ops a.tmps) = true then o.wp P a w (fun a'' w''=>∃ v,a'' = a.put o.dst v /\ C' w'' /\ (∀ d,o.dst ≠ some d -> F d (a.tmps.getD d undef) w -> F' d (a.tmps.getD d undef) w'') /\ ∀ d,o.dst = some d -> F' d v w'') Q else X:=by
 rw [if_pos hw]
 unfold Oper.wp
 rw [hr,Oper.upon_enter]
 refine h.mono ?_
 rintro e w'' ⟨v,rfl,h1,h2,h3⟩
 exact ⟨v,rfl,h1,h2,h3⟩
/-- one that yields a value, and makes memory -/
theorem sf_w {P : Program} {Q : Exit -> Act -> World -> Prop} {ops : Array Oper} {C' : World -> Prop} {F F' : Nat -> Value -> World -> Prop} {o : Oper} {a : Act} {w w' : World} {X : Prop} (d : Nat) (v : Value) (hd : o.dst = some d) (hw : Region.wanted o (yielded ops a.tmps) = true) (hr : (execOp a.eval o).run P w = .ok (.value v) w') (hC : C' w') (hF : F' d v w') (hk : ∀ d,F d (a.tmps.getD d undef) w -> F' d (a.tmps.getD d undef) w') :
  if Region.wanted o (yielded ops a.tmps) = true then o.wp P a w (fun a'' w''=>∃ v,a'' = a.put o.dst v /\ C' w'' /\ (∀ d,o.dst ≠ some d -> F d (a.tmps.getD d undef) w -> F' d (a.tmps.getD d undef) w'') /\ ∀ d,o.dst = some d -> F' d v w'') Q else X:=by
 rw [if_pos hw]
 unfold Oper.wp
 rw [hr]
 exact ⟨v,rfl,hC,fun _ _ h=>hk _ h,fun d' h'=>by rw [hd] at h'; cases h'; exact hF⟩
/-- one that stores, and yields nothing -/
theorem sf_s {P : Program} {Q : Exit -> Act -> World -> Prop} {ops : Array Oper} {C' : World -> Prop} {F F' : Nat -> Value -> World -> Prop} {o : Oper} {a : Act} {w w' : World} {X : Prop} (hd : o.dst = none) (hw : Region.wanted o (yielded ops a.tmps) = true) (hr : (execOp a.eval o).run P w = .ok .skip w') (hC : C' w') (hk : ∀ d,F d (a.tmps.getD d undef) w -> F' d (a.tmps.getD d undef) w') :
  if Region.wanted o (yielded ops a.tmps) = true then o.wp P a w (fun a'' w''=>∃ v,a'' = a.put o.dst v /\ C' w'' /\ (∀ d,o.dst ≠ some d -> F d (a.tmps.getD d undef) w -> F' d (a.tmps.getD d undef) w'') /\ ∀ d,o.dst = some d -> F' d v w'') Q else X:=by
 rw [if_pos hw]
 unfold Oper.wp
 rw [hr]
 exact ⟨undef,by rw [hd],hC,fun _ _ h=>hk _ h,fun d' h'=>by rw [hd] at h'; cases h'⟩
end Tl
end Go.Proofs.YteapbbaollmniaaGreatDoor.W
/- Health's laws: a blob's shards put into all stores of a new world. -/
namespace Go.Proofs.YteapbbaollmniaaGreatDoor
open Go.RowKit Go.Maps
open W
set_option linter.unusedVariables false
variable {w0 w w' : World} {b : Nat} {V V' : Wd} {T : Nat -> Prop} {K N : Int} {bl : List Nat} {n k m : Nat}
/-- what Make tells of a blob's shard -/
theorem mk_blob (hm : C.Mx.mayC K N = true) (hb : bl.length <= 32768) (hmn : (m : Int) < N) : H.mkE K N (dig bl) (m : Int) (C.ofBs (C.payL K.toNat bl m)) = 0 /\ H.mkN K N (dig bl) (m : Int) (C.ofBs (C.payL K.toNat bl m)) = nmS (dig bl) m /\ H.mkD K N (dig bl) (m : Int) (C.ofBs (C.payL K.toNat bl m)) = shD K N bl m:=by
 have hKN : 1 <= K /\ K <= N /\ N <= 12:=by simpa [C.Mx.mayC] using hm
 have hpz : (C.ofBs (C.payL K.toNat bl m)).size = C.sz K.toNat bl.length:=by rw [show (C.ofBs (C.payL K.toNat bl m)).size = _ from H.ofBs_size _,C.payL_length]
 have hE : H.mkE K N (dig bl) (m : Int) (C.ofBs (C.payL K.toNat bl m)) = 0:=by
  unfold H.mkE H.okS H.okC
  rw [decide_eq_true hKN.1,decide_eq_true hKN.2.1,decide_eq_true hKN.2.2,decide_eq_true (dig_len bl),decide_eq_true (show 0 <= (m : Int) by omega),decide_eq_true hmn]
  have:=sz_small (k:=K.toNat) (n:=bl.length) (by omega) hb
  rw [if_pos (show (true && true && true && true && (true && true)) = true from rfl),if_pos (by rw [hpz]; omega)]
 refine ⟨hE,?_,?_⟩
 ·unfold H.mkN; rw [if_pos hE]; rfl
 ·unfold H.mkD
  rw [if_pos hE,show H.bs (C.ofBs (C.payL K.toNat bl m)) = C.payL K.toNat bl m from H.bs_ofBs _ (C.payL_lt _ _ _),Int.toNat_natCast]
  rfl
/-- the stores below k hold their shards, the others nothing -/
def fillP (K N : Int) (bl : List Nat) (k m : Nat) (s : St) : Prop:=s = if m < k then held K N bl m else st0
theorem fillP_fit (hm : C.Mx.mayC K N = true) (hb : bl.length <= 32768) (hmn : (m : Int) < N) {s : St} (h : fillP K N bl k m s) : Fit 100 s:=by
 unfold fillP at h
 rw [h]
 split
 ·exact (Left.held hm hb hmn).fit
 ·exact fit_st
theorem fill_step (h : WI n (fillP K N bl k) V) (hm : C.Mx.mayC K N = true) (hN : N = (n : Int)) (hb : bl.length <= 32768) (hk : k < n) (hc : V.calls = 2 * k) : ∃ V1 V2,askS V (k : Int) (fun s=>putS s (nmS (dig bl) k) (shD K N bl k)) = (0,V1) /\ askS V1 (k : Int) W.sync = (0,V2) /\ V1.calls <= 100 /\ V1.left = 0 /\ V2.calls = 2 * (k + 1) /\ WI n (fillP K N bl (k + 1)) V2:=by
 have hKN : 1 <= K /\ K <= N /\ N <= 12:=by simpa [C.Mx.mayC] using hm
 obtain ⟨x,hx⟩ : ∃ x,V.l[k]? = some x:=⟨_,List.getElem?_eq_getElem (by rw [h.len]; exact hk)⟩
 have hlt : k < V.l.length:=by rw [h.len]; exact hk
 have hxs : x.st = st0:=by
  have:=h.st k x hx
  unfold fillP at this
  rw [if_neg (by omega)] at this
  exact this
 have hput : putS x.st (nmS (dig bl) k) (shD K N bl k) = (0,⟨[(nmS (dig bl) k,shD K N bl k)],[⟨nmS (dig bl) k,none,some (shD K N bl k)⟩],false,none,none,true⟩):=by
  rw [hxs,put_free ⟨rfl,rfl,rfl⟩ (badName_not (dig_len bl) hb hKN.1 (by omega))]
  rfl
 have a1:=h.lit.ask hx (fun s=>putS s (nmS (dig bl) k) (shD K N bl k))
 rw [hput] at a1
 have hl2 : Lit { V with calls:=V.calls + 1,l:=V.l.set k { x with st:=⟨[(nmS (dig bl) k,shD K N bl k)],[⟨nmS (dig bl) k,none,some (shD K N bl k)⟩],false,none,none,true⟩ } }:=h.lit
 have a2:=hl2.ask (i:=k) (List.getElem?_set_self hlt) W.sync
 have hsy : W.sync ⟨[(nmS (dig bl) k,shD K N bl k)],[⟨nmS (dig bl) k,none,some (shD K N bl k)⟩],false,none,none,true⟩ = (0,held K N bl k):=rfl
 simp only [hsy] at a2
 refine ⟨_,_,a1,a2,?_,h.left,?_,⟨h.lit,?_,?_,?_,h.left⟩⟩
 ·show V.calls + 1 <= 100; omega
 ·show V.calls + 1 + 1 = _; omega
 ·show ((V.l.set k _).set k _).length = n
  rw [List.length_set,List.length_set]; exact h.len
 ·intro m y hy
  have hy' : ((V.l.set k _).set k { x with st:=held K N bl k })[m]? = some y:=hy
  rw [List.set_set] at hy'
  unfold fillP
  by_cases e : k = m
  ·subst e
   rw [List.getElem?_set_self hlt] at hy'
   cases hy'
   rw [if_pos (by omega)]
  ·rw [List.getElem?_set_ne e] at hy'
   have:=h.st m y hy'
   unfold fillP at this
   rw [this]
   by_cases hmk : m < k
   ·rw [if_pos hmk,if_pos (by omega)]
   ·rw [if_neg hmk,if_neg (by omega)]
 ·show V.calls + 1 + 1 <= 100; omega
section
variable {ev : Operand -> Value} {o : Oper} {w : World} {x y z : Operand}
theorem ens42 (args : Array Value) : (callFunc 42 args).run Tryz.prog w = .ok (.enter 42 args) w:=by kernel_rfl
theorem rn_alloc101 (ho : o.op = .alloc 101) : (execOp ev o).run Tryz.prog w = .ok (.value (.pointer (some ⟨w.heap.size,0,none⟩))) (w.alloc (.cells #[.string ⟨#[]⟩,.string ⟨#[]⟩] 101)):=by
 simp [execOp,ho,go_sem]
theorem rn_store101 {g : Nat} {u v : Value} {a c : ByteArray} (ho : o.op = .store 101 x y) (hx : ev x = .pointer (some ⟨g,0,none⟩)) (hy : ev y = .agg #[.string a,.string c]) (hg : Has w g #[u,v] 101) : (execOp ev o).run Tryz.prog w = .ok .skip ((w.setCell ⟨g,0,none⟩ (.string a)).setCell ⟨g,1,none⟩ (.string c)):=by
 obtain ⟨c0,c1,f0,f1⟩:=two_cells hg
 have f2 : ∀ u,(w.setCell ⟨g,0,none⟩ u).frozen? ⟨g,1,none⟩ = false:=fun u=>(hg.set 0 u).frozen _
 have c2 : ∀ z,(w.setCell ⟨g,0,none⟩ z).cell? ⟨g,1,none⟩ = some v:=fun z=>(hg.set 0 z).cell 1
 simp [execOp,ho,hx,hy,go_sem,c0,c2,f0,f2]
end
/-- what the slots hold, when those of l have been run; the object's block is made and stored into in whatever order -/
def fiF (T g0 : Nat) (K N : Int) (d : ByteArray) (n k : Nat) (pay on od : ByteArray) (l : Array Bool) (i : Nat) (v : Value) (W : World) : Prop:=match i with
 | 38=>v = .agg #[.int .i64 K,.int .i64 N] | 39=>v = .string d | 40=>v = .int .i64 (k : Int) | 41=>v = .slice (some ⟨T,0,none⟩) n n | 42=>v = .int .i64 (k : Int)
 | 43=>v = .pointer (some ⟨T,0 + k,none⟩) | 44=>v = .string pay | 45=>v = .agg (H.shc K N d (k : Int) pay) | 46=>v = .tuple #[.agg #[.string on,.string od],.int .i64 0] | 37=>v = .tuple #[.agg #[.string on,.string od],.int .i64 0] | 47=>v = .agg #[.string on,.string od] | 48=>v = .int .i64 0
 | 12=>∃ g,v = .pointer (some ⟨g,0,none⟩) /\ g0 <= g /\ Has W g (if l.getD 13 false = true then #[.string on,.string od] else #[.string ⟨#[]⟩,.string ⟨#[]⟩]) 101
 | _=>True
theorem fiF_go {T g0 : Nat} {d : ByteArray} {pay on od : ByteArray} {l l' : Array Bool} {i : Nat} {v : Value} {W W' : World} (h : fiF T g0 K N d n k pay on od l i v W) (hl : l'.getD 13 false = l.getD 13 false) (hb : Below W.heap.size W W') : fiF T g0 K N d n k pay on od l' i v W':=by
 unfold fiF at h ⊢
 split at h <;> first | exact h | skip
 obtain ⟨g,e1,e2,e3⟩:=h
 rw [hl]
 exact ⟨g,e1,e2,e3.below hb e3.lt⟩
theorem set_other (l : Array Bool) {i j : Nat} (h : i ≠ j) : (l.setIfInBounds i true).getD j false = l.getD j false:=by simp [Array.getD_eq_getD_getElem?,Array.getElem?_setIfInBounds_ne h]
set_option maxHeartbeats 16000000 in
set_option maxRecDepth 20000 in
theorem fill_any (h : WT w0 w b V T) (hl : H.Lay w0) {kk : Nat} (hv : WI n (fun _ s=>s = st0) V) (hc : V.calls = 0) (hm : C.Mx.mayC (kk : Int) (n : Int) = true) (hb : bl.length <= 32768) (hlt : ∀ x ∈ bl,x < 256) (Q : Ending -> World -> Prop)
  (hq : ∀ V' w',WT w0 w' b V' T -> Kpt T w w' -> WI n (fillP (kk : Int) (n : Int) bl n) V' -> V'.calls = 2 * n -> Q (.returned (.tuple #[.string (dig bl),.bool true])) w') : Calls Tryz.prog 23 #[.pointer (some ⟨b,0,none⟩),.agg #[.int .i64 (kk : Int),.int .i64 (n : Int)],.string (C.ofBs bl)] w Q:=by
 have hKN : 1 <= (kk : Int) /\ (kk : Int) <= (n : Int) /\ (n : Int) <= 12:=by simpa [C.Mx.mayC] using hm
 have HKN:=hid hKN
 have HQ:=hid hq
 have HL:=hid hl
 have HV:=hid hv
 have HC:=hid hc
 have HM:=hid hm
 have HBL:=hid hb
 have HLT:=hid hlt
 obtain ⟨q,hqq⟩ : ∃ q,q = w.heap.size:=⟨_,rfl⟩
 obtain ⟨wa,hwa⟩ : ∃ wa,wa = w.alloc (.cells #[.int .i64 (kk : Int),.int .i64 (n : Int)] 23):=⟨_,rfl⟩
 have HB:=hid (boxed w (.cells #[.int .i64 (kk : Int),.int .i64 (n : Int)] 23))
 have HX:=hid (Has.new w w.heap.size #[.int .i64 (kk : Int),.int .i64 (n : Int)] 23 rfl)
 rw [<- hwa] at HB HX
 rw [<- hqq] at HX
 have HQQ:=hid hqq
 have HWA:=hid (h.below HB.out)
 have HKA:=hid (Kpt.below h HB.out)
 have HSM:=sumN wa (HWA.out.lay hl) (s:=bl) (by omega) hlt
 obtain ⟨dg,hdg⟩ : ∃ dg,dg = dig bl:=⟨_,rfl⟩
 have HDG:=hid hdg
 have HEN:=fun w1=>C.encode_ok kk n bl w1 (by omega) (by omega) (by omega) hb hlt
 unfold C.cv at HEN
 obtain ⟨bs0,hbs0⟩ : ∃ bs0,bs0 = C.ofBs bl:=⟨_,rfl⟩
 rw [<- hbs0] at HSM HEN ⊢
 rw [<- hdg] at HSM
 have HH:=hid h
 have HB0:=hid HB.out
 clear h hl hv hc hm hb hlt hq hKN hdg hbs0
 go_enter Tryz.func23,Tryz.ntmps23
 go_wp2_with fail
 rw [<- hwa,<- hqq]
 clear hwa hqq
 refine HSM.mono ?_
 clear HSM
 rintro _ w1 ⟨rfl,hb1⟩
 have HW1:=hid (HWA.out.below hb1)
 have HK1:=hid (HKA.out.trans (Kpt.below HWA.out hb1))
 have HX1:=hid (HX.out.below hb1 HX.out.lt)
 have HB1:=hid (HB0.out.trans (hb1.mono HB0.out.size))
 clear hb1 HX HB HWA HKA
 obtain ⟨c0,c1,_,_⟩:=two_cells HX1.out
 go_wp2_with fail
 refine (HEN w1).mono ?_
 clear HEN c0 c1
 rintro _ w2 ⟨t,rfl,ht,hts,hb2⟩
 have HN:=(HW1.out.below hb2).n
 rw [HV.out.len] at HN
 unfold ptr at HN
 have HB2:=hid (HB1.out.trans (hb2.mono HB1.out.size))
 have HX2:=hid (HX1.out.below hb2 HX1.out.lt)
 have HT2:=hid ht
 obtain ⟨T2,hT2⟩ : ∃ T2 : Nat -> Prop,T2 = fun i=>T i \/ i = q \/ i = t:=⟨_,rfl⟩
 have HW2 : Hid (WT w0 w2 b V T2):=hid ((HH.out.new HB2.out).sub fun i hi=>by
  rw [hT2] at hi
  rcases hi with hi | hi | hi
  ·exact .inl hi
  ·exact .inr (by rw [hi]; exact ⟨by rw [HQQ.out]; exact Nat.le_refl _,HX2.out.lt⟩)
  ·exact .inr (by rw [hi]; exact ⟨by have:=HB1.out.size; omega,ht.lt⟩))
 have HK2:=hid (Kpt.below HH.out HB2.out)
 have HTS : Hid (∀ i,T i -> T2 i):=hid (fun i hi=>by rw [hT2]; exact .inl hi)
 have HTQ : Hid (T2 q /\ T2 t):=hid (by rw [hT2]; exact ⟨.inr (.inl rfl),.inr (.inr rfl)⟩)
 clear ht hts hb2 hT2 HW1 HK1 HX1 HB1 HB0
 have HN12 : Hid (n <= 12):=hid (by have:=HKN.out; omega)
 go_wp2_with fail
 refine HN.mono ?_
 clear HN
 rintro _ w2 ⟨rfl,rfl⟩
 go_wp2_with fail
 go_loopg [11,12,13] n (fun gk s11 s12 s13 wy=>∃ (k : Nat) (V1 : Wd),k + gk = n /\ s11 = .int .i64 (k : Int) /\ Hid (WT w0 wy b V1 T2 /\ Kpt T2 w2 wy /\ WI n (fillP (kk : Int) (n : Int) bl k) V1 /\ V1.calls = 2 * k))
 case atStart=>exact ⟨0,V,by omega,rfl,hid ⟨HW2.out,Kpt.refl _ _,⟨HV.out.lit,HV.out.len,fun m x hx=>by have:=HV.out.st m x hx; unfold fillP; rw [if_neg (by omega)]; exact this,HV.out.calls,HV.out.left⟩,HC.out⟩⟩
 case round =>
  clear HW2
  obtain ⟨k,V1,hk,rfl,HJ⟩:=hrel
  obtain ⟨j1,j2,j3,j4⟩:=HJ.out
  cases gk with
  | zero =>
   have q1 : ¬ ((k : Int) < (n : Int)):=by omega
   have HE : Hid (Q (.returned (.tuple #[.string dg,.bool true])) wr):=hid (by
    rw [HDG.out]
    rw [show k = n by omega] at j3 j4
    exact HQ.out V1 wr (j1.sub HTS.out) (HK2.out.trans (j2.sub HTS.out)) j3 j4)
   clear j1 j2 j3 j4 HJ
   go_wp2_with fail
   exact HE.out
  | succ g1 =>
   have q1 : (k : Int) < (n : Int):=by omega
   have hkn : k < n:=by omega
   have wk : IntKind.i64.wrap ((k : Int) + 1) = ((k + 1 : Nat) : Int):=wrapN (b:=1) (by have:=HN12.out; omega)
   have HJX:=hid (j2.has HTQ.out.1 HX2.out)
   have HJT:=hid (j2.has HTQ.out.2 HT2.out)
   obtain ⟨c0,c1,_,_⟩:=two_cells HJX.out
   obtain ⟨mE,mN,mD⟩:=mk_blob (K:=(kk : Int)) (N:=(n : Int)) (bl:=bl) (m:=k) HM.out HBL.out (by omega)
   obtain ⟨pay,hpay⟩ : ∃ pay,pay = C.ofBs (C.payL kk bl k):=⟨_,rfl⟩
   have cs : wr.cell? ⟨t,0 + k,none⟩ = some (.string pay):=by
    rw [Nat.zero_add,HJT.out.cell,C.strTo_get _ _ _ _ hkn,if_pos hkn,hpay]
   rw [Int.toNat_natCast,<- hpay] at mE mN mD
   have HMK : Hid (∀ W',BelW wr W' -> Calls Tryz.prog 42 #[.agg (H.shc (kk : Int) (n : Int) dg (k : Int) pay)] W' fun e w'=>e = .returned (.tuple #[.agg #[.string (nmS (dig bl) k),.string (shD (kk : Int) (n : Int) bl k)],.int .i64 0]) /\ Below W'.heap.size W' w'):=hid fun W' hW=>by
    have:=H.make_any (kk : Int) (n : Int) dg (k : Int) pay W' ((j1.below hW).lay HL.out)
    rw [HDG.out] at this ⊢
    unfold H.mkV H.obv at this
    rw [mE,mN,mD] at this
    exact this
   obtain ⟨VA,VB,p1,p2,p3,p4,p5,p6⟩:=fill_step j3 HM.out rfl HBL.out hkn j4
   have HJ1:=hid j1
   have HJ2:=hid j2
   have HJ3:=hid j3
   have HP1:=hid p1
   have HP2:=hid p2
   have HPC:=hid (And.intro p3 p4)
   have HP6:=hid (And.intro p5 p6)
   have HJF : Hid (∀ x ∈ V1.l,Fit 100 x.st):=hid (j3.all fun m s hmn hs=>fillP_fit HM.out HBL.out (by omega) hs)
   have HJC:=hid j4
   generalize nmS (dig bl) k = on at *
   generalize shD (kk : Int) (n : Int) bl k = od at *
   clear j1 j2 j3 j4 HJ p1 p2 p3 p4 p5 p6 mE mN mD hpay
   have HLQ : Hid (q < wr.heap.size):=hid HJX.out.lt
   have HLT2 : Hid (t < wr.heap.size):=hid HJT.out.lt
   go_wp2_with fail
   refine Tl.wp_mixF_lit (by kernel_rfl) 14 [38,39,40,41,42,43,44,45,46,37,47,48,12] 65 rfl (by kernel_rfl) (fun _=>BelW wr) (fiF t wr.heap.size (kk : Int) (n : Int) dg n k pay on od) ((Below.refl _ _).drew)
    ⟨fun l a' W' hs hi hcl he hC hF=>?_,fun l a' W' hs hi hcl he hC hF=>?_,fun l a' W' hs hi hcl he hC hF=>?_,fun l a' W' hs hi hcl he hC hF=>?_,fun l a' W' hs hi hcl he hC hF=>?_,fun l a' W' hs hi hcl he hC hF=>?_,fun l a' W' hs hi hcl he hC hF=>?_,fun l a' W' hs hi hcl he hC hF=>?_,fun l a' W' hs hi hcl he hC hF=>?_,fun l a' W' hs hi hcl he hC hF=>?_,fun l a' W' hs hi hcl he hC hF=>?_,fun l a' W' hs hi hcl he hC hF=>?_,fun l a' W' hs hi hcl he hC hF=>?_,fun l a' W' hs hi hcl he hC hF=>?_,trivial⟩ ?_
   ·exact Tl.sf_v 38 _ rfl (Tl.wanted_none rfl) hC rfl (rn_load25 rfl ((hF 4 (by decide +kernel)).2 (by decide)) (BelW.cell hC (p:=⟨q,0,none⟩) HLQ.out c0) (BelW.cell hC (p:=⟨q,1,none⟩) HLQ.out c1)) (fun d v h=>fiF_go h (set_other l (by decide)) (Below.refl _ _))
   ·exact Tl.sf_v 39 _ rfl (Tl.wanted_none rfl) hC rfl (rn_move rfl ((hF 8 (by decide +kernel)).2 (by decide))) (fun d v h=>fiF_go h (set_other l (by decide)) (Below.refl _ _))
   ·exact Tl.sf_v 40 _ rfl (Tl.wanted_none rfl) hC rfl (rn_move rfl ((hF 11 (by decide +kernel)).2 (by decide))) (fun d v h=>fiF_go h (set_other l (by decide)) (Below.refl _ _))
   ·exact Tl.sf_v 41 _ rfl (Tl.wanted_none rfl) hC rfl (rn_move rfl ((hF 9 (by decide +kernel)).2 (by decide))) (fun d v h=>fiF_go h (set_other l (by decide)) (Below.refl _ _))
   ·exact Tl.sf_v 42 _ rfl (Tl.wanted_none rfl) hC rfl (rn_move rfl ((hF 11 (by decide +kernel)).2 (by decide))) (fun d v h=>fiF_go h (set_other l (by decide)) (Below.refl _ _))
   ·exact Tl.sf_v 43 _ rfl (Tl.wanted_none rfl) hC rfl (C.rn_at28 rfl ((hF 41 (by decide +kernel)).1 (by decide)) ((hF 42 (by decide +kernel)).1 (by decide)) hkn) (fun d v h=>fiF_go h (set_other l (by decide)) (Below.refl _ _))
   ·exact Tl.sf_v 44 _ rfl (Tl.wanted_none rfl) hC rfl (rn_load9 rfl ((hF 43 (by decide +kernel)).1 (by decide)) (BelW.cell hC (p:=⟨t,0 + k,none⟩) HLT2.out cs)) (fun d v h=>fiF_go h (set_other l (by decide)) (Below.refl _ _))
   ·exact Tl.sf_v 45 _ rfl (Tl.wanted_none rfl) hC rfl (H.rn_build25 rfl ((hF 38 (by decide +kernel)).1 (by decide)) ((hF 39 (by decide +kernel)).1 (by decide)) ((hF 40 (by decide +kernel)).1 (by decide)) ((hF 44 (by decide +kernel)).1 (by decide))) (fun d v h=>fiF_go h (set_other l (by decide)) (Below.refl _ _))
   ·refine Tl.sf_call 42 #[_] (Tl.wanted_none rfl) (rn_call1 rfl rfl ((hF 45 (by decide +kernel)).1 (by decide)) (ens42 _)) ((HMK.out W' hC).mono ?_)
    rintro e w'' ⟨rfl,hb⟩
    exact ⟨_,rfl,Below.trans hC (hb.mono (Below.size hC)),fun d _ h=>fiF_go h (set_other l (by decide)) hb,fun d hd=>by cases hd; rfl⟩
   ·exact Tl.sf_v 37 _ rfl (Tl.wanted_none rfl) hC rfl (rn_move rfl ((hF 46 (by decide +kernel)).1 (by decide))) (fun d v h=>fiF_go h (set_other l (by decide)) (Below.refl _ _))
   ·exact Tl.sf_v 47 _ rfl (Tl.wanted_none rfl) hC rfl (rn_ext0 rfl ((hF 37 (by decide +kernel)).1 (by decide))) (fun d v h=>fiF_go h (set_other l (by decide)) (Below.refl _ _))
   ·exact Tl.sf_v 48 _ rfl (Tl.wanted_none rfl) hC rfl (rn_ext1 rfl ((hF 37 (by decide +kernel)).1 (by decide))) (fun d v h=>fiF_go h (set_other l (by decide)) (Below.refl _ _))
   ·have hn13 : l.getD 13 false = false:=by
     cases hq13 : l.getD 13 false with
     | false=>rfl
     | true=>have:=hcl 13 12 hq13 (by decide +kernel); rw [hi] at this; cases this
    refine Tl.sf_w 12 _ rfl (Tl.wanted_none rfl) (rn_alloc101 rfl) ?_ ?_ (fun d h=>fiF_go h (set_other l (by decide)) (boxed W' _))
    ·exact Below.trans hC ((boxed W' _).mono (Below.size hC))
    ·refine ⟨_,rfl,Below.size hC,?_⟩
     rw [set_other l (by decide),hn13,if_neg (by decide)]
     exact Has.new _ _ _ _ rfl
   ·obtain ⟨g,e1,e2,e3⟩:=(hF 12 (by decide +kernel)).1 (by decide)
    obtain ⟨u0,u1,hu⟩ : ∃ u0 u1,Has W' g #[u0,u1] 101:=by
     split at e3
     ·exact ⟨_,_,e3⟩
     ·exact ⟨_,_,e3⟩
    have h13 : (l.setIfInBounds 13 true).getD 13 false = true:=by
     have : 13 < l.size:=by rw [hs]; decide +kernel
     simp [Array.getD_eq_getD_getElem?,this]
    refine Tl.sf_s rfl (Tl.wanted_none rfl) (rn_store101 rfl e1 ((hF 47 (by decide +kernel)).1 (by decide)) hu) ?_ ?_
    ·exact (Below.setCell (p:=⟨g,0,none⟩) hC e2 _).setCell (p:=⟨g,1,none⟩) e2 _
    ·intro d h
     unfold fiF at h ⊢
     split at h <;> first | exact h | skip
     refine ⟨g,e1,e2,?_⟩
     rw [h13,if_pos rfl]
     exact two_put hu _ _
   intro l v w3 hl hw hv
   have v48 : v 48 = .int .i64 0:=hv 48 (by decide)
   obtain ⟨g,v12,hgs,hgh⟩ : ∃ g,v 12 = .pointer (some ⟨g,0,none⟩) /\ wr.heap.size <= g /\ Has w3 g (if l.getD 13 false = true then #[.string on,.string od] else #[.string ⟨#[]⟩,.string ⟨#[]⟩]) 101:=hv 12 (by decide)
   rw [hl 13 (by decide),if_pos rfl] at hgh
   have HB3:=hid (show Below wr.heap.size wr w3 from hw)
   clear hv hw c0 c1 cs hl
   simp only [Tl.fill,List.drop_succ_cons,List.drop_zero,wpList]
   simp only [Act.put,List.setIfInBounds_toArray,List.set_cons_succ,List.set_cons_zero,v48,v12]
   have hgl : g < w3.heap.size:=hgh.lt
   have HW3:=hid ((HJ1.out.new HB3.out).sub (T':=fun i=>T2 i \/ i = g) fun i hi=>by
    rcases hi with hi | hi
    ·exact .inl hi
    ·exact .inr (by rw [hi]; exact ⟨hgs,hgl⟩))
   have HK3:=hid (HJ2.out.trans (Kpt.below HJ1.out HB3.out))
   obtain ⟨c6,c7,_,_⟩:=two_cells hgh
   have HPT:=HW3.out.put (by have:=HJC.out; have:=HN12.out; omega) (by rw [HJ3.out.left]; decide) HJF.out (by decide) (k : Int) on od
   rw [HP1.out] at HPT
   unfold ptr obv W.er at HPT
   simp only at HPT
   clear hgs hgh hgl v12 v48
   rw [if_pos (Tl.wanted_none rfl)]
   refine .inl (wp_assign (v:=.int .i64 0) rfl rfl rfl ?_)
   simp only [Act.put,List.setIfInBounds_toArray,List.set_cons_succ,List.set_cons_zero]
   go_wp2_with fail
   refine HPT.mono ?_
   clear HPT c6 c7
   rintro _ w4 ⟨rfl,h4,k4⟩
   have HSY:=h4.sync (by have:=HPC.out.1; omega) (by rw [HPC.out.2]; decide) (k : Int)
   rw [HP2.out] at HSY
   unfold ptr W.er at HSY
   simp only at HSY
   have HK4:=hid (HK3.out.trans (k4.sub fun i hi=>.inl hi))
   clear h4 k4
   go_wp2_with fail
   refine HSY.mono ?_
   clear HSY
   rintro _ w5 ⟨rfl,h5,k5⟩
   have HA : Hid (WT w0 w5 b VB T2 /\ Kpt T2 w2 w5 /\ WI n (fillP (kk : Int) (n : Int) bl (k + 1)) VB /\ VB.calls = 2 * (k + 1)):=hid ⟨h5.sub fun i hi=>.inl hi,HK4.out.trans (k5.sub fun i hi=>.inl hi),HP6.out.2,HP6.out.1⟩
   clear h5 k5
   go_wp2_with fail
   go_roundg g1
   case measure=>omega
   case rel=>exact ⟨k + 1,VB,by omega,by first | rfl | simp,HA⟩
end Go.Proofs.YteapbbaollmniaaGreatDoor
