/- A region that draws its order and whose last operation waits for all others, by what each slot holds: whatever the order. No program in it. -/
import Derived.Orders
import Derived.Test.YteapbbaollmniaaGreatDoorCOw
namespace Go.Proofs.YteapbbaollmniaaGreatDoor.C
open Go.RowKit
/-- how many operations are still to come -/
def toCome (n : Nat) (listed : Array Bool) : Nat:=(List.range n).countP fun i=>!listed.getD i true
theorem countP_lt {α : Type} (l : List α) (p q : α -> Bool) (h : ∀ x ∈ l,q x = true -> p x = true) (x : α) (hx : x ∈ l) (hp : p x = true) (hq : q x = false) : l.countP q < l.countP p:=by
 induction l with
 | nil=>cases hx
 | cons y l ih =>
  have hle : l.countP q <= l.countP p:=List.countP_mono_left (fun z hz=>h z (List.mem_cons_of_mem _ hz))
  rcases List.mem_cons.1 hx with rfl | hx'
  ·rw [List.countP_cons_of_pos hp,List.countP_cons_of_neg (by simp [hq])]
   omega
  ·have:=ih (fun z hz=>h z (List.mem_cons_of_mem _ hz)) hx'
   cases hqy : q y
   ·rw [List.countP_cons_of_neg (by simp [hqy])]
    cases hpy : p y
    ·rw [List.countP_cons_of_neg (by simp [hpy])]; exact this
    ·rw [List.countP_cons_of_pos hpy]; omega
   ·rw [List.countP_cons_of_pos hqy,List.countP_cons_of_pos (h y (List.mem_cons_self) hqy)]; omega
theorem ready_facts {ops : Array Oper} {listed : Array Bool} {i : Nat} (h : i ∈ Region.ready .any ops listed) : i < ops.size /\ listed.getD i true = false /\ ∀ o,ops[i]? = some o -> ∀ e ∈ o.after,Region.binds .any e = true -> listed.getD e.on false = true:=by
 simp only [Region.ready,List.mem_filter,List.mem_range,Bool.and_eq_true,Bool.not_eq_true'] at h
 refine ⟨h.1,h.2.1,fun o ho e he hb=>?_⟩
 have h2:=h.2.2
 rw [ho] at h2
 simp only [Option.map_some,Option.getD_some] at h2
 have h3:=(Array.all_eq_true'.1 h2) e he
 simpa [hb] using h3
theorem wpAny_inv {P : Program} {ops : Array Oper} {Q : Exit -> Act -> World -> Prop} (I : Array Bool -> Act -> World -> Prop) (hsz : ∀ l a w,I l a w -> l.size = ops.size)
  (hstep : ∀ l a w,I l a w -> ∀ i,i ∈ Region.ready .any ops l -> wpOp P ops Q i (fun a' w'=>I (l.setIfInBounds i true) a' w') a w)
  (hdone : ∀ l a w,I l a w -> Region.ready .any ops l = [] -> Q .normal a w) :
  ∀ (fuel : Nat) (l : Array Bool) (a : Act) (w : World),I l a w -> toCome ops.size l <= fuel -> wpAny P .any ops Q fuel l a w:=by
 intro fuel
 induction fuel with
 | zero =>
  intro l a w h hl
  have hr : Region.ready .any ops l = []:=by
   cases hr : Region.ready .any ops l with
   | nil=>rfl
   | cons i rs =>
    have hi : i ∈ Region.ready .any ops l:=by rw [hr]; exact List.mem_cons_self
    obtain ⟨h1,h2,_⟩:=ready_facts hi
    have : 0 < toCome ops.size l:=List.countP_pos_iff.2 ⟨i,List.mem_range.2 h1,by simp [h2]⟩
    omega
  exact ⟨hr,hdone l a w h hr⟩
 | succ fuel ih =>
  intro l a w h hl
  refine ⟨hdone l a w h,fun i hi=>?_⟩
  refine wpOp_mono (fun a' w' h'=>ih _ a' w' h' ?_) (hstep l a w h i hi)
  obtain ⟨h1,h2,_⟩:=ready_facts hi
  have hs:=hsz l a w h
  have : toCome ops.size (l.setIfInBounds i true) < toCome ops.size l:=by
   refine countP_lt _ _ _ (fun j _ hj=>?_) i (List.mem_range.2 h1) (by simp [h2]) ?_
   ·by_cases hji : i = j
    ·subst hji; simp [h2]
    ·simpa [Array.getD_eq_getD_getElem?,Array.getElem?_setIfInBounds_ne hji] using hj
   ·simp [Array.getD_eq_getD_getElem?,hs,h1]
  omega
/-- the slots that an operation looks at -/
def looksB (o : Oper) : List Nat:=o.op.operands.toList.filterMap fun | .tmp t=>some t | _=>none
def waits (ops : Array Oper) (j i : Nat) : Bool:=match ops[j]? with
 | some o=>o.after.any fun e=>Region.binds .any e && e.on == i
 | none=>false
def lastB (ops : Array Oper) (base : Nat) : Bool :=
 (List.range ops.size).all fun i=>match ops[i]? with
  | none=>false
  | some o=>(o.guard == none) && (o.after.all fun e=>decide (e.on < i)) &&
    (decide (i + 1 = ops.size) || ((o.dst == some (base + i)) && ((looksB o).all fun d=>decide (d < base) || o.after.any fun e=>Region.binds .any e && (base + e.on == d) && decide (e.on + 1 < ops.size)) &&
     ((List.range ops.size).any fun j=>decide (i < j) && waits ops j i)))
theorem getD_put {a : Act} {s d : Nat} {v : Value} (h : d ≠ s) : (a.put (some s) v).tmps.getD d undef = a.tmps.getD d undef:=by
 simp [Act.put,Array.getD_eq_getD_getElem?,Array.getElem?_setIfInBounds_ne (Ne.symm h)]
theorem getD_put_same {a : Act} {s : Nat} {v : Value} (h : s < a.tmps.size) : (a.put (some s) v).tmps.getD s undef = v:=by
 simp [Act.put,Array.getD_eq_getD_getElem?,h]
/-- the frame with so many slots filled -/
def puts (a : Act) (base : Nat) (val : Nat -> Value) : Nat -> Act
 | 0=>a
 | k + 1=>(puts a base val k).put (some (base + k)) (val k)
theorem puts_size (a : Act) (base : Nat) (val : Nat -> Value) : ∀ k,(puts a base val k).tmps.size = a.tmps.size
 | 0=>rfl
 | k + 1=>by rw [<- puts_size a base val k]; simp [puts,Act.put]
theorem puts_defers (a : Act) (base : Nat) (val : Nat -> Value) : ∀ k,(puts a base val k).defers = a.defers
 | 0=>rfl
 | k + 1=>by rw [<- puts_defers a base val k]; simp [puts,Act.put]
theorem puts_get (a : Act) (base : Nat) (val : Nat -> Value) (d : Nat) : ∀ k,base + k <= a.tmps.size -> (puts a base val k).tmps.getD d undef = if base <= d /\ d < base + k then val (d - base) else a.tmps.getD d undef
 | 0,_=>by rw [if_neg (by omega)]; rfl
 | k + 1,h=>by
  have ih:=puts_get a base val d k (by omega)
  rw [puts]
  by_cases he : d = base + k
  ·subst he
   rw [getD_put_same (by rw [puts_size]; omega),if_pos (by omega)]; congr 1; omega
  ·rw [getD_put he,ih]
   by_cases h2 : base <= d /\ d < base + k
   ·rw [if_pos h2,if_pos (by omega)]
   ·rw [if_neg h2,if_neg (by omega)]
theorem ev_puts {a : Act} {base : Nat} {val : Nat -> Value} {m : Nat} (k j : Nat) (hm : m = k) (h : base + k <= a.tmps.size) (hj : j < k) : (puts a base val m).eval (.tmp (base + j)) = val j:=by
 subst hm
 show (puts a base val m).tmps.getD (base + j) undef = _
 rw [puts_get a base val _ m h,if_pos (by omega)]; congr 1; omega
theorem act_ext {a b : Act} (hs : a.tmps.size = b.tmps.size) (hd : a.defers = b.defers) (h : ∀ d,a.tmps.getD d undef = b.tmps.getD d undef) : a = b:=by
 have e : a.tmps = b.tmps:=by
  apply Array.ext hs
  intro i h1 h2
  have:=h i
  simpa [Array.getD_eq_getD_getElem?,h1,h2] using this
 cases a; cases b
 simp only at e hd
 subst e hd
 rfl
theorem wp_region_last {P : Program} {ops : Array Oper} {Q : Exit -> Act -> World -> Prop} {id : Nat} {a : Act} {w : World} (hm : P.follows .mixedOrders = true) (base : Nat) (hB : lastB ops base = true) (hpos : 0 < ops.size) (hN : base + ops.size <= a.tmps.size + 1) (C : World -> Prop) (val : Nat -> Value) (hC : C w.drew)
  (hstep : ∀ i o,ops[i]? = some o -> i + 1 < ops.size -> ∀ a' w',C w' -> (∀ d ∈ looksB o,a'.tmps.getD d undef = if d < base then a.tmps.getD d undef else val (d - base)) -> o.wp P a' w' (fun a'' w''=>a'' = a'.put (some (base + i)) (val i) /\ C w'') Q)
  (hlast : ∀ o w',ops[ops.size - 1]? = some o -> C w' -> o.wp P (puts a base val (ops.size - 1)) w' (fun a'' w''=>Q .normal a'' w'') Q) : (Code.region id ops true).wp P Q a w:=by
 have hB' : ∀ i o,ops[i]? = some o -> o.guard = none /\ (∀ e ∈ o.after,e.on < i) /\ (i + 1 = ops.size \/ (o.dst = some (base + i) /\ (∀ d ∈ looksB o,d < base \/ ∃ e ∈ o.after,Region.binds .any e = true /\ base + e.on = d /\ e.on + 1 < ops.size) /\ ∃ j,i < j /\ j < ops.size /\ ∃ oj,ops[j]? = some oj /\ ∃ e ∈ oj.after,Region.binds .any e = true /\ e.on = i)):=fun i o ho=>by
  have hi : i < ops.size:=(Array.getElem?_eq_some_iff.1 ho).1
  have:=(List.all_eq_true.1 hB) i (List.mem_range.2 hi)
  rw [ho] at this
  simp only [Bool.and_eq_true,beq_iff_eq,List.all_eq_true,Bool.or_eq_true,decide_eq_true_eq] at this
  obtain ⟨⟨h1,h2⟩,h3⟩:=this
  refine ⟨h1,fun e he=>by simpa using (Array.all_eq_true'.1 h2) e he,?_⟩
  rcases h3 with h3 | ⟨⟨h4,h5⟩,h6⟩
  ·exact .inl h3
  ·refine .inr ⟨h4,fun d hd=>?_,?_⟩
   ·rcases h5 d hd with h | h
    ·exact .inl h
    ·obtain ⟨e,he,hh⟩:=Array.any_eq_true'.1 h
     simp only [Bool.and_eq_true,beq_iff_eq,decide_eq_true_eq] at hh
     exact .inr ⟨e,he,hh.1.1,hh.1.2,hh.2⟩
   ·obtain ⟨j,hj,hj2⟩:=List.any_eq_true.1 h6
    simp only [Bool.and_eq_true,decide_eq_true_eq] at hj2
    refine ⟨j,hj2.1,List.mem_range.1 hj,?_⟩
    have hw:=hj2.2
    unfold waits at hw
    cases hoj : ops[j]? with
    | none=>rw [hoj] at hw; cases hw
    | some oj =>
     rw [hoj] at hw
     obtain ⟨e,he,hh⟩:=Array.any_eq_true'.1 hw
     simp only [Bool.and_eq_true,beq_iff_eq] at hh
     exact ⟨oj,rfl,e,he,hh.1,hh.2⟩
 let closed : Array Bool -> Prop:=fun l=>∀ j oj,ops[j]? = some oj -> l.getD j false = true -> ∀ e ∈ oj.after,Region.binds .any e = true -> l.getD e.on false = true
 -- the last one waits for all others
 have hall : ∀ l : Array Bool,closed l -> (∀ ol,ops[ops.size - 1]? = some ol -> ∀ e ∈ ol.after,Region.binds .any e = true -> l.getD e.on false = true) -> ∀ k i,ops.size - i = k -> i + 1 < ops.size -> l.getD i false = true:=fun l hcl hl k=>by
  induction k using Nat.strongRecOn with
  | _ k ih =>
   intro i hk hi
   obtain ⟨o,ho⟩ : ∃ o,ops[i]? = some o:=⟨_,Array.getElem?_eq_getElem (by omega)⟩
   obtain ⟨_,_,h3⟩:=hB' i o ho
   rcases h3 with h3 | ⟨_,_,j,hj1,hj2,oj,hoj,e,he,hb,hon⟩
   ·omega
   ·by_cases hjl : j = ops.size - 1
    ·subst hjl; rw [<- hon]; exact hl oj hoj e he hb
    ·rw [<- hon]; exact hcl j oj hoj (ih (ops.size - j) (by omega) j rfl (by omega)) e he hb
 let I : Array Bool -> Act -> World -> Prop:=fun l a' w'=>l.size = ops.size /\ ((l.getD (ops.size - 1) false = false /\ closed l /\ C w' /\ a'.tmps.size = a.tmps.size /\ a'.defers = a.defers /\ (∀ d,d < base \/ base + (ops.size - 1) <= d -> a'.tmps.getD d undef = a.tmps.getD d undef) /\
  (∀ i,i + 1 < ops.size -> if l.getD i false = true then a'.tmps.getD (base + i) undef = val i else a'.tmps.getD (base + i) undef = a.tmps.getD (base + i) undef)) \/ ((∀ i,i < ops.size -> l.getD i false = true) /\ Q .normal a' w'))
 have hset : ∀ (l : Array Bool) (i j : Nat),i ≠ j -> (l.setIfInBounds i true).getD j false = l.getD j false:=fun l i j h=>by
  simp [Array.getD_eq_getD_getElem?,Array.getElem?_setIfInBounds_ne h]
 have hset1 : ∀ (l : Array Bool) (i : Nat),i < l.size -> (l.setIfInBounds i true).getD i false = true:=fun l i h=>by
  simp [Array.getD_eq_getD_getElem?,h]
 have hft : ∀ (l : Array Bool) (i : Nat),l.getD i true = false -> l.getD i false = false:=fun l i h=>by
  by_cases hi : i < l.size
  ·simpa [Array.getD_eq_getD_getElem?,hi] using h
  ·simp [Array.getD_eq_getD_getElem?,hi] at h
 refine wp_region_any hm (wpAny_inv I (fun l a' w' h=>h.1) ?_ ?_ ops.size _ a w.drew ?_ ?_)
 ·intro l a' w' hI i hi
  obtain ⟨i1,i2⟩:=hI
  obtain ⟨r1,r2,r3⟩:=ready_facts hi
  rcases i2 with ⟨n1,n2,n3,n4,n5,n6,n7⟩ | ⟨i2,_⟩
  ·obtain ⟨o,ho⟩ : ∃ o,ops[i]? = some o:=⟨_,Array.getElem?_eq_getElem r1⟩
   obtain ⟨hg,hon,hk⟩:=hB' i o ho
   have hwant : Region.wanted o (yielded ops a'.tmps) = true:=by simp [Region.wanted,hg]
   unfold wpOp
   rw [ho]
   simp only []
   rw [if_pos hwant]
   left
   by_cases hil : i + 1 = ops.size
   ·have hil' : i = ops.size - 1:=by omega
    subst hil'
    have hfull:=hall l n2 (fun ol hol=>r3 ol hol)
    have ea : a' = puts a base val (ops.size - 1):=by
     refine act_ext (by rw [n4,puts_size]) (by rw [n5,puts_defers]) fun d=>?_
     rw [puts_get a base val d _ (by omega)]
     by_cases hd : base <= d /\ d < base + (ops.size - 1)
     ·rw [if_pos hd]
      have:=n7 (d - base) (by omega)
      rw [if_pos (hfull _ (d - base) rfl (by omega)),show base + (d - base) = d by omega] at this
      exact this
     ·rw [if_neg hd]; exact n6 d (by omega)
    rw [ea]
    refine Oper.wp_mono (fun a'' w'' hh=>⟨by simpa using i1,.inr ⟨fun j hj=>?_,hh⟩⟩) (hlast o w' ho n3)
    by_cases hjl : j = ops.size - 1
    ·subst hjl; exact hset1 _ _ (by omega)
    ·rw [hset _ _ _ (by omega)]; exact hfull _ j rfl (by omega)
   ·rcases hk with hk | ⟨hd,hl,_⟩
    ·omega
    ·refine Oper.wp_mono (fun a'' w'' hh=>?_) (hstep i o ho (by omega) a' w' n3 (fun d hdm=>?_))
     ·obtain ⟨rfl,hC'⟩:=hh
      refine ⟨by simpa using i1,.inl ⟨by rw [hset _ _ _ (by omega)]; exact n1,fun j oj hoj hlj e he hb=>?_,hC',by simpa [Act.put] using n4,n5,fun d hd=>by rw [getD_put (by omega)]; exact n6 d hd,fun j hj=>?_⟩⟩
      ·by_cases hij : i = j
       ·subst hij
        rw [ho] at hoj; cases hoj
        have:=r3 o ho e he hb
        have hlt:=hon e he
        rw [hset _ _ _ (by omega)]; exact this
       ·rw [hset _ _ _ hij] at hlj
        have:=n2 j oj hoj hlj e he hb
        by_cases hie : i = e.on
        ·rw [<- hie]; exact hset1 _ _ (by omega)
        ·rw [hset _ _ _ hie]; exact this
      ·by_cases hij : i = j
       ·subst hij
        rw [if_pos (hset1 _ _ (by omega)),getD_put_same (by rw [n4]; omega)]
       ·rw [hset _ _ _ hij,getD_put (by omega)]; exact n7 j hj
     ·rcases hl d hdm with h | ⟨e,he,hb,hbe,hes⟩
      ·rw [if_pos h]; exact n6 d (.inl h)
      ·rw [if_neg (by omega)]
       have:=n7 e.on hes
       rw [if_pos (r3 o ho e he hb),hbe] at this
       rw [this]; congr 1; omega
  ·have:=i2 i r1
   rw [hft _ _ r2] at this; cases this
 ·intro l a' w' hI hr
  obtain ⟨i1,i2⟩:=hI
  rcases i2 with ⟨n1,n2,n3,n4,n5,n6,n7⟩ | ⟨_,hq⟩
  ·exfalso
   have all : ∀ i,i < ops.size -> l.getD i false = true:=fun i=>by
    induction i using Nat.strongRecOn with
    | _ i ih =>
     intro hi
     cases hq : l.getD i false with
     | true=>rfl
     | false =>
      exfalso
      obtain ⟨o,ho⟩ : ∃ o,ops[i]? = some o:=⟨_,Array.getElem?_eq_getElem hi⟩
      have hq' : l.getD i true = false:=by
       rw [Array.getD_eq_getD_getElem?,Array.getElem?_eq_getElem (by omega)] at hq ⊢; exact hq
      have hm : i ∈ Region.ready .any ops l:=by
       simp only [Region.ready,List.mem_filter,List.mem_range,Bool.and_eq_true,Bool.not_eq_true']
       refine ⟨hi,hq',?_⟩
       rw [ho]
       simp only [Option.map_some,Option.getD_some]
       refine Array.all_eq_true'.2 fun e he=>?_
       have:=(hB' i o ho).2.1 e he
       simp [ih e.on this (by omega)]
      rw [hr] at hm; cases hm
   rw [all (ops.size - 1) (by omega)] at n1; cases n1
  ·exact hq
 ·have hz : ∀ i,(Array.replicate ops.size false).getD i false = false:=fun i=>by
   by_cases hi : i < ops.size
   ·simp [Array.getD_eq_getD_getElem?,hi]
   ·simp [Array.getD_eq_getD_getElem?,hi]
  have hcl : closed (Array.replicate ops.size false):=fun j oj _ hl=>by rw [hz] at hl; cases hl
  exact ⟨by simp,.inl ⟨hz _,hcl,hC,rfl,rfl,fun _ _=>rfl,fun i _=>by rw [if_neg (by rw [hz]; decide)]⟩⟩
 ·exact Nat.le_trans List.countP_le_length (by simp)
/-- each of them by its place, and the last one -/
def AllTo (p : Nat -> Oper -> Prop) (q : Oper -> Prop) : Nat -> List Oper -> Prop
 | _,[]=>True
 | _,[o]=>q o
 | i,o :: o' :: l=>p i o /\ AllTo p q (i + 1) (o' :: l)
theorem AllTo.get {p : Nat -> Oper -> Prop} {q : Oper -> Prop} : ∀ {l : List Oper} {n : Nat},AllTo p q n l -> ∀ i o,l[i]? = some o -> (i + 1 < l.length -> p (n + i) o) /\ (i + 1 = l.length -> q o)
 | [],_,_,i,o,h=>by simp at h
 | [x],n,h,0,o,ho=>by simp at ho; subst ho; exact ⟨fun hh=>absurd hh (by simp),fun _=>h⟩
 | [x],n,h,i + 1,o,ho=>by simp at ho
 | x :: y :: l,n,h,0,o,ho=>by simp at ho; subst ho; exact ⟨fun _=>h.1,fun hh=>absurd hh (by simp)⟩
 | x :: y :: l,n,h,i + 1,o,ho=>by
  have:=AllTo.get h.2 i o (by simpa using ho)
  rw [show n + 1 + i = n + (i + 1) by omega] at this
  exact ⟨fun hh=>this.1 (by simpa using hh),fun hh=>this.2 (by simpa using hh)⟩
/-- what one operation must do -/
def StepP (P : Program) (Q : Exit -> Act -> World -> Prop) (base : Nat) (a : Act) (C : World -> Prop) (val : Nat -> Value) (i : Nat) (o : Oper) : Prop :=
 ∀ a' w',C w' -> (∀ d ∈ looksB o,a'.tmps.getD d undef = if d < base then a.tmps.getD d undef else val (d - base)) -> o.wp P a' w' (fun a'' w''=>a'' = a'.put (some (base + i)) (val i) /\ C w'') Q
theorem wp_region_last_lit {P : Program} {Q : Exit -> Act -> World -> Prop} {id : Nat} {a : Act} {w : World} {l : List Oper} (hm : P.follows .mixedOrders = true) (base : Nat) (hB : lastB l.toArray base = true) (hpos : 0 < l.length) (hN : base + l.length <= a.tmps.size + 1) (C : World -> Prop) (val : Nat -> Value) (hC : C w.drew)
  (h : AllTo (StepP P Q base a C val) (fun o=>∀ w',C w' -> o.wp P (puts a base val (l.length - 1)) w' (fun a'' w''=>Q .normal a'' w'') Q) 0 l) : (Code.region id l.toArray true).wp P Q a w:=by
 refine wp_region_last hm base hB (by simpa using hpos) (by simpa using hN) C val hC (fun i o ho hi=>?_) (fun o w' ho hC'=>?_)
 ·have:=(h.get i o (by simpa using ho)).1 (by simpa using hi)
  rw [Nat.zero_add] at this
  exact this
 ·have e : l.toArray.size - 1 = l.length - 1:=by simp
  rw [e] at ho ⊢
  exact (h.get _ o (by simpa using ho)).2 (by omega) w' hC'
/-- an operation that yields a value -/
theorem st_val {P : Program} {Q : Exit -> Act -> World -> Prop} {C : World -> Prop} {o : Oper} {a : Act} {w : World} (d : Nat) (v : Value) (hd : o.dst = some d) (hr : (execOp a.eval o).run P w = .ok (.value v) w) (hC : C w) :
  o.wp P a w (fun a'' w''=>a'' = a.put (some d) v /\ C w'') Q:=by
 unfold Oper.wp
 rw [hr]
 show a.put o.dst v = _ /\ C w
 rw [hd]; exact ⟨rfl,hC⟩
/-- an operation that calls a function -/
theorem st_call {P : Program} {Q : Exit -> Act -> World -> Prop} {C : World -> Prop} {o : Oper} {a : Act} {w : World} (d : Nat) (v : Value) (f : FuncId) (args : Array Value) (hd : o.dst = some d) (hr : (execOp a.eval o).run P w = .ok (.enter f args) w)
  (h : Calls P f args w fun e w''=>e = .returned v /\ C w'') :
  o.wp P a w (fun a'' w''=>a'' = a.put (some d) v /\ C w'') Q:=by
 unfold Oper.wp
 rw [hr,Oper.upon_enter]
 refine h.mono ?_
 rintro e w'' ⟨rfl,h1⟩
 show a.put o.dst v = _ /\ C w''
 rw [hd]; exact ⟨rfl,h1⟩
/-- a store, as the last one -/
theorem st_store {P : Program} {Q : Exit -> Act -> World -> Prop} {o : Oper} {a : Act} {w w' : World} (hd : o.dst = none) (hr : (execOp a.eval o).run P w = .ok .skip w') (hQ : Q .normal a w') :
  o.wp P a w (fun a'' w''=>Q .normal a'' w'') Q:=by
 unfold Oper.wp
 rw [hr]
 show Q .normal (a.put o.dst undef) w'
 rw [hd]; exact hQ
end Go.Proofs.YteapbbaollmniaaGreatDoor.C
/- What single operations do, over any frame. -/
namespace Go.Proofs.YteapbbaollmniaaGreatDoor.C
open Go.RowKit
def vals (l : List Value) : Nat -> Value:=fun i=>l.getD i undef
theorem rn_move {ev : Operand -> Value} {o : Oper} {w : World} {x : Operand} {v : Value} (ho : o.op = .move x) (hx : ev x = v) : (execOp ev o).run Tryz.prog w = .ok (.value v) w:=by
 subst hx; simp [execOp,ho,go_sem]
theorem rn_load5 {ev : Operand -> Value} {o : Oper} {w : World} {x : Operand} {g k : Nat} {v : Value} (ho : o.op = .load 5 x) (hx : ev x = .pointer (some ⟨g,k,none⟩)) (hc : w.cell? ⟨g,k,none⟩ = some v) : (execOp ev o).run Tryz.prog w = .ok (.value v) w:=by
 simp [execOp,ho,hx,go_sem,hc]
theorem rn_load31 {ev : Operand -> Value} {o : Oper} {w : World} {x : Operand} {g k : Nat} {v : Value} (ho : o.op = .load 136 x) (hx : ev x = .pointer (some ⟨g,k,none⟩)) (hc : w.cell? ⟨g,k,none⟩ = some v) : (execOp ev o).run Tryz.prog w = .ok (.value v) w:=by
 simp [execOp,ho,hx,go_sem,hc]
theorem rn_load58 {ev : Operand -> Value} {o : Oper} {w : World} {x : Operand} {g k : Nat} {v : Value} (ho : o.op = .load 232 x) (hx : ev x = .pointer (some ⟨g,k,none⟩)) (hc : w.cell? ⟨g,k,none⟩ = some v) : (execOp ev o).run Tryz.prog w = .ok (.value v) w:=by
 simp [execOp,ho,hx,go_sem,hc]
theorem rn_at31 {ev : Operand -> Value} {o : Oper} {w : World} {x y : Operand} {g q n c k : Nat} (ho : o.op = .indexAddr 136 x y) (hx : ev x = .slice (some ⟨g,q,none⟩) n c) (hy : ev y = .int .i64 (k : Int)) (h : k < n) : (execOp ev o).run Tryz.prog w = .ok (.value (.pointer (some ⟨g,q + k,none⟩))) w:=by
 have h1 : (k : Int) < (n : Int):=by omega
 simp [execOp,ho,hx,hy,go_sem,h1]
theorem enter46 {w : World} (args : Array Value) : (callFunc 186 args).run Tryz.prog w = .ok (.enter 186 args) w:=by kernel_rfl
theorem enter45 {w : World} (args : Array Value) : (callFunc 185 args).run Tryz.prog w = .ok (.enter 185 args) w:=by kernel_rfl
theorem rn_call3 {ev : Operand -> Value} {o : Oper} {w : World} {f : FuncId} {x y z : Operand} {t t' t'' : TypeId} {u v r : Value} (ho : o.op = .call { callee:=.value (.func f),args:=#[x,y,z],argTypes:=#[t,t',t''] }) (hf : ev (.func f) = .func (.func f) #[] #[]) (hx : ev x = u) (hy : ev y = v) (hz : ev z = r) (hb : (callFunc f #[u,v,r]).run Tryz.prog w = .ok (.enter f #[u,v,r]) w) : (execOp ev o).run Tryz.prog w = .ok (.enter f #[u,v,r]) w:=by
 simp [execOp,ho,hx,hy,hz,hf,go_sem,hb]
theorem rn_store5 {ev : Operand -> Value} {o : Oper} {w : World} {x y : Operand} {g k : Nat} {n : Int} {old : Value} (ho : o.op = .store 5 x y) (hx : ev x = .pointer (some ⟨g,k,none⟩)) (hy : ev y = .int .u8 n) (hc : w.cell? ⟨g,k,none⟩ = some old) (hf : w.frozen? ⟨g,k,none⟩ = false) : (execOp ev o).run Tryz.prog w = .ok .skip (w.setCell ⟨g,k,none⟩ (.int .u8 n)):=by
 simp [execOp,ho,hx,hy,go_sem,hc,hf]
end Go.Proofs.YteapbbaollmniaaGreatDoor.C
/- What is done to one row: it is multiplied; it is taken off another one. -/
namespace Go.Proofs.YteapbbaollmniaaGreatDoor.C
open Go.RowKit
theorem Keeps.hasNe {g : Nat} {w w' : World} (h : Keeps g (g + 1) w w') {b : Nat} {cs : Array Value} {t : TypeId} (hh : Has w b cs t) (hb : b ≠ g) : Has w' b cs t:=by
 by_cases hl : b < g
 ·exact hh.below h.1 hl
 ·exact h.has hh (by omega)
theorem Keeps.rowNe {g : Nat} {w w' : World} (h : Keeps g (g + 1) w w') {b W : Nat} {r : Nat -> Nat} (hh : RowW w b W r) (hp : 0 < W) (hb : b ≠ g) : RowW w' b W r:=by
 have hl:=rowW_lt hh hp
 by_cases hlt : b < g
 ·exact hh.of (h.1.block b hlt)
 ·exact hh.of (h.2 b (by omega) hl)
def oneTo (r : Nat -> Nat) (x k : Nat) : Nat -> Nat:=fun i=>if i < k then Fld.mul (r i) x else r i
theorem oneTo_set (r : Nat -> Nat) (x k : Nat) : oneTo r x (k + 1) k = Fld.mul (r k) x /\ ∀ i,i ≠ k -> oneTo r x (k + 1) i = oneTo r x k i:=by
 refine ⟨by unfold oneTo; rw [if_pos (by omega)],fun i hi=>?_⟩
 unfold oneTo
 by_cases h : i < k
 ·rw [if_pos h,if_pos (by omega)]
 ·rw [if_neg h,if_neg (by omega)]
set_option maxRecDepth 20000 in
theorem makeOne_any (F g W cap c : Nat) (r : Nat -> Nat) (w : World) (hF : Has w F FC 261) (hr : RowW w g W r) (hW : W <= 1000000) (hc : c < W) (hne : r c ≠ 0) (hgF : F ≠ g) :
  Calls Tryz.prog 231 #[.pointer (some ⟨F,0,none⟩),.slice (some ⟨g,0,none⟩) W cap,.int .i64 (c : Int)] w fun e w'=>e = .returned (.tuple #[]) /\ RowW w' g W (fun j=>Fld.mul (r j) (Fld.inv (r c))) /\ Keeps g (g + 1) w w':=by
 have k0:=(hr c hc).1
 have k1:=(hr c hc).2.2
 have hgl:=rowW_lt hr (by omega)
 have d0 : (c : Int) < (W : Int):=by omega
 have HI : Hid (Ending.returned (.tuple #[.int .u8 ((if r c = 0 then 0 else Fld.inv (r c) : Nat) : Int),.bool (decide (r c ≠ 0))]) = .returned (.tuple #[.int .u8 ((Fld.inv (r c) : Nat) : Int),.bool true])):=by
  unfold Hid; rw [if_neg hne,decide_eq_true hne]
 have HR : Hid (∀ j,j < W -> r j < 256):=fun j hj=>(hr j hj).2.2
 have hR0 : Hid (RowW w g W (oneTo r (Fld.inv (r c)) 0)):=hr.congr fun j _=>by unfold oneTo; rw [if_neg (by omega)]
 have HE : Hid (∀ j,j < W -> oneTo r (Fld.inv (r c)) W j = Fld.mul (r j) (Fld.inv (r c))):=fun j hj=>by unfold oneTo; rw [if_pos hj]
 clear hr
 go_enter Tryz.func231,Tryz.ntmps231
 go_wp2_with fail
 refine (inv_any _ (r c) k1 w (.inr ⟨F,rfl,hF⟩)).mono ?_
 rintro e w1 ⟨rfl,b1⟩
 rw [HI.out]
 have hx:=Fld.inv_lt (r c)
 have hR1 : Hid (RowW w1 g W (oneTo r (Fld.inv (r c)) 0)):=hR0.out.of (b1.block g hgl)
 have K1 : Keeps g (g + 1) w w1:=Keeps.ofBelow b1 (by omega)
 obtain ⟨x,hxe⟩ : ∃ x,Hid (x = Fld.inv (r c)):=⟨_,rfl⟩
 rw [<- hxe.out] at hx hR1 HE ⊢
 clear HI k0 hR0 b1
 go_wp2_with fail
 go_loopw [20] (fun vi wr=>∃ k : Nat,k <= W /\ vi = .int .i64 (k : Int) /\ Hid (RowW wr g W (oneTo r x k)) /\ Keeps g (g + 1) w wr) (fun vi _=>W - (intOf vi).toNat)
 case atStart=>exact ⟨0,by omega,rfl,hR1,K1⟩
 case round =>
  obtain ⟨k,hk,rfl,hR,hK⟩:=hrel
  clear hR1 K1
  by_cases hlt : k < W
  ·have q1:=(hR.out k hlt).1
   have e1 : oneTo r x k k = r k:=by unfold oneTo; rw [if_neg (by omega)]
   rw [e1] at q1
   have hF1 : Hid (Has wr F FC 261):=hK.hasNe hF hgF
   have hrk:=HR.out k hlt
   have d1 : (k : Int) < (W : Int):=by omega
   have hgl1 : g < wr.heap.size:=Nat.lt_of_lt_of_le hgl hK.1.size
   clear e1
   go_wp2_with fail
   refine (mul_any _ (r k) x hrk hx wr (.inr ⟨F,rfl,hF1.out⟩)).mono ?_
   rintro e w2 ⟨rfl,b2⟩
   have hR2 : Hid (RowW w2 g W (oneTo r x k)):=hR.out.of (b2.block g hgl1)
   have q2:=(hR2.out k hlt).1
   have q3:=(hR2.out k hlt).2.1
   have K2 : Keeps g (g + 1) w w2:=hK.trans (Keeps.ofBelow b2 (by omega))
   have hR3 : Hid (RowW (w2.setCell ⟨g,k,none⟩ (.int .u8 ((Fld.mul (r k) x : Nat) : Int))) g W (oneTo r x (k + 1))):=hR2.out.set k _ hlt (Fld.mul_lt _ _) (oneTo_set r x k).1 (fun i _ hi=>(oneTo_set r x k).2 i hi)
   have K3 : Keeps g (g + 1) w (w2.setCell ⟨g,k,none⟩ (.int .u8 ((Fld.mul (r k) x : Nat) : Int))):=K2.set (Nat.le_refl _) (Nat.lt_succ_self _) _
   generalize Fld.mul (r k) x = y at *
   clear q1
   go_wp2_with fail
   exact ⟨⟨k + 1,by omega,rfl,hR3,K3⟩,by simp [intOf]; omega⟩
  ·obtain rfl : k = W:=by omega
   go_wp2_with fail
   go_end0
   exact ⟨rfl,hR.out.congr fun j hj=>by rw [<- hxe.out]; exact (HE.out j hj).symm,hK⟩
def offTo (r s : Nat -> Nat) (c x k : Nat) : Nat -> Nat:=fun i=>if c <= i /\ i < k then r i ^^^ Fld.mul (s i) x else r i
theorem offTo_set (r s : Nat -> Nat) (c x k : Nat) (hk : c <= k) : offTo r s c x (k + 1) k = r k ^^^ Fld.mul (s k) x /\ ∀ i,i ≠ k -> offTo r s c x (k + 1) i = offTo r s c x k i:=by
 refine ⟨by unfold offTo; rw [if_pos (by omega)],fun i hi=>?_⟩
 unfold offTo
 by_cases h : c <= i /\ i < k
 ·rw [if_pos h,if_pos (by omega)]
 ·rw [if_neg h,if_neg (by omega)]
set_option maxRecDepth 20000 in
set_option maxHeartbeats 2000000 in
theorem takeOff1_any (F g gd W cap cap' c bc br bf : Nat) (r s : Nat -> Nat) (w : World) (hF : Has w F FC 261) (hbc : Has w bc #[.int .i64 (c : Int)] 3) (hbr : Has w br #[.slice (some ⟨gd,0,none⟩) W cap'] 136) (hbf : Has w bf #[.pointer (some ⟨F,0,none⟩)] 232)
  (hr : RowW w g W r) (hs : RowW w gd W s) (hW : W <= 1000000) (hc : c < W) (hgF : F ≠ g) (hgd : gd ≠ g) (h1 : bc ≠ g) (h2 : br ≠ g) (h3 : bf ≠ g) :
  Calls Tryz.prog 242 #[.slice (some ⟨g,0,none⟩) W cap,.pointer (some ⟨bc,0,none⟩),.pointer (some ⟨br,0,none⟩),.pointer (some ⟨bf,0,none⟩)] w fun e w'=>e = .returned (.tuple #[]) /\ RowW w' g W (offTo r s c (r c) W) /\ Keeps g (g + 1) w w':=by
 have k0:=(hr c hc).1
 have k1:=(hr c hc).2.2
 have hgl:=rowW_lt hr (by omega)
 have d0 : (c : Int) < (W : Int):=by omega
 have c1 : w.cell? ⟨bc,0,none⟩ = some (.int .i64 (c : Int)):=hbc.cell 0
 have c2 : w.cell? ⟨br,0,none⟩ = some (.slice (some ⟨gd,0,none⟩) W cap'):=hbr.cell 0
 have c3 : w.cell? ⟨bf,0,none⟩ = some (.pointer (some ⟨F,0,none⟩)):=hbf.cell 0
 by_cases hz : r c = 0
 ·have HE : Hid (RowW w g W (offTo r s c (r c) W)):=hr.congr fun j _=>by
   unfold offTo; split
   ·rw [hz,Fld.mul_zero,Nat.xor_zero]
   ·rfl
  have z0 : ((r c : Int) == 0) = true:=by rw [hz]; rfl
  clear hr
  go_enter Tryz.func242,Tryz.ntmps242
  go_wp2_with fail
  refine bodyPost_ret (results_none rfl _ _ _) rfl ?_
  exact ⟨rfl,HE.out,Keeps.refl _ _ _⟩
 ·have z0 : ((r c : Int) == 0) = false:=by rw [beq_eq_false_iff_ne]; omega
  have HR : Hid (∀ j,j < W -> r j < 256 /\ s j < 256):=fun j hj=>⟨(hr j hj).2.2,(hs j hj).2.2⟩
  have hR0 : Hid (RowW w g W (offTo r s c (r c) c)):=hr.congr fun j _=>by unfold offTo; rw [if_neg (by omega)]
  have HS : Hid (RowW w gd W s):=hs
  clear hr hs
  obtain ⟨x,hx⟩ : ∃ x,Hid (x = r c):=⟨_,rfl⟩
  rw [<- hx.out] at k0 k1 z0 hR0 ⊢
  go_enter Tryz.func242,Tryz.ntmps242
  go_wp2_with fail
  go_loopw [6] (fun vi wr=>∃ k : Nat,c <= k /\ k <= W /\ vi = .int .i64 (k : Int) /\ Hid (RowW wr g W (offTo r s c x k)) /\ Keeps g (g + 1) w wr) (fun vi _=>W - (intOf vi).toNat)
  case atStart=>exact ⟨c,by omega,by omega,rfl,hR0,Keeps.refl _ _ _⟩
  case round =>
   obtain ⟨k,hck,hk,rfl,hR,hK⟩:=hrel
   have c1' : wr.cell? ⟨bc,0,none⟩ = some (.int .i64 (c : Int)):=(hK.hasNe hbc h1).cell 0
   have c2' : wr.cell? ⟨br,0,none⟩ = some (.slice (some ⟨gd,0,none⟩) W cap'):=(hK.hasNe hbr h2).cell 0
   have c3' : wr.cell? ⟨bf,0,none⟩ = some (.pointer (some ⟨F,0,none⟩)):=(hK.hasNe hbf h3).cell 0
   clear hR0 k0 c1 c2 c3
   by_cases hlt : k < W
   ·have d1 : (k : Int) < (W : Int):=by omega
    have q1:=(hR.out k hlt).1
    have e1 : offTo r s c x k k = r k:=by unfold offTo; rw [if_neg (by omega)]
    rw [e1] at q1
    have hgl1 : g < wr.heap.size:=Nat.lt_of_lt_of_le hgl hK.1.size
    have hF1:=hK.hasNe hF hgF
    have hS1:=hK.rowNe HS.out (by omega) hgd
    obtain ⟨l1,l2⟩:=HR.out k hlt
    have HC : Hid (∀ W',Below wr.heap.size wr W' -> W'.cell? ⟨g,0 + k,none⟩ = some (.int .u8 (r k : Int)) /\ W'.cell? ⟨gd,0 + k,none⟩ = some (.int .u8 (s k : Int)) /\ W'.cell? ⟨br,0,none⟩ = some (.slice (some ⟨gd,0,none⟩) W cap') /\ W'.cell? ⟨bf,0,none⟩ = some (.pointer (some ⟨F,0,none⟩)) /\ Has W' F FC 261):=fun W' hb=>by
     rw [Nat.zero_add]
     exact ⟨cell_below hb hgl1 q1,cell_below hb (rowW_lt hS1 (by omega)) (hS1 k hlt).1,cell_below hb (World.block_lt_of_cell? (h:=c2')) c2',cell_below hb (World.block_lt_of_cell? (h:=c3')) c3',hF1.below hb hF1.lt⟩
    have HL : Hid (∀ W',Below wr.heap.size wr W' -> W'.cell? ⟨g,0 + k,none⟩ = some (.int .u8 (r k : Int)) /\ W'.frozen? ⟨g,0 + k,none⟩ = false /\ RowW (W'.setCell ⟨g,0 + k,none⟩ (.int .u8 ((r k ^^^ Fld.mul (s k) x : Nat) : Int))) g W (offTo r s c x (k + 1)) /\ Keeps g (g + 1) w (W'.setCell ⟨g,0 + k,none⟩ (.int .u8 ((r k ^^^ Fld.mul (s k) x : Nat) : Int)))):=fun W' hb=>by
     have hR':=hR.out.of (hb.block g hgl1)
     have h0:=hR' k hlt
     rw [e1] at h0
     rw [Nat.zero_add]
     exact ⟨h0.1,h0.2.1,hR'.set k _ hlt (Fld.xor_lt l1 (Fld.mul_lt _ _)) (offTo_set r s c x k hck).1 (fun i _ hi=>(offTo_set r s c x k hck).2 i hi),(hK.trans (Keeps.ofBelow hb (by omega))).set (Nat.le_refl _) (Nat.lt_succ_self _) _⟩
    have l3:=Fld.mul_lt (s k) x
    clear q1 e1 hS1 hF1
    go_wp2_with fail
    refine wp_region_last_lit (by kernel_rfl) 20 (by kernel_rfl) (by simp) (by simp) (fun W'=>Below wr.heap.size wr W') (vals ([.slice (some ⟨g,0,none⟩) W cap,.int .i64 (k : Int),.pointer (some ⟨F,0,none⟩),.slice (some ⟨g,0,none⟩) W cap,.int .i64 (k : Int),.pointer (some ⟨g,0 + k,none⟩),.int .u8 (r k : Int),.pointer (some ⟨F,0,none⟩),.slice (some ⟨gd,0,none⟩) W cap',.int .i64 (k : Int),.pointer (some ⟨gd,0 + k,none⟩),.int .u8 (s k : Int),.int .u8 (x : Int),.int .u8 ((Fld.mul (s k) x : Nat) : Int),.int .u8 ((r k ^^^ Fld.mul (s k) x : Nat) : Int),.pointer (some ⟨g,0 + k,none⟩)] : List Value)) (Below.refl _ _).drew
     ⟨fun a' W' hC hF=>st_val 20 _ rfl (rn_move rfl (hF 0 (by decide))) hC,
      fun a' W' hC hF=>st_val 21 _ rfl (rn_move rfl (hF 6 (by decide))) hC,
      fun a' W' hC hF=>st_val 22 _ rfl (rn_load58 rfl (hF 3 (by decide)) (HC.out W' hC).2.2.2.1) hC,
      fun a' W' hC hF=>st_val 23 _ rfl (rn_move rfl (hF 0 (by decide))) hC,
      fun a' W' hC hF=>st_val 24 _ rfl (rn_move rfl (hF 6 (by decide))) hC,
      fun a' W' hC hF=>st_val 25 _ rfl (rn_at31 rfl (hF 23 (by decide)) (hF 24 (by decide)) hlt) hC,
      fun a' W' hC hF=>st_val 26 _ rfl (rn_load5 rfl (hF 25 (by decide)) (HC.out W' hC).1) hC,
      fun a' W' hC hF=>st_val 27 _ rfl (rn_load58 rfl (hF 3 (by decide)) (HC.out W' hC).2.2.2.1) hC,
      fun a' W' hC hF=>st_val 28 _ rfl (rn_load31 rfl (hF 2 (by decide)) (HC.out W' hC).2.2.1) hC,
      fun a' W' hC hF=>st_val 29 _ rfl (rn_move rfl (hF 6 (by decide))) hC,
      fun a' W' hC hF=>st_val 30 _ rfl (rn_at31 rfl (hF 28 (by decide)) (hF 29 (by decide)) hlt) hC,
      fun a' W' hC hF=>st_val 31 _ rfl (rn_load5 rfl (hF 30 (by decide)) (HC.out W' hC).2.1) hC,
      fun a' W' hC hF=>st_val 32 _ rfl (rn_move rfl (hF 5 (by decide))) hC,
      fun a' W' hC hF=>st_call 33 _ 186 _ rfl (rn_call3 rfl rfl (hF 27 (by decide)) (hF 31 (by decide)) (hF 32 (by decide)) (enter46 _)) ((mul_any _ (s k) x l2 k1 W' (.inr ⟨F,rfl,(HC.out W' hC).2.2.2.2⟩)).mono fun e w'' h=>⟨h.1,belowCall hC h.2⟩),
      fun a' W' hC hF=>st_call 34 _ 185 _ rfl (rn_call3 rfl rfl (hF 22 (by decide)) (hF 26 (by decide)) (hF 33 (by decide)) (enter45 _)) ((add_any _ (r k) (Fld.mul (s k) x) l1 l3 W').mono fun e w'' h=>⟨h.1,belowCall hC h.2⟩),
      fun a' W' hC hF=>st_val 35 _ rfl (rn_at31 rfl (hF 20 (by decide)) (hF 21 (by decide)) hlt) hC,
      ?_⟩
    intro W' hC
    generalize hA : puts _ _ _ _ = A
    have hx1 : A.eval (.tmp 35) = .pointer (some ⟨g,0 + k,none⟩):=by rw [<- hA]; exact ev_puts 16 15 rfl (by simp) (by decide)
    have hy1 : A.eval (.tmp 34) = .int .u8 ((r k ^^^ Fld.mul (s k) x : Nat) : Int):=by rw [<- hA]; exact ev_puts 16 14 rfl (by simp) (by decide)
    refine st_store rfl (rn_store5 rfl hx1 hy1 (HL.out W' hC).1 (HL.out W' hC).2.1) ?_
    rw [<- hA]
    clear hx1 hy1 hA A
    have HL1:=HL.out W' hC
    rw [Nat.zero_add] at HL1
    have HL' : Hid _:=HL1
    clear HL1
    simp only [List.length_cons,List.length_nil,Nat.reduceAdd,Nat.reduceSub,puts,Act.put,vals,List.setIfInBounds_toArray,List.set_cons_succ,List.set_cons_zero,List.getD_cons_succ,List.getD_cons_zero]
    go_wp2_with fail
    exact ⟨⟨k + 1,by omega,by omega,rfl,HL'.out.2.2.1,HL'.out.2.2.2⟩,by simp [intOf]; omega⟩
   ·obtain rfl : k = W:=by omega
    go_wp2_with fail
    go_end0
    exact ⟨rfl,hR.out,hK⟩
end Go.Proofs.YteapbbaollmniaaGreatDoor.C
