/- Rows that a call makes by append: what they hold; the laws of append at this program's element types. -/
import Derived.Test.YteapbbaollmniaaGreatDoorCConv
import Derived.Lib.AppendZerosOnto
import Derived.Laws.CopyOwn
namespace Go.Proofs.YteapbbaollmniaaGreatDoor.C
open Go.RowKit
/-- an element type of one cell, and the list type of it -/
structure Elem (t e : TypeId) (z : Value) (bytes : Nat) : Prop where
 ht : Tryz.prog.underlying t = some (.slice e)
 hi : (Tryz.prog.info? e).map (fun i=>(i.zero,i.size,i.bytes)) = some (some z,1,bytes)
 hz : z.cells.size = 1
 hb : bytes <= 24
theorem el5 : Elem 136 5 (.int .u8 0) 1:=⟨Tryz.underlying136,by kernel_rfl,rfl,by decide⟩
theorem el31 : Elem 166 136 (.slice none 0 0) 24:=⟨Tryz.underlying166,by kernel_rfl,rfl,by decide⟩
theorem Elem.info {t e : TypeId} {z : Value} {bytes : Nat} (E : Elem t e z bytes) : ∃ i,Tryz.prog.info? e = some i /\ i.zero = some z /\ i.size = 1 /\ i.bytes = bytes:=by
 have h:=E.hi
 cases hq : Tryz.prog.info? e with
 | none=>rw [hq] at h; simp at h
 | some i =>
  rw [hq] at h
  simp only [Option.map_some,Option.some.injEq,Prod.mk.injEq] at h
  exact ⟨i,rfl,h⟩
/-- the list v, made by the call itself (from block base on), holds these cells -/
def Owns (e : TypeId) (base : Nat) (v : Value) (xs : List Value) (w : World) : Prop:=w.ownsRow base e 1 v xs.length xs
theorem Owns.nil (e : TypeId) (base : Nat) (w : World) : Owns e base (.slice none 0 0) [] w:=World.ownsRow_nil w base e 1
theorem Owns.base_le {e : TypeId} {base : Nat} {v : Value} {xs : List Value} {w : World} (h : Owns e base v xs w) : ∀ k,v.ownBlock = some k -> base <= k /\ k < w.heap.size:=World.ownsRow.lt h
theorem Owns.alloc {e : TypeId} {base : Nat} {v : Value} {xs : List Value} {w : World} (h : Owns e base v xs w) (o : Obj) : Owns e base v xs (w.alloc o):=World.ownsRow.alloc h o
theorem Owns.mono {e : TypeId} {base base' : Nat} {v : Value} {xs : List Value} {w : World} (h : Owns e base v xs w) (hb : base' <= base) : Owns e base' v xs w:=by
 obtain ⟨h1,h2⟩:=h
 refine ⟨h1,h2.imp id ?_⟩
 rintro ⟨g,cap,cur,hv,hg,h3⟩
 exact ⟨g,cap,cur,hv,by omega,h3⟩
/-- a new list of no element -/
theorem Owns.fresh {e : TypeId} {base : Nat} (w : World) (hb : base <= w.heap.size) : Owns e base (.slice (some ⟨w.heap.size,0,none⟩) 0 0) [] (w.alloc (.cells #[] e)) :=
 ⟨rfl,.inr ⟨w.heap.size,0,#[],rfl,hb,Has.new w _ _ _ rfl,Nat.le_refl _,by unfold maxLen; omega,rfl,rfl⟩⟩
theorem U8s_toList_length (l : List Nat) : (U8s l).toList.length = l.length:=by simp [U8s]
theorem U8s_app (l l' : List Nat) : (U8s l).toList ++ (U8s l').toList = (U8s (l ++ l')).toList:=by simp [U8s]
theorem U8s_one (l : List Nat) : ∀ u ∈ (U8s l).toList,u.oneCell' = true:=by
 intro v hv; simp [U8s] at hv; obtain ⟨x,_,rfl⟩:=hv; rfl
/-- row g, of W numbers, which may be written -/
def RowW (w : World) (g W : Nat) (r : Nat -> Nat) : Prop:=∀ j,j < W -> w.cell? ⟨g,j,none⟩ = some (.int .u8 (r j)) /\ w.frozen? ⟨g,j,none⟩ = false /\ r j < 256
/-- what a row that was made so looks like -/
theorem Owns.form {base : Nat} {v : Value} {l : List Nat} {w : World} (h : Owns 5 base v (U8s l).toList w) (hx : ∀ x ∈ l,x < 256) : ∃ a cap,v = .slice a l.length cap /\ (l.length <= cap /\ cap <= 9223372036854775807) /\ (0 < l.length -> ∃ g,a = some ⟨g,0,none⟩ /\ base <= g /\ g < w.heap.size /\ (∃ cur,Has w g cur 5) /\ RowW w g l.length (fun j=>l.getD j 0)):=by
 obtain ⟨h1,h2⟩:=h
 rw [U8s_toList_length] at h2
 rcases h2 with ⟨rfl,h0⟩ | ⟨g,cap,cur,rfl,hg,hh,k1,k2,k3,k4⟩
 ·exact ⟨none,0,by rw [h0],by omega,fun hp=>absurd hp (by omega)⟩
 ·have hH : Has w g cur 5:=hh
  refine ⟨_,cap,rfl,⟨k1,by unfold maxLen at k2; omega⟩,fun _=>⟨g,rfl,hg,hH.lt,⟨cur,hH⟩,fun j hj=>⟨?_,hH.frozen j,getD_lt hx j⟩⟩⟩
  rw [hH.cell]
  have e : cur.toList[j]? = (U8s l)[j]?:=by
   rw [<- Array.getElem?_toList (xs:=U8s l),<- k4,List.getElem?_take,if_pos (by omega)]
  rw [Array.getElem?_toList] at e
  rw [e,U8s_get _ _ hj]
/-- nothing is appended -/
theorem run_append_none (w : World) (t ty e : TypeId) {z : Value} {bytes : Nat} (E : Elem t e z bytes) (v : Value) (xs : List Value) (base c : Nat) (h : Owns e base v xs w) :
  (Builtin.append_ #[t,t] ty #[v,.slice none 0 c]).run Tryz.prog w = .ok v w:=by
 obtain ⟨i,hi,_,hs,_⟩:=E.info
 obtain ⟨h1,h2⟩:=h
 rcases h2 with ⟨rfl,h0⟩ | ⟨g,cap,cur,rfl,hg,hh,k1,k2,k3,k4⟩
 ·simp [Builtin.append_,run_underlying E.ht,sizeOf,typeInfo,hi,Builtin.lenOf,Builtin.firstCells]
 ·simp [Builtin.append_,run_underlying E.ht,sizeOf,typeInfo,hi,Builtin.lenOf,Builtin.firstCells,k1,storeCells]
/-- a row is appended -/
theorem app_row (w : World) (ty : TypeId) (base : Nat) (v xv : Value) (l0 l : List Nat) (hown : Owns 5 base v (U8s l0).toList w) (hr : Row8 w xv l) (h63 : l0.length + l.length <= 1000000) (hbase : base <= w.heap.size) :
  ∃ v' w',(Builtin.append_ #[136,136] ty #[v,xv]).run Tryz.prog w = .ok v' w' /\ Owns 5 base v' (U8s (l0 ++ l)).toList w' /\ w.grownBy w' v.ownBlock /\ (v'.ownBlock = v.ownBlock \/ v'.ownBlock = some w.heap.size) /\ Below base w w':=by
 obtain ⟨i,hi,hz0,hz1,hz2⟩:=el5.info
 obtain ⟨a,cap,rfl,hl,hx,hc⟩:=hr
 cases a with
 | none =>
  have h0 : l = []:=by
   apply List.eq_nil_of_length_eq_zero
   by_cases hp : 0 < l.length
   ·obtain ⟨g,o,e,_⟩:=hc hp; cases e
   ·omega
  subst h0
  refine ⟨v,w,run_append_none w 136 ty 5 el5 v _ base cap hown,by rw [List.append_nil]; exact hown,⟨rfl,rfl,rfl,Nat.le_refl _,fun _ _ _=>rfl⟩,.inl rfl,Below.refl _ _⟩
 | some ad =>
  have hcells : ∀ j u,(U8s l).toList[j]? = some u -> w.cell? (ad.add j) = some u:=fun j u hu=>by
   have hj : j < l.length:=by have:=(List.getElem?_eq_some_iff.1 hu).1; rwa [U8s_toList_length] at this
   obtain ⟨g,o,e,_,hd⟩:=hc (by omega)
   cases e
   rw [Addr.add_mid,hd j hj,<- hu,Array.getElem?_toList,U8s_get _ _ hj]
  obtain ⟨v',w',h1,h2,h3,_,h5⟩:=run_append_own_at (P:=Tryz.prog) w base 136 ty 5 i (.int .u8 0) 1 1 el5.ht hi hz0 hz1 hz2 el5.hz (by decide) v _ _ hown ad l.length cap (U8s l).toList (by rw [U8s_toList_length]; omega) hcells (U8s_one l) (by rw [U8s_toList_length]; unfold maxLen; omega) (by rw [U8s_toList_length]; omega) hbase
  refine ⟨v',w',h1,?_,h3,h5,(Below.refl base w).grown h3 hbase (fun k hk=>(hown.base_le k hk).1)⟩
  show w'.ownsRow base 5 1 v' (U8s (l0 ++ l)).toList.length _
  rw [U8s_toList_length,List.length_append,<- U8s_app]
  rw [U8s_toList_length] at h2
  exact h2
theorem wpList_appRun {ops : Array Oper} {rest : List Oper} {o : Oper} {a : Act} {w w' : World} {v' : Value} {Q : Exit -> Act -> World -> Prop} (hgd : o.guard = none) (s x : Operand) (t1 t2 : TypeId)
  (ho : o.op = .call { callee:=.builtin .append,args:=#[s,x],argTypes:=#[t1,t2] }) (hr : (Builtin.append_ #[t1,t2] o.type #[a.eval s,a.eval x]).run Tryz.prog w = .ok v' w')
  (h : wpList Tryz.prog ops Q rest (a.put o.dst v') w') : wpList Tryz.prog ops Q (o :: rest) a w:=by
 refine wpList_plain hgd fun K hK=>?_
 unfold Oper.wp execOp
 simp only [ho,resolve,invoke,builtin,Sem.run_bind,Sem.run_pure,Result.andThen_ok,List.map_toArray,List.map_cons,List.map_nil,hr]
 exact hK _ _ h
/-- at the operation -/
theorem wpList_appR {ops : Array Oper} {rest : List Oper} {o : Oper} {a : Act} {w : World} {Q : Exit -> Act -> World -> Prop} (hgd : o.guard = none) (s x : Operand)
  (ho : o.op = .call { callee:=.builtin .append,args:=#[s,x],argTypes:=#[136,136] }) (base : Nat) (v xv : Value) (l0 l : List Nat) (hs : a.eval s = v) (hown : Owns 5 base v (U8s l0).toList w) (hx : a.eval x = xv) (hr : Row8 w xv l)
  (h63 : l0.length + l.length <= 1000000) (hbase : base <= w.heap.size)
  (h : ∀ v' w',Owns 5 base v' (U8s (l0 ++ l)).toList w' -> w.grownBy w' v.ownBlock -> Below base w w' -> wpList Tryz.prog ops Q rest (a.put o.dst v') w') : wpList Tryz.prog ops Q (o :: rest) a w:=by
 obtain ⟨v',w',h1,h2,h3,_,h5⟩:=app_row w o.type base v xv l0 l hown hr h63 hbase
 exact wpList_appRun hgd s x 136 136 ho (by rw [hs,hx]; exact h1) (h v' w' h2 h3 h5)
theorem zeros_toList (k : Nat) : (Builtin.zeroCells (Value.int .u8 0).cells k).toList = (U8s (List.replicate k 0)).toList:=by
 have hz : (Value.int .u8 0).cells = #[.int .u8 0]:=rfl
 rw [hz]
 apply List.ext_getElem
 ·simp [Builtin.zeroCells,U8s]
 ·intro j h1 h2
  simp [Builtin.zeroCells,U8s,Nat.mod_one]
/-- noughts are appended -/
theorem app_zeros (w : World) (ty : TypeId) (base : Nat) (v : Value) (l0 : List Nat) (k : Nat) (hown : Owns 5 base v (U8s l0).toList w) (h63 : l0.length + k <= 1000000) (hk : 0 < k) (hbase : base <= w.heap.size) :
  ∃ v' w',(Builtin.append_ #[136,3] ty #[v,.int .i64 (k : Int)]).run Tryz.prog w = .ok v' w' /\ Owns 5 base v' (U8s (l0 ++ List.replicate k 0)).toList w' /\ Below base w w':=by
 obtain ⟨i,hi,hz0,hz1,hz2⟩:=el5.info
 have hlen : (U8s (l0 ++ List.replicate k 0)).toList.length = l0.length + k:=by rw [U8s_toList_length]; simp
 obtain ⟨h1,h2⟩:=hown
 rw [U8s_toList_length] at h1 h2
 -- what is new
 have grown : ∀ (old : Nat) (G : Nat),l0.length + k <= G -> G <= maxLen ->
   Owns 5 base (.slice (some ⟨w.heap.size,0,none⟩) (l0.length + k) G) (U8s (l0 ++ List.replicate k 0)).toList (w.drew.alloc (.cells ((U8s l0).toList.toArray ++ Builtin.zeroCells (Value.int .u8 0).cells k ++ Builtin.zeroCells (Value.int .u8 0).cells (G - (l0.length + k))) 5)):=fun old G hG hm=>by
  refine ⟨by simp,.inr ⟨w.heap.size,G,_,by rw [hlen],hbase,heap_alloc_new w.drew _,by rw [hlen]; exact hG,hm,?_,?_⟩⟩
  ·have hz : (Value.int .u8 0).cells.size = 1:=rfl
   simp only [Array.size_append,List.size_toArray,size_zeroCells,hz,U8s_toList_length]; omega
  ·rw [hlen,Nat.mul_one]
   simp only [Array.toList_append,zeros_toList,U8s_app]
   rw [<- U8s_app (l0 ++ _),List.take_append_of_le_length (by rw [hlen]; exact Nat.le_refl _),List.take_of_length_le (by rw [hlen]; exact Nat.le_refl _)]
 rcases h2 with ⟨rfl,h0⟩ | ⟨g,cap,cur,rfl,hg,hh,k1,k2,k3,k4⟩
 ·obtain rfl : l0 = []:=List.eq_nil_of_length_eq_zero h0
  have hr:=Lib.run_append_nil_zeros (P:=Tryz.prog) w 136 3 ty 5 i (.int .u8 0) .i64 .i64 el5.ht Tryz.underlying3 hi hz0 k hk (by omega) (by omega) (by rw [hz2]; simp at h63; omega)
  refine ⟨_,_,hr,?_,(Below.refl _ _).drew.alloc hbase _⟩
  have:=grown 0 (grownCap w k 0 5) (by simpa using grownCap_ge w k 0 5) (grownCap_le_maxLen w k 0 5 (by unfold maxLen; simp at h63; omega))
  simpa [U8s] using this
 ·have hH : Has w g cur 5:=hh
  by_cases hroom : l0.length + k <= cap
  ·have hst:=run_storeCells_at Tryz.prog g (l0.length * 1) 5 (Builtin.zeroCells (Value.int .u8 0).cells k).toList 0 cur w hh (by rw [zeros_toList,U8s_toList_length]; simp; omega) (by rw [zeros_toList]; exact U8s_one _)
   have hw : IntKind.i64.wrap (k : Int) = k:=by rw [IntKind.wrap_i64]; omega
   have hneg : ¬ ((k : Int) < 0):=by omega
   have h48i : ¬ (281474976710656 < (k : Int) * (i.bytes : Int)):=by rw [hz2]; omega
   have hk0 : ¬ (k = 0):=by omega
   simp only [Nat.add_zero] at hst
   have hrun : (Builtin.append_ #[136,3] ty #[.slice (some ⟨g,0,none⟩) l0.length cap,.int .i64 (k : Int)]).run Tryz.prog w = .ok (.slice (some ⟨g,0,none⟩) (l0.length + k) cap) (w.setRow g (cur.toList.take (l0.length * 1) ++ (Builtin.zeroCells (Value.int .u8 0).cells k).toList ++ cur.toList.drop (l0.length * 1 + (Builtin.zeroCells (Value.int .u8 0).cells k).toList.length)).toArray):=by
    simp [Builtin.append_,run_underlying el5.ht,run_underlying Tryz.underlying3,sizeOf,typeInfo,hi,hz1,asInt,asIntOf,hw,hneg,h48i,hroom,hk0,Addr.add_lit]
    simp at hst
    rw [hst]; rfl
   refine ⟨_,_,hrun,⟨by simp,.inr ⟨g,cap,_,by rw [hlen],hg,setRow_heap w g cur _ 5 _ hh,by rw [hlen]; exact hroom,k2,?_,?_⟩⟩,?_⟩
   ·simp only [List.size_toArray,List.length_append,List.length_take,List.length_drop,Array.length_toList,zeros_toList,U8s_size,List.length_replicate]
    omega
   ·rw [hlen,k4,zeros_toList,U8s_app,Nat.mul_one]
    rw [List.take_append_of_le_length (by rw [hlen]; exact Nat.le_refl _),List.take_of_length_le (by rw [hlen]; exact Nat.le_refl _)]
   ·exact below_setRow (Below.refl _ _) hg _
  ·have hold : (Builtin.firstCells i.size l0.length (.slice (some ⟨g,0,none⟩) l0.length cap)).run Tryz.prog w.drew = .ok (U8s l0).toList.toArray w.drew:=by
    refine run_firstCells_some w.drew i.size l0.length ⟨g,0,none⟩ l0.length cap _ (by rw [hz1,U8s_toList_length]; omega) (fun j u hu=>?_)
    rw [Addr.add_mid,World.cell?_drew,Nat.zero_add,hH.cell,<- Array.getElem?_toList,<- hu,<- k4,List.getElem?_take]
    have : j < (U8s l0).toList.length:=(List.getElem?_eq_some_iff.1 hu).1
    rw [U8s_toList_length] at this
    rw [if_pos (by omega)]
   have hr:=Lib.run_append_grow_zeros (P:=Tryz.prog) w 136 3 ty 5 i (.int .u8 0) .i64 .i64 el5.ht Tryz.underlying3 hi hz0 (some ⟨g,0,none⟩) l0.length cap (U8s l0).toList hold k hk (by omega) (by omega) (by omega) (by rw [hz2]; omega) (growslice_fits (by omega) (by rw [hz2]; omega))
   exact ⟨_,_,hr,grown cap _ (grownCap_ge w _ _ _) (grownCap_le_maxLen w _ _ _ (by unfold maxLen; omega)),(Below.refl _ _).drew.alloc hbase _⟩
theorem wpList_appZ {ops : Array Oper} {rest : List Oper} {o : Oper} {a : Act} {w : World} {Q : Exit -> Act -> World -> Prop} (hgd : o.guard = none) (s x : Operand)
  (ho : o.op = .call { callee:=.builtin .append,args:=#[s,x],argTypes:=#[136,3] }) (base : Nat) (v : Value) (l0 : List Nat) (k : Nat) (hs : a.eval s = v) (hown : Owns 5 base v (U8s l0).toList w) (hx : a.eval x = .int .i64 (k : Int)) (hk : 0 < k)
  (h63 : l0.length + k <= 1000000) (hbase : base <= w.heap.size)
  (h : ∀ v' w',Owns 5 base v' (U8s (l0 ++ List.replicate k 0)).toList w' -> Below base w w' -> wpList Tryz.prog ops Q rest (a.put o.dst v') w') : wpList Tryz.prog ops Q (o :: rest) a w:=by
 obtain ⟨v',w',h1,h2,h5⟩:=app_zeros w o.type base v l0 k hown h63 hk hbase
 exact wpList_appRun hgd s x 136 3 ho (by rw [hs,hx]; exact h1) (h v' w' h2 h5)
end Go.Proofs.YteapbbaollmniaaGreatDoor.C
/- Matrices in the call's own memory: a list of rows, each in a block of its own; what becomes of it when a row is written, laid anew, or rows move down. -/
namespace Go.Proofs.YteapbbaollmniaaGreatDoor.C
open Go.RowKit
/-- nothing below base is changed, nothing that was there from top on -/
def Keeps (base top : Nat) (w w' : World) : Prop:=Below base w w' /\ ∀ b,top <= b -> b < w.heap.size -> w'.heap[b]? = w.heap[b]?
theorem Keeps.refl (base top : Nat) (w : World) : Keeps base top w w:=⟨Below.refl _ _,fun _ _ _=>rfl⟩
theorem Keeps.trans {base top : Nat} {a b c : World} (h : Keeps base top a b) (k : Keeps base top b c) : Keeps base top a c :=
 ⟨h.1.trans k.1,fun i h1 h2=>(k.2 i h1 (Nat.lt_of_lt_of_le h2 h.1.size)).trans (h.2 i h1 h2)⟩
theorem Keeps.mono {base top base' top' : Nat} {a b : World} (h : Keeps base top a b) (h1 : base' <= base) (h2 : top <= top') : Keeps base' top' a b :=
 ⟨h.1.mono h1,fun i k1 k2=>h.2 i (by omega) k2⟩
theorem Keeps.ofBelow {base top : Nat} {w w' : World} (h : Below w.heap.size w w') (hb : base <= w.heap.size) : Keeps base top w w':=⟨h.mono hb,fun i _ h2=>h.block i h2⟩
theorem Keeps.set {base top : Nat} {w w' : World} (h : Keeps base top w w') {p : Addr} (h1 : base <= p.block) (h2 : p.block < top) (u : Value) : Keeps base top w (w'.setCell p u) :=
 ⟨h.1.setCell h1 u,fun i k1 k2=>by rw [Below.heap_setCell _ _ _ _ (by omega)]; exact h.2 i k1 k2⟩
theorem Keeps.has {base top : Nat} {w w' : World} (h : Keeps base top w w') {b : Nat} {cs : Array Value} {t : TypeId} (hh : Has w b cs t) (ht : top <= b) : Has w' b cs t:=by
 have hl:=hh.lt
 unfold Has at hh ⊢; rw [h.2 b ht hl]; exact hh
theorem cell_of {w w' : World} {b i : Nat} (h : w'.heap[b]? = w.heap[b]?) : w'.cell? ⟨b,i,none⟩ = w.cell? ⟨b,i,none⟩:=by simp only [World.cell?,h]
theorem frozen_of {w w' : World} {b i : Nat} (h : w'.heap[b]? = w.heap[b]?) : w'.frozen? ⟨b,i,none⟩ = w.frozen? ⟨b,i,none⟩:=by simp only [World.frozen?,h]
theorem RowW.of {w w' : World} {g W : Nat} {r : Nat -> Nat} (h : RowW w g W r) (hk : w'.heap[g]? = w.heap[g]?) : RowW w' g W r:=fun j hj=>by
 rw [cell_of hk,frozen_of hk]; exact h j hj
theorem RowW.congr {w : World} {g W : Nat} {r r' : Nat -> Nat} (h : RowW w g W r) (hr : ∀ j,j < W -> r' j = r j) : RowW w g W r':=fun j hj=>by
 rw [hr j hj]; exact h j hj
/-- one number is written -/
theorem RowW.set {w : World} {g W : Nat} {r r' : Nat -> Nat} (h : RowW w g W r) (j x : Nat) (hj : j < W) (hx : x < 256) (hj' : r' j = x) (ho : ∀ k,k < W -> k ≠ j -> r' k = r k) : RowW (w.setCell ⟨g,j,none⟩ (.int .u8 (x : Int))) g W r':=fun k hk=>by
 rw [World.frozen?_setCell]
 by_cases he : k = j
 ·subst he
  exact ⟨by rw [World.cell?_setCell_same _ _ _ (h k hk).1,hj'],(h k hk).2.1,by rw [hj']; exact hx⟩
 ·rw [World.cell?_setCell_other _ _ _ _ (by simp <;> omega),ho k hk he]; exact h k hk
theorem setCell_other {w : World} {g b : Nat} {i : Nat} {v : Value} (h : b ≠ g) : (w.setCell ⟨g,i,none⟩ v).heap[b]? = w.heap[b]?:=Below.heap_setCell _ _ _ _ h
theorem rowW_lt {w : World} {g W : Nat} {r : Nat -> Nat} (h : RowW w g W r) (hp : 0 < W) : g < w.heap.size:=World.block_lt_of_cell? (h:=(h 0 hp).1)
/-- from T on R rows are told; row i has Wd i numbers, f i j at j; the rows lie apart, from base on, below top -/
def MW (base top T R : Nat) (Wd : Nat -> Nat) (f : El.M) (w : World) : Prop :=
 base <= T /\ T < top /\ top <= w.heap.size /\ ∃ B : Nat -> Nat,∀ i,i < R -> w.frozen? ⟨T,i,none⟩ = false /\ Wd i <= 1000000 /\ ∃ a cap,w.cell? ⟨T,i,none⟩ = some (.slice a (Wd i) cap) /\ (Wd i <= cap /\ cap <= 9223372036854775807) /\
  (0 < Wd i -> a = some ⟨B i,0,none⟩ /\ base <= B i /\ B i < top /\ B i ≠ T /\ (∀ k,k < R -> k ≠ i -> 0 < Wd k -> B k ≠ B i) /\ RowW w (B i) (Wd i) (f i))
theorem MW.same {base top T R : Nat} {Wd : Nat -> Nat} {f : El.M} {w w' : World} (h : MW base top T R Wd f w) (hs : w.heap.size <= w'.heap.size) (hk : ∀ b,base <= b -> b < top -> w'.heap[b]? = w.heap[b]?) : MW base top T R Wd f w':=by
 obtain ⟨h1,h2,h3,B,h4⟩:=h
 refine ⟨h1,h2,by omega,B,fun i hi=>?_⟩
 obtain ⟨k1,k2,a,cap,k3,kc,k4⟩:=h4 i hi
 refine ⟨by rw [frozen_of (hk T h1 h2)]; exact k1,k2,a,cap,by rw [cell_of (hk T h1 h2)]; exact k3,kc,fun hp=>?_⟩
 obtain ⟨r1,r2,r3,r4,r5,r6⟩:=k4 hp
 exact ⟨r1,r2,r3,r4,r5,r6.of (hk _ r2 r3)⟩
theorem MW.below {base top T R : Nat} {Wd : Nat -> Nat} {f : El.M} {w w' : World} (h : MW base top T R Wd f w) (hb : Below w.heap.size w w') : MW base top T R Wd f w' :=
 h.same hb.size fun b _ h2=>hb.block b (Nat.lt_of_lt_of_le h2 h.2.2.1)
theorem MW.mono {base top top' T R : Nat} {Wd : Nat -> Nat} {f : El.M} {w : World} (h : MW base top T R Wd f w) (ht : top <= top') (hs : top' <= w.heap.size) : MW base top' T R Wd f w:=by
 obtain ⟨h1,h2,h3,B,h4⟩:=h
 refine ⟨h1,by omega,hs,B,fun i hi=>?_⟩
 obtain ⟨k1,k2,a,cap,k3,kc,k4⟩:=h4 i hi
 refine ⟨k1,k2,a,cap,k3,kc,fun hp=>?_⟩
 obtain ⟨r1,r2,r3,r4,r5,r6⟩:=k4 hp
 exact ⟨r1,r2,by omega,r4,r5,r6⟩
theorem MW.congr {base top T R : Nat} {Wd Wd' : Nat -> Nat} {f f' : El.M} {w : World} (h : MW base top T R Wd f w) (hW : ∀ i,i < R -> Wd' i = Wd i) (hf : ∀ i,i < R -> ∀ j,j < Wd i -> f' i j = f i j) : MW base top T R Wd' f' w:=by
 obtain ⟨h1,h2,h3,B,h4⟩:=h
 refine ⟨h1,h2,h3,B,fun i hi=>?_⟩
 obtain ⟨k1,k2,a,cap,k3,kc,k4⟩:=h4 i hi
 rw [hW i hi]
 refine ⟨k1,k2,a,cap,k3,kc,fun hp=>?_⟩
 obtain ⟨r1,r2,r3,r4,r5,r6⟩:=k4 hp
 exact ⟨r1,r2,r3,r4,fun k hk hki hp=>r5 k hk hki (by rw [<- hW k hk]; exact hp),r6.congr (hf i hi)⟩
/-- a row of it, and what becomes of it when that row is written -/
theorem MW.row {base top T R : Nat} {Wd : Nat -> Nat} {f : El.M} {w : World} (h : MW base top T R Wd f w) (i : Nat) (hi : i < R) (hp : 0 < Wd i) :
  ∃ g cap,w.cell? ⟨T,i,none⟩ = some (.slice (some ⟨g,0,none⟩) (Wd i) cap) /\ base <= g /\ g < top /\ g ≠ T /\ RowW w g (Wd i) (f i) /\ Wd i <= 1000000 /\
   ∀ (W' : World) (f' : El.M),RowW W' g (Wd i) (f' i) -> Keeps g (g + 1) w W' -> (∀ k,k < R -> k ≠ i -> ∀ j,j < Wd k -> f' k j = f k j) -> MW base top T R Wd f' W':=by
 obtain ⟨h1,h2,h3,B,h4⟩:=h
 obtain ⟨k1,k2,a,cap,k3,kc,k4⟩:=h4 i hi
 obtain ⟨rfl,r2,r3,r4,r5,r6⟩:=k4 hp
 refine ⟨B i,cap,k3,r2,r3,r4,r6,k2,fun W' f' hW hk hf=>?_⟩
 have hsame : ∀ b,b ≠ B i -> b < w.heap.size -> W'.heap[b]? = w.heap[b]?:=fun b hb hl=>by
  by_cases hlt : b < B i
  ·exact hk.1.block b hlt
  ·exact hk.2 b (by omega) hl
 have hT:=hsame T (Ne.symm r4) (by omega)
 refine ⟨h1,h2,Nat.le_trans h3 hk.1.size,B,fun k hkR=>?_⟩
 obtain ⟨q1,q2,a',cap',q3,qc,q4⟩:=h4 k hkR
 refine ⟨by rw [frozen_of hT]; exact q1,q2,a',cap',by rw [cell_of hT]; exact q3,qc,fun hpk=>?_⟩
 obtain ⟨s1,s2,s3,s4,s5,s6⟩:=q4 hpk
 refine ⟨s1,s2,s3,s4,s5,?_⟩
 by_cases he : k = i
 ·subst he; exact hW
 ·exact (s6.of (hsame _ (r5 k hkR he hpk) (by omega))).congr (hf k hkR he)
theorem MW.cap {base top T R : Nat} {Wd : Nat -> Nat} {f : El.M} {w : World} (h : MW base top T R Wd f w) (i : Nat) (hi : i < R) {a : Option Addr} {cap : Nat} (e : w.cell? ⟨T,i,none⟩ = some (.slice a (Wd i) cap)) : Wd i <= cap /\ cap <= 9223372036854775807:=by
 obtain ⟨h1,h2,h3,B,h4⟩:=h
 obtain ⟨_,_,a',c',k3,kc,_⟩:=h4 i hi
 rw [k3] at e
 simp only [Option.some.injEq,Value.slice.injEq] at e
 rw [<- e.2.2]; exact kc
/-- two rows lie apart -/
theorem MW.two {base top T R : Nat} {Wd : Nat -> Nat} {f : El.M} {w : World} (h : MW base top T R Wd f w) (i k : Nat) (hi : i < R) (hk : k < R) (hik : i ≠ k) (hp : 0 < Wd i) (hq : 0 < Wd k) {g g' cap cap' : Nat}
  (e : w.cell? ⟨T,i,none⟩ = some (.slice (some ⟨g,0,none⟩) (Wd i) cap)) (e' : w.cell? ⟨T,k,none⟩ = some (.slice (some ⟨g',0,none⟩) (Wd k) cap')) : g ≠ g':=by
 obtain ⟨h1,h2,h3,B,h4⟩:=h
 obtain ⟨_,_,a,c,k3,_,k4⟩:=h4 i hi
 obtain ⟨_,_,a',c',q3,_,q4⟩:=h4 k hk
 obtain ⟨rfl,_,_,_,r5,_⟩:=k4 hp
 obtain ⟨rfl,_⟩:=q4 hq
 rw [k3] at e; rw [q3] at e'
 simp only [Option.some.injEq,Value.slice.injEq,Addr.mk.injEq] at e e'
 have:=r5 k hk (Ne.symm hik) hq
 omega
/-- a row is laid anew, by what was made meanwhile -/
theorem MW.put {base top T R : Nat} {Wd Wd' : Nat -> Nat} {f f' : El.M} {w0 w1 : World} (h : MW base top T R Wd f w0) (hb : Below w0.heap.size w0 w1) (i : Nat) (_hi : i < R) {r : Value} {l : List Nat}
  (hr : Owns 5 w0.heap.size r (U8s l).toList w1) (hx : ∀ x ∈ l,x < 256) (hl : l.length <= 1000000) (hW : Wd' i = l.length) (hf : ∀ j,j < l.length -> f' i j = l.getD j 0) (ho : ∀ k,k < R -> k ≠ i -> Wd' k = Wd k /\ ∀ j,j < Wd k -> f' k j = f k j) :
  MW base w1.heap.size T R Wd' f' (w1.setCell ⟨T,i,none⟩ r):=by
 have h':=h.below hb
 obtain ⟨h1,h2,h3,B,h4⟩:=h'
 have h30:=h.2.2.1
 have hs:=hb.size
 obtain ⟨a,cap,rfl,hcp,ha⟩:=hr.form hx
 obtain ⟨g,hg⟩ : ∃ g,0 < l.length -> a = some ⟨g,0,none⟩ /\ w0.heap.size <= g /\ g < w1.heap.size /\ RowW w1 g l.length (fun j=>l.getD j 0):=by
  by_cases hp : 0 < l.length
  ·obtain ⟨g,e1,e2,e3,_,e4⟩:=ha hp; exact ⟨g,fun _=>⟨e1,e2,e3,e4⟩⟩
  ·exact ⟨0,fun hp'=>absurd hp' hp⟩
 have hBl : ∀ k,k < R -> 0 < Wd k -> B k < w0.heap.size:=fun k hk hp=>by
  obtain ⟨_,_,a',cap',_,_,q4⟩:=h4 k hk
  have:=(q4 hp).2.2.1; omega
 refine ⟨h1,by omega,by simp [World.setCell],fun k=>if k = i then g else B k,fun k hk=>?_⟩
 obtain ⟨q1,q2,a',cap',q3,qc,q4⟩:=h4 k hk
 rw [World.frozen?_setCell]
 by_cases he : k = i
 ·subst he
  refine ⟨q1,by rw [hW]; exact hl,a,cap,by rw [World.cell?_setCell_same _ _ _ q3,hW],by rw [hW]; exact hcp,fun hp=>?_⟩
  rw [hW] at hp ⊢
  obtain ⟨e1,e2,e3,e4⟩:=hg hp
  simp only [if_pos]
  refine ⟨e1,by omega,e3,by omega,fun m hm hmk hpm=>?_,?_⟩
  ·rw [if_neg hmk]
   have:=hBl m hm (by rw [<- (ho m hm hmk).1]; exact hpm); omega
  ·exact (e4.of (setCell_other (by omega))).congr hf
 ·obtain ⟨o1,o2⟩:=ho k hk he
  refine ⟨q1,by rw [o1]; exact q2,a',cap',by rw [World.cell?_setCell_other _ _ _ _ (by simp <;> omega),q3,o1],by rw [o1]; exact qc,fun hp=>?_⟩
  rw [o1] at hp ⊢
  obtain ⟨s1,s2,s3,s4,s5,s6⟩:=q4 hp
  simp only [if_neg he]
  refine ⟨s1,s2,by omega,s4,fun m hm hmk hpm=>?_,(s6.of (setCell_other s4)).congr o2⟩
  by_cases hmi : m = i
  ·rw [if_pos hmi]
   subst hmi
   rw [hW] at hpm
   have:=(hg hpm).2.1
   have:=hBl k hk hp; omega
  ·rw [if_neg hmi]; exact s5 m hm hmk (by rw [<- (ho m hm hmi).1]; exact hpm)
theorem MW.top {base top T R : Nat} {Wd : Nat -> Nat} {f : El.M} {w : World} (h : MW base top T R Wd f w) (k : Nat) (hk : k < R) : T < w.heap.size /\ (∃ v,w.cell? ⟨T,k,none⟩ = some v) /\ w.frozen? ⟨T,k,none⟩ = false:=by
 obtain ⟨h1,h2,h3,B,h4⟩:=h
 obtain ⟨q1,q2,a',cap',q3,qc,q4⟩:=h4 k hk
 exact ⟨by omega,⟨_,q3⟩,q1⟩
/-- rows move down -/
theorem MW.raise {base top T R W d p : Nat} {f : El.M} {w w' : World} (h : MW base top T R (fun _=>W) f w) (hdp : d <= p) (hp : p < R) (hs : w.heap.size <= w'.heap.size) (hc : ∀ i,i < R -> w'.cell? ⟨T,i,none⟩ = w.cell? ⟨T,El.was d p i,none⟩) (hf : ∀ i,i < R -> w'.frozen? ⟨T,i,none⟩ = false) (hk : ∀ b,b ≠ T -> b < w.heap.size -> w'.heap[b]? = w.heap[b]?) : MW base top T R (fun _=>W) (El.raiseF d p f) w':=by
 obtain ⟨h1,h2,h3,B,h4⟩:=h
 refine ⟨h1,h2,by omega,fun i=>B (El.was d p i),fun i hi=>?_⟩
 obtain ⟨k1,k2,a,cap,k3,kc,k4⟩:=h4 _ (El.was_lt (d:=d) hp hi)
 refine ⟨hf i hi,k2,a,cap,by rw [hc i hi]; exact k3,kc,fun hp'=>?_⟩
 obtain ⟨r1,r2,r3,r4,r5,r6⟩:=k4 hp'
 refine ⟨r1,r2,r3,r4,fun k hkR hki hpk=>r5 _ (El.was_lt hp hkR) (fun e=>hki (El.was_inj hdp e)) hpk,?_⟩
 rw [El.raise_was]
 exact r6.of (hk _ r4 (by omega))
/-- the rows as lists -/
def rowsOf (R : Nat) (Wd : Nat -> Nat) (f : El.M) : List (List Nat):=(List.range R).map fun i=>(List.range (Wd i)).map (f i)
theorem rowsOf_length (R : Nat) (Wd : Nat -> Nat) (f : El.M) : (rowsOf R Wd f).length = R:=by simp [rowsOf]
theorem rowsOf_row (R : Nat) (Wd : Nat -> Nat) (f : El.M) (i : Nat) (hi : i < R) : (rowsOf R Wd f).getD i [] = (List.range (Wd i)).map (f i):=by
 simp [rowsOf,List.getD_eq_getElem?_getD,hi]
theorem range_getD (n : Nat) (r : Nat -> Nat) (j : Nat) (hj : j < n) : ((List.range n).map r).getD j 0 = r j:=by
 simp [List.getD_eq_getElem?_getD,hj]
/-- the numbers of a list of rows -/
def at2 (m : List (List Nat)) : El.M:=fun i j=>(m.getD i []).getD j 0
theorem MW.mat {base top T R cap : Nat} {Wd : Nat -> Nat} {f : El.M} {w : World} (h : MW base top T R Wd f w) (hR : R <= 1000000) : Mat w (.slice (some ⟨T,0,none⟩) R cap) (rowsOf R Wd f):=by
 obtain ⟨h1,h2,h3,B,h4⟩:=h
 refine ⟨_,cap,by rw [rowsOf_length],by rw [rowsOf_length]; omega,fun _=>⟨T,0,rfl,by omega,fun j hj=>?_⟩⟩
 rw [rowsOf_length] at hj
 obtain ⟨k1,k2,a,c,k3,_,k4⟩:=h4 j hj
 rw [rowsOf_row _ _ _ _ hj]
 refine ⟨_,by rw [Nat.zero_add]; exact k3,a,c,by simp,by simp; omega,fun x hx=>?_,fun hp=>?_⟩
 ·simp only [List.mem_map,List.mem_range] at hx
  obtain ⟨i,hi,rfl⟩:=hx
  exact ((k4 (by omega)).2.2.2.2.2 i hi).2.2
 ·simp only [List.length_map,List.length_range] at hp ⊢
  obtain ⟨r1,r2,r3,r4,r5,r6⟩:=k4 hp
  exact ⟨B j,0,r1,by omega,fun i hi=>by rw [Nat.zero_add,(r6 i hi).1,range_getD _ _ _ hi]⟩
/-- a list of rows that a call hands out -/
def NewM (base top : Nat) (w : World) (v : Value) (m : List (List Nat)) : Prop:=m.length <= 1000000 /\ ((v = .slice none 0 0 /\ m = []) \/ ∃ T cap Wd f,v = .slice (some ⟨T,0,none⟩) m.length cap /\ m = rowsOf m.length Wd f /\ MW base top T m.length Wd f w)
theorem NewM.nil (base top : Nat) (w : World) : NewM base top w (.slice none 0 0) []:=⟨by simp,.inl ⟨rfl,rfl⟩⟩
theorem NewM.mat {base top : Nat} {w : World} {v : Value} {m : List (List Nat)} (h : NewM base top w v m) : Mat w v m:=by
 obtain ⟨h1,h2⟩:=h
 rcases h2 with ⟨rfl,rfl⟩ | ⟨T,cap,Wd,f,rfl,e,h3⟩
 ·exact Mat.nil w
 ·have:=h3.mat (cap:=cap) h1
  rwa [<- e] at this
end Go.Proofs.YteapbbaollmniaaGreatDoor.C
/- The library's Clone, Grow and Concat at rows; lists that are made. -/
namespace Go.Proofs.YteapbbaollmniaaGreatDoor.C
open Go.RowKit
theorem makes_u8 (n : Nat) (hn : n <= 1000000) (w : World) : (Instr.makeSlice 136 (.int .i64 (n : Int)) (.int .i64 (n : Int))).run Tryz.prog w = .ok (.slice (some ⟨w.heap.size,0,none⟩) n n) (w.alloc (.cells (U8s (List.replicate n 0)) 5)):=by
 obtain ⟨i,hi,h1,h2,h3⟩:=el5.info
 rw [run_make w 136 5 i (.int .u8 0) Tryz.underlying136 hi h1 .i64 .i64 (n : Int) (n : Int) (by omega) (Int.le_refl _) (by rw [h3]; omega) (by omega)]
 have e : madeCells (Value.int .u8 0).cells (n * 1) = U8s (List.replicate n 0):=by
  apply Array.toList_inj.1
  have hz : (Value.int .u8 0).cells = #[.int .u8 0]:=rfl
  rw [hz,Nat.mul_one]
  apply List.ext_getElem
  ·simp [madeCells,U8s]
  ·intro k h1 h2
   simp [madeCells,U8s,Nat.mod_one]
 rw [h2,Int.toNat_natCast,e]
def noRows (n : Nat) : Array Value:=(List.replicate n (Value.slice none 0 0)).toArray
theorem makes_rows (n : Nat) (hn : n <= 1000000) (w : World) : (Instr.makeSlice 166 (.int .i64 (n : Int)) (.int .i64 (n : Int))).run Tryz.prog w = .ok (.slice (some ⟨w.heap.size,0,none⟩) n n) (w.alloc (.cells (noRows n) 136)):=by
 obtain ⟨i,hi,h1,h2,h3⟩:=el31.info
 rw [run_make w 166 136 i (.slice none 0 0) Tryz.underlying166 hi h1 .i64 .i64 (n : Int) (n : Int) (by omega) (Int.le_refl _) (by rw [h3]; omega) (by omega)]
 have e : madeCells (Value.slice none 0 0).cells (n * 1) = noRows n:=by
  apply Array.toList_inj.1
  have hz : (Value.slice none 0 0).cells = #[.slice none 0 0]:=rfl
  rw [hz,Nat.mul_one]
  apply List.ext_getElem
  ·simp [madeCells,noRows]
  ·intro k h1 h2
   simp [madeCells,noRows,Nat.mod_one]
 rw [h2,Int.toNat_natCast,e]
theorem MW.start {w : World} {n : Nat} (f : El.M) : MW w.heap.size (w.heap.size + 1) w.heap.size n (fun _=>0) f (w.alloc (.cells (noRows n) 136)):=by
 have hh:=Has.new w w.heap.size (noRows n) 136 rfl
 refine ⟨Nat.le_refl _,by omega,by simp,fun _=>0,fun i hi=>⟨hh.frozen i,Nat.zero_le _,none,0,?_,⟨Nat.le_refl _,by omega⟩,fun h=>absurd h (Nat.lt_irrefl 0)⟩⟩
 rw [hh.cell]; simp [noRows,hi]
theorem Owns.cut {base : Nat} {v : Value} {l : List Nat} {w : World} (h : Owns 5 base v (U8s l).toList w) (hp : 0 < l.length) : ∃ g cap,v = .slice (some ⟨g,0,none⟩) l.length cap /\ l.length <= cap /\ cap <= 9223372036854775807 /\ Owns 5 base (.slice (some ⟨g,0,none⟩) 0 cap) [] w:=by
 obtain ⟨h1,h2⟩:=h
 rw [U8s_toList_length] at h2
 rcases h2 with ⟨rfl,h0⟩ | ⟨g,cap,cur,rfl,hg,hh,k1,k2,k3,k4⟩
 ·omega
 ·exact ⟨g,cap,rfl,k1,by unfold maxLen at k2; omega,rfl,.inr ⟨g,cap,cur,rfl,hg,hh,Nat.zero_le _,k2,k3,by simp⟩⟩
theorem clone_any (v : Value) (l : List Nat) (w : World) (h : Row8 w v l) (hp : 0 < l.length) (hl : l.length <= 1000000) :
  Calls Tryz.prog 211 #[v] w fun e w'=>∃ r,e = .returned r /\ Owns 5 w.heap.size r (U8s l).toList w' /\ Below w.heap.size w w':=by
 have hR : Hid (∀ o,Row8 (w.alloc o) v l):=fun o=>h.below ((Below.refl _ _).alloc (Nat.le_refl _) _)
 obtain ⟨g,o,cap,rfl,_,hx,hg,hc⟩:=h.some hp
 have heq : ∀ W,(binOp .eql 136 (.slice (some ⟨g,o,none⟩) l.length cap) (.slice none 0 0)).run Tryz.prog W = .ok (.bool false) W:=fun W=>Lib.run_eql_slice_nil W 136 5 _ _ _ _ _ Tryz.underlying136
 clear hc h
 go_enter Tryz.func211,Tryz.ntmps211
 go_wp2_with (refine wpList_appR rfl (.tmp 5) (.tmp 6) rfl w.heap.size _ _ [] l rfl (by exact Owns.fresh w (Nat.le_refl _)) rfl (by exact hR.out _) (by simpa using hl) (by simp) ?_; intro v' w2 ho hgr hb)
 go_ret
 exact ⟨_,rfl,ho,((Below.refl _ _).alloc (Nat.le_refl _) _).trans hb⟩
theorem grow_any (n : Nat) (hn : n <= 1000000) (w : World) :
  Calls Tryz.prog 229 #[.slice none 0 0,.int .i64 (n : Int)] w fun e w'=>∃ r,e = .returned r /\ Owns 5 w.heap.size r [] w' /\ Below w.heap.size w w':=by
 by_cases h0 : n = 0
 ·subst h0
  go_enter Tryz.func229,Tryz.ntmps229
  go_wp2_with fail
  go_ret
  exact ⟨_,rfl,Owns.nil _ _ _,Below.refl _ _⟩
 ·have d0 : decide ((n : Int) < 0) = false:=by simp
  have d1 : decide ((0 : Int) < (n : Int)) = true:=by simp; omega
  go_enter Tryz.func229,Tryz.ntmps229
  go_wp2_with (refine wpList_appZ rfl (.tmp 20) (.tmp 21) rfl w.heap.size _ [] n rfl (by exact Owns.nil _ _ _) rfl (by omega) (by simpa using hn) (Nat.le_refl _) ?_; intro v' w2 ho hb; obtain ⟨g,cap,hv,k1,k2,k3⟩:=ho.cut (by simp; omega); rw [hv])
  go_ret
  exact ⟨_,rfl,k3,hb⟩
def flat (m : List (List Nat)) : List Nat:=m.flatten
theorem flat_take (m : List (List Nat)) (k : Nat) (hk : k < m.length) : flat (m.take k) ++ m.getD k [] = flat (m.take (k + 1)):=by
 rw [List.take_succ_eq_append_getElem hk]
 simp only [flat,List.flatten_append,List.flatten_cons,List.flatten_nil,List.append_nil,List.getD_eq_getElem?_getD,List.getElem?_eq_getElem hk,Option.getD_some]
theorem flat_le (m : List (List Nat)) (k : Nat) : (flat (m.take k)).length <= (flat m).length:=by
 have : flat m = flat (m.take k) ++ flat (m.drop k):=by
  unfold flat; rw [<- List.flatten_append,List.take_append_drop]
 rw [this]; simp
theorem concat_any (v : Value) (m : List (List Nat)) (w : World) (h : Mat w v m) (hl : (flat m).length <= 1000000) :
  Calls Tryz.prog 209 #[v] w fun e w'=>∃ r,e = .returned r /\ Owns 5 w.heap.size r (U8s (flat m)).toList w' /\ Below w.heap.size w w':=by
 obtain ⟨a,cap,rfl,hml,hrows⟩:=h
 have HS : Hid (∀ k,k < m.length -> flat (m.take k) ++ m.getD k [] = flat (m.take (k + 1)) /\ (flat (m.take (k + 1))).length <= 1000000):=fun k hk=>⟨flat_take m k hk,Nat.le_trans (flat_le m _) hl⟩
 have HE : Hid (flat (m.take m.length) = flat m):=by unfold Hid; rw [List.take_of_length_le (Nat.le_refl _)]
 have HL : Hid ((flat m).length <= 1000000):=hl
 have HR : Hid (0 < m.length -> ∃ g o,a = some ⟨g,o,none⟩ /\ g < w.heap.size /\ ∀ j,j < m.length -> ∃ r,w.cell? ⟨g,o + j,none⟩ = some r /\ Row8 w r (m.getD j [])):=hrows
 clear hrows hl
 generalize hn : m.length = n at *
 go_enter Tryz.func209,Tryz.ntmps209
 go_wp2_with fail
 go_loopw [3,11] (fun vs vi wr=>wr = w /\ ∃ k : Nat,k <= n /\ vi = .int .i64 (k : Int) /\ vs = .int .i64 (((flat (m.take k)).length : Nat) : Int)) (fun _ vi _=>n - (intOf vi).toNat)
 case atStart=>exact ⟨rfl,0,by omega,rfl,by simp [flat]⟩
 case round =>
  obtain ⟨rfl,k,hk,rfl,rfl⟩:=hrel
  by_cases hlt : k < n
  ·obtain ⟨g,o,rfl,hg,hd⟩:=HR.out (by omega)
   obtain ⟨r,c,hr⟩:=hd k hlt
   obtain ⟨a1,cap1,rfl,hl1,_,_⟩:=hr
   obtain ⟨s1,s2⟩:=HS.out k hlt
   have e1 : (flat (m.take (k + 1))).length = (flat (m.take k)).length + (m.getD k []).length:=by rw [<- s1]; simp
   have d0 : (k : Int) < (n : Int):=by omega
   rw [e1] at s2
   clear s1 hd
   generalize (m.getD k []).length = lk at *
   generalize (flat (m.take k)).length = sk at *
   have d1 : decide ((sk : Int) + (lk : Int) < 0) = false:=by simp; omega
   go_wp2_with fail
   exact ⟨⟨by simp,k + 1,by omega,rfl,by rw [e1]; simp⟩,by simp [intOf]; omega⟩
  ·obtain rfl : k = n:=by omega
   rw [HE.out]
   have hl:=HL.out
   obtain ⟨wo,hwo⟩ : ∃ wo,wo = wr:=⟨_,rfl⟩
   subst hwo
   generalize hT : (flat m).length = tt at *
   go_wp2_with fail
   refine (grow_any tt hl wo).mono ?_
   rintro e w1 ⟨r,rfl,ho,b1⟩
   go_wp2_with fail
   generalize hB : wo.heap.size = BS at *
   go_loopw [6,27] (fun vs vi W=>Below BS wo W /\ ∃ j : Nat,j <= k /\ vi = .int .i64 (j : Int) /\ Owns 5 BS vs (U8s (flat (m.take j))).toList W) (fun _ vi _=>k - (intOf vi).toNat)
   case atStart=>exact ⟨b1,0,by omega,rfl,ho⟩
   case round =>
    obtain ⟨hbW,j,hj,rfl,ho'⟩:=hrel
    have hsz : BS <= wr.heap.size:=by rw [<- hB]; exact hbW.size
    by_cases hjl : j < k
    ·obtain ⟨g,o,rfl,hg,hd⟩:=HR.out (by omega)
     obtain ⟨r,c,hr⟩:=hd j hjl
     have c1:=cell_below hbW hg c
     have hr1 : Hid (Row8 wr r (m.getD j [])):=hr.below (by rw [hB]; exact hbW)
     have hs : Hid _:=HS.out j hjl
     have hs63 : (flat (m.take j)).length + (m.getD j []).length <= 1000000:=by
      have:=hs.out.2
      rw [<- hs.out.1,List.length_append] at this; exact this
     have d0 : (j : Int) < (k : Int):=by omega
     clear hr c hd HR
     go_wp2_with (refine wpList_appR rfl (.tmp 31) (.tmp 32) rfl BS _ _ _ (m.getD j []) rfl (by exact ho') rfl (by exact hr1.out) (by exact hs63) (by exact hsz) ?_; intro v' w2 ho2 hgr2 hb2)
     rw [hs.out.1] at ho2
     exact ⟨⟨hbW.trans hb2,j + 1,by omega,rfl,ho2⟩,by simp [intOf]; omega⟩
    ·obtain rfl : j = k:=by omega
     rw [HE.out] at ho'
     go_wp2_with fail
     go_ret
     exact ⟨_,rfl,by rw [hB]; exact ho',by rw [hB]; exact hbW⟩
end Go.Proofs.YteapbbaollmniaaGreatDoor.C
/- Lists of rows that are made by append, each row in a block of its own. -/
namespace Go.Proofs.YteapbbaollmniaaGreatDoor.C
open Go.RowKit
end Go.Proofs.YteapbbaollmniaaGreatDoor.C
