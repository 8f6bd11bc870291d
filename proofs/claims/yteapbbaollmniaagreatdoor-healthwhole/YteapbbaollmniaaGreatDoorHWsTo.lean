/- Lists of bytes that a call made out of a string: what they hold, whatever mark their row bears behind its end; the law of append. -/
import Derived.Test.YteapbbaollmniaaGreatDoorHRoots
namespace Go.Proofs.YteapbbaollmniaaGreatDoor.H
open Go.RowKit
/-- the list v, made by the call itself, holds these cells; no cell of its row is frozen -/
def OwnsG (e : TypeId) (base : Nat) (v : Value) (xs : List Value) (w : World) : Prop :=
 (v = .slice none 0 0 /\ xs = []) \/ ∃ g cap cur fz,v = .slice (some ⟨g,0,none⟩) xs.length cap /\ base <= g /\ w.heap[g]? = some (.cells cur e fz) /\ (∀ j,j < cap -> (decide (fz.1 <= j) && decide (j < fz.2)) = false) /\ xs.length <= cap /\ cap <= maxLen /\ cur.size = cap /\ cur.toList.take xs.length = xs
theorem OwnsG.of {e : TypeId} {base : Nat} {v : Value} {xs : List Value} {w : World} (h : Owns e base v xs w) : OwnsG e base v xs w:=by
 obtain ⟨h1,h2⟩:=h
 rcases h2 with ⟨h2,h3⟩ | ⟨g,cap,cur,hv,hg,hh,h3,h4,h5,h6⟩
 ·exact .inl ⟨h2,List.eq_nil_of_length_eq_zero h3⟩
 ·exact .inr ⟨g,cap,cur,(0,0),hv,hg,hh,fun j _=>by simp,h3,h4,by simpa using h5,by simpa using h6⟩
theorem OwnsG.below {e : TypeId} {base : Nat} {v : Value} {xs : List Value} {w w' : World} (h : OwnsG e base v xs w) (hb : Below w.heap.size w w') : OwnsG e base v xs w':=by
 rcases h with h | ⟨g,cap,cur,fz,hv,hg,hh,h3⟩
 ·exact .inl h
 ·exact .inr ⟨g,cap,cur,fz,hv,hg,by rw [hb.block g (Array.getElem?_eq_some_iff.1 hh).1]; exact hh,h3⟩
theorem OwnsG.alloc {e : TypeId} {base : Nat} {v : Value} {xs : List Value} {w : World} (h : OwnsG e base v xs w) (o : Obj) : OwnsG e base v xs (w.alloc o) :=
 h.below ((Below.refl _ _).alloc (Nat.le_refl _) _)
theorem OwnsG.cell {e : TypeId} {base g cap n : Nat} {xs : List Value} {w : World} (h : OwnsG e base (.slice (some ⟨g,0,none⟩) n cap) xs w) (j : Nat) (hj : j < xs.length) : w.cell? ⟨g,j,none⟩ = xs[j]?:=by
 rcases h with ⟨h0,_⟩ | ⟨g',cap',cur,fz,hv,hg,hh,hf,h3,h4,h5,h6⟩
 ·simp at h0
 ·simp only [Value.slice.injEq,Option.some.injEq,Addr.mk.injEq] at hv
  obtain ⟨⟨rfl,_⟩,_,rfl⟩:=hv
  have hc : w.cell? ⟨g,j,none⟩ = cur[j]?:=by simp [World.cell?,hh]
  rw [hc]
  have h7 : xs[j]? = (cur.toList.take xs.length)[j]?:=by rw [h6]
  rw [h7,List.getElem?_take,if_pos hj]; simp
theorem OwnsG.form {e : TypeId} {base : Nat} {v : Value} {xs : List Value} {w : World} (h : OwnsG e base v xs w) (hp : 0 < xs.length) : ∃ g cap,v = .slice (some ⟨g,0,none⟩) xs.length cap /\ xs.length <= cap /\ cap <= maxLen /\ base <= g /\ g < w.heap.size:=by
 rcases h with ⟨_,h0⟩ | ⟨g,cap,cur,fz,hv,hg,hh,hf,h3,h4,_⟩
 ·subst h0; simp at hp
 ·exact ⟨g,cap,hv,h3,h4,hg,(Array.getElem?_eq_some_iff.1 hh).1⟩
theorem heap_setCells (b : Nat) (t : TypeId) (fz : Nat × Nat) : ∀ (vs : List Value) (o : Nat) (cs : List Value) (w : World),w.heap[b]? = some (.cells cs.toArray t fz) -> o + vs.length <= cs.length -> (w.setCells b o vs).heap[b]? = some (.cells (cs.take o ++ vs ++ cs.drop (o + vs.length)).toArray t fz)
 | [],o,cs,w,h,_=>by simpa [World.setCells] using h
 | v :: r,o,cs,w,h,hl=>by
  rw [World.setCells]
  have h1 : (w.setCell ⟨b,o,none⟩ v).heap[b]? = some (.cells (cs.set o v).toArray t fz):=by
   simp [World.setCell,Array.getElem?_modify,h]
  have h2:=heap_setCells b t fz r (o + 1) (cs.set o v) _ h1 (by simp at hl ⊢; omega)
  have e : (cs.set o v).take (o + 1) ++ r ++ (cs.set o v).drop (o + 1 + r.length) = cs.take o ++ (v :: r) ++ cs.drop (o + (v :: r).length):=by
   have ho : o < cs.length:=by simp at hl; omega
   have e1 : (cs.set o v).take (o + 1) = cs.take o ++ [v]:=by
    rw [List.take_succ_eq_append_getElem (by simpa using ho),List.take_set_of_le (Nat.le_refl _)]
    simp
   have e2 : (cs.set o v).drop (o + 1 + r.length) = cs.drop (o + (v :: r).length):=by
    rw [List.drop_set_of_lt (by omega)]; congr 1; simp; omega
   rw [e1,e2]; simp
  rw [e] at h2; exact h2
theorem heap_setCells_other (b k : Nat) (hk : k ≠ b) : ∀ (vs : List Value) (o : Nat) (w : World),(w.setCells b o vs).heap[k]? = w.heap[k]?
 | [],_,_=>rfl
 | v :: r,o,w=>by
  rw [World.setCells,heap_setCells_other b k hk r (o + 1),Below.heap_setCell _ _ _ _ hk]
theorem setCells_size (b : Nat) : ∀ (vs : List Value) (o : Nat) (w : World),(w.setCells b o vs).heap.size = w.heap.size /\ (w.setCells b o vs).os = w.os /\ (w.setCells b o vs).tape = w.tape /\ (w.setCells b o vs).output = w.output
 | [],_,_=>⟨rfl,rfl,rfl,rfl⟩
 | v :: r,o,w=>by
  rw [World.setCells]
  obtain ⟨a,b',c,d⟩:=setCells_size b r (o + 1) (w.setCell ⟨b,o,none⟩ v)
  exact ⟨a.trans (World.size_setCell _ _ _),b',c,d⟩
/-- append onto such a list -/
theorem run_append_ownG {t e : TypeId} {z : Value} {bytes : Nat} (E : Elem t e z bytes) (w : World) (ty : TypeId) (base : Nat) (v : Value) (xs : List Value) (hown : OwnsG e base v xs w)
  (b c : Nat) (news : Array Value) (hnews : Has w b news e) (h1 : ∀ u ∈ news.toList,u.oneCell' = true) (h63 : xs.length + news.size <= 1000000000000) (hbase : base <= w.heap.size) :
  ∃ v' w',(Builtin.append_ #[t,t] ty #[v,.slice (some ⟨b,0,none⟩) news.size c]).run Tryz.prog w = .ok v' w' /\ OwnsG e base v' (xs ++ news.toList) w' /\ Below base w w':=by
 obtain ⟨i,hi,hz0,hz1,hz2⟩:=E.info
 have hbd:=E.hb
 have hbytes : (xs.length + news.size) * bytes <= 140737488355328:=Nat.le_trans (Nat.mul_le_mul h63 hbd) (by decide)
 have hnb:=World.news_of_block hnews
 rcases hown with ⟨rfl,rfl⟩ | ⟨g,cap,cur,fz,rfl,hbg,hg,hfz,hnc,hcm,hcs,htake⟩
 ·obtain ⟨v',w',r1,r2,r3,_⟩:=run_append_own (P:=Tryz.prog) w base t ty e i z 1 bytes E.ht hi hz0 hz1 hz2 E.hz (by decide) (.slice none 0 0) 0 [] (World.ownsRow_nil w base e 1) ⟨b,0,none⟩ news.size c news.toList (by simp) hnb h1 (by unfold maxLen; simp at h63; omega) (by simpa using hbytes) hbase
  refine ⟨v',w',r1,OwnsG.of ?_,(Below.refl base w).grown r3 hbase (fun k hk=>by simp [Value.ownBlock] at hk)⟩
  show w'.ownsRow base e 1 v' ([] ++ news.toList).length ([] ++ news.toList)
  simpa using r2
 ·by_cases hroom : xs.length + news.size <= cap
  ·have hf:=run_firstCells_some (P:=Tryz.prog) w i.size news.size ⟨b,0,none⟩ news.size c news.toList (by simp [hz1]) hnb
   have hst:=run_storeCells_cells (P:=Tryz.prog) g xs.length news.toList 0 w
    (fun j hj=>by have hj' : j < news.size:=by simpa using hj
                  simp [World.cell?,hg]; omega)
    (fun j hj=>by have hj' : j < news.size:=by simpa using hj
                  have:=hfz (xs.length + 0 + j) (by omega)
                  simpa [World.frozen?,hg] using this) h1
   simp only [Nat.add_zero] at hst
   rw [hz1] at hf
   refine ⟨.slice (some ⟨g,0,none⟩) (xs.length + news.size) cap,w.setCells g xs.length news.toList,?_,?_,?_⟩
   ·simp [Builtin.append_,run_underlying E.ht,sizeOf,typeInfo,hi,Builtin.lenOf,hroom,hf,Addr.add_lit,hz1,hst]
   ·have hh:=heap_setCells g e fz news.toList xs.length cur.toList w (by simpa using hg) (by simp [hcs]; omega)
    refine .inr ⟨g,cap,_,fz,by simp,hbg,hh,hfz,by simpa using hroom,hcm,by simp [hcs]; omega,?_⟩
    rw [htake]
    exact List.take_left
   ·obtain ⟨a1,a2,a3,a4⟩:=setCells_size g news.toList xs.length w
    exact ⟨a2,a3,a4,Nat.le_of_eq a1.symm,fun k hk=>heap_setCells_other g k (by omega) _ _ _⟩
  ·have holds : ∀ j u,xs[j]? = some u -> w.cell? ((⟨g,0,none⟩ : Addr).add j) = some u:=fun j u hu=>by
    have hj : j < xs.length:=(List.getElem?_eq_some_iff.1 hu).1
    have hc:=OwnsG.cell (e:=e) (base:=base) (n:=xs.length) (cap:=cap) (.inr ⟨g,cap,cur,fz,rfl,hbg,hg,hfz,hnc,hcm,hcs,htake⟩) j hj
    rw [Addr.add_mid,Nat.zero_add,hc]; exact hu
   have hr:=run_append_grow (P:=Tryz.prog) w t ty e i z E.ht hi hz0 ⟨g,0,none⟩ xs.length cap xs (by simp [hz1]) holds ⟨b,0,none⟩ news.size c news.toList (by simp [hz1]) hnb (by omega) (by omega) (growslice_fits (by omega) (by rw [hz2]; exact hbytes))
   have hge:=grownCap_ge w (xs.length + news.size) cap e
   have hcm2 : grownCap w (xs.length + news.size) cap e <= maxLen:=grownCap_le_maxLen w (xs.length + news.size) cap e (by unfold maxLen; omega)
   refine ⟨_,_,hr,.inr ⟨w.heap.size,_,_,(0,0),by simp,hbase,heap_alloc_new w.drew _,fun j _=>by simp,by simpa using hge,hcm2,?_,?_⟩,⟨rfl,rfl,rfl,by simp,fun k hk=>heap_alloc_old w.drew _ (show k < w.drew.heap.size by have : w.drew.heap.size = w.heap.size:=rfl; omega)⟩⟩
   ·simp [size_zeroCells,E.hz]; omega
   ·simp only [Array.toList_append,List.append_assoc]
    rw [<- List.append_assoc]
    exact List.take_left
end Go.Proofs.YteapbbaollmniaaGreatDoor.H
/- The law of append once more: what stood in the list's cells stands there still. -/
namespace Go.Proofs.YteapbbaollmniaaGreatDoor.H
open Go.RowKit
/-- append onto such a list: the cells that it had stand where they stood -/
theorem run_append_kept {t e : TypeId} {z : Value} {bytes : Nat} (E : Elem t e z bytes) (w : World) (ty : TypeId) (base : Nat) (v : Value) (xs : List Value) (hown : OwnsG e base v xs w)
  (b c : Nat) (news : Array Value) (hnews : Has w b news e) (h1 : ∀ u ∈ news.toList,u.oneCell' = true) (h63 : xs.length + news.size <= 1000000000000) (hbase : base <= w.heap.size) :
  ∃ v' w',(Builtin.append_ #[t,t] ty #[v,.slice (some ⟨b,0,none⟩) news.size c]).run Tryz.prog w = .ok v' w' /\ OwnsG e base v' (xs ++ news.toList) w' /\ (∀ gg n cc,v = .slice (some ⟨gg,0,none⟩) n cc -> ∀ j,j < xs.length -> w'.cell? ⟨gg,j,none⟩ = xs[j]?) /\ Below base w w':=by
 obtain ⟨i,hi,hz0,hz1,hz2⟩:=E.info
 have hbd:=E.hb
 have hbytes : (xs.length + news.size) * bytes <= 140737488355328:=Nat.le_trans (Nat.mul_le_mul h63 hbd) (by decide)
 have hnb:=World.news_of_block hnews
 rcases hown with ⟨rfl,rfl⟩ | ⟨g,cap,cur,fz,rfl,hbg,hg,hfz,hnc,hcm,hcs,htake⟩
 ·obtain ⟨v',w',r1,r2,r3,_⟩:=run_append_own (P:=Tryz.prog) w base t ty e i z 1 bytes E.ht hi hz0 hz1 hz2 E.hz (by decide) (.slice none 0 0) 0 [] (World.ownsRow_nil w base e 1) ⟨b,0,none⟩ news.size c news.toList (by simp) hnb h1 (by unfold maxLen; simp at h63; omega) (by simpa using hbytes) hbase
  refine ⟨v',w',r1,OwnsG.of ?_,fun gg n cc h=>by simp at h,(Below.refl base w).grown r3 hbase (fun k hk=>by simp [Value.ownBlock] at hk)⟩
  show w'.ownsRow base e 1 v' ([] ++ news.toList).length ([] ++ news.toList)
  simpa using r2
 ·by_cases hroom : xs.length + news.size <= cap
  ·have hf:=run_firstCells_some (P:=Tryz.prog) w i.size news.size ⟨b,0,none⟩ news.size c news.toList (by simp [hz1]) hnb
   have hst:=run_storeCells_cells (P:=Tryz.prog) g xs.length news.toList 0 w
    (fun j hj=>by have hj' : j < news.size:=by simpa using hj
                  simp [World.cell?,hg]; omega)
    (fun j hj=>by have hj' : j < news.size:=by simpa using hj
                  have:=hfz (xs.length + 0 + j) (by omega)
                  simpa [World.frozen?,hg] using this) h1
   simp only [Nat.add_zero] at hst
   rw [hz1] at hf
   refine ⟨.slice (some ⟨g,0,none⟩) (xs.length + news.size) cap,w.setCells g xs.length news.toList,?_,?_,?_,?_⟩
   ·simp [Builtin.append_,run_underlying E.ht,sizeOf,typeInfo,hi,Builtin.lenOf,hroom,hf,Addr.add_lit,hz1,hst]
   ·have hh:=heap_setCells g e fz news.toList xs.length cur.toList w (by simpa using hg) (by simp [hcs]; omega)
    refine .inr ⟨g,cap,_,fz,by simp,hbg,hh,hfz,by simpa using hroom,hcm,by simp [hcs]; omega,?_⟩
    rw [htake]
    exact List.take_left
   ·intro gg n cc hv j hj
    simp only [Value.slice.injEq,Option.some.injEq,Addr.mk.injEq] at hv
    obtain ⟨⟨rfl,_⟩,_,rfl⟩:=hv
    have hh:=heap_setCells g e fz news.toList xs.length cur.toList w (by simpa using hg) (by simp [hcs]; omega)
    rw [htake] at hh
    simp only [World.cell?,hh]
    simp [List.getElem?_append_left hj,hj]
   ·obtain ⟨a1,a2,a3,a4⟩:=setCells_size g news.toList xs.length w
    exact ⟨a2,a3,a4,Nat.le_of_eq a1.symm,fun k hk=>heap_setCells_other g k (by omega) _ _ _⟩
  ·have holds : ∀ j u,xs[j]? = some u -> w.cell? ((⟨g,0,none⟩ : Addr).add j) = some u:=fun j u hu=>by
    have hj : j < xs.length:=(List.getElem?_eq_some_iff.1 hu).1
    have hc:=OwnsG.cell (e:=e) (base:=base) (n:=xs.length) (cap:=cap) (.inr ⟨g,cap,cur,fz,rfl,hbg,hg,hfz,hnc,hcm,hcs,htake⟩) j hj
    rw [Addr.add_mid,Nat.zero_add,hc]; exact hu
   have hr:=run_append_grow (P:=Tryz.prog) w t ty e i z E.ht hi hz0 ⟨g,0,none⟩ xs.length cap xs (by simp [hz1]) holds ⟨b,0,none⟩ news.size c news.toList (by simp [hz1]) hnb (by omega) (by omega) (growslice_fits (by omega) (by rw [hz2]; exact hbytes))
   have hge:=grownCap_ge w (xs.length + news.size) cap e
   have hcm2 : grownCap w (xs.length + news.size) cap e <= maxLen:=grownCap_le_maxLen w (xs.length + news.size) cap e (by unfold maxLen; omega)
   refine ⟨_,_,hr,.inr ⟨w.heap.size,_,_,(0,0),by simp,hbase,heap_alloc_new w.drew _,fun j _=>by simp,by simpa using hge,hcm2,?_,?_⟩,?_,⟨rfl,rfl,rfl,by simp,fun k hk=>heap_alloc_old w.drew _ (show k < w.drew.heap.size by have : w.drew.heap.size = w.heap.size:=rfl; omega)⟩⟩
   ·simp [size_zeroCells,E.hz]; omega
   ·simp only [Array.toList_append,List.append_assoc]
    rw [<- List.append_assoc]
    exact List.take_left
   ·intro gg n cc hv j hj
    simp only [Value.slice.injEq,Option.some.injEq,Addr.mk.injEq] at hv
    obtain ⟨⟨rfl,_⟩,_,rfl⟩:=hv
    have hc:=OwnsG.cell (e:=e) (base:=base) (n:=xs.length) (cap:=cap) (.inr ⟨g,cap,cur,fz,rfl,hbg,hg,hfz,hnc,hcm,hcs,htake⟩) j hj
    rw [<- hc]
    exact World.cell?_of_block (heap_alloc_old w.drew _ (show g < w.drew.heap.size from (Array.getElem?_eq_some_iff.1 hg).1))
theorem step_kept {t e : TypeId} {z : Value} {bytes : Nat} (E : Elem t e z bytes) {ops : Array Oper} {o : Oper} {a : Act} {w : World} {K : Act -> World -> Prop} {Q : Exit -> Act -> World -> Prop} {F : Prop} (hgd : o.guard = none) (s x : Operand)
  (ho : o.op = .call { callee:=.builtin .append,args:=#[s,x],argTypes:=#[t,t] }) (base : Nat) (v : Value) (xs : List Value) (hs : a.eval s = v) (hown : OwnsG e base v xs w)
  (b c : Nat) (news : Array Value) (hx : a.eval x = .slice (some ⟨b,0,none⟩) news.size c) (hnews : Has w b news e) (h1 : ∀ u ∈ news.toList,u.oneCell' = true) (h63 : xs.length + news.size <= 1000000000000) (hbase : base <= w.heap.size)
  (h : ∀ v' w',OwnsG e base v' (xs ++ news.toList) w' -> (∀ gg n cc,v = .slice (some ⟨gg,0,none⟩) n cc -> ∀ j,j < xs.length -> w'.cell? ⟨gg,j,none⟩ = xs[j]?) -> Below base w w' -> K (a.put o.dst v') w') :
  if Region.wanted o (yielded ops a.tmps) = true then Oper.wp Tryz.prog o a w K Q else F:=by
 rw [if_pos (by simp [Region.wanted,hgd])]
 obtain ⟨v',w',hr,h2,h3,h4⟩:=run_append_kept E w o.type base v xs hown b c news hnews h1 h63 hbase
 unfold Oper.wp execOp
 simp only [ho,resolve,invoke,builtin,Sem.run_bind,Sem.run_pure,Result.andThen_ok,List.map_toArray,List.map_cons,List.map_nil,hs,hx,hr]
 exact h v' w' h2 h3 h4
end Go.Proofs.YteapbbaollmniaaGreatDoor.H
/- The document's turn, digits and Hex: their contracts. -/
namespace Go.Proofs.YteapbbaollmniaaGreatDoor.H
open Go.RowKit
/-- the document's turn -/
theorem refTurn_any (x : Nat) (n : Int) (w : World) (hx : x < 4294967296) (h1 : 1 <= n) (h2 : n <= 31) :
  Calls Tryz.prog 117 #[.int .u32 x,.int .u32 n] w fun e w'=>e = .returned (.int .u32 (Sha.rotr x n.toNat : Nat)) /\ w' = w:=by
 obtain ⟨m,rfl⟩:=Int.eq_ofNat_of_zero_le (show 0 <= n by omega)
 go_enter Tryz.func117,Tryz.ntmps117
 go_wp2
 go_ret
 refine ⟨ret_int ?_,rfl⟩
 have e1 : ((x : Int) * 2 ^ (32 - m) % 4294967296) = ((x * 2 ^ (32 - m) % 4294967296 : Nat) : Int):=by simp
 have e2 : ((x : Int) / 2 ^ m) = ((x / 2 ^ m : Nat) : Int):=by simp
 rw [e1,e2,u32_or_nat _ _ (Nat.lt_of_le_of_lt (Nat.div_le_self _ _) hx) (Nat.mod_lt _ (by decide)),Int.toNat_natCast,Nat.or_comm]
 rfl
theorem refDigit_any (n : Nat) (hn : n < 16) (w : World) : Calls Tryz.prog 167 #[.int .u8 (n : Int)] w fun e w'=>e = .returned (.int .u8 ((Sha.hexChar n : Nat) : Int)) /\ w' = w:=by
 by_cases h : n < 10
 ·have e : ((Sha.hexChar n : Nat) : Int) = 48 + (n : Int):=by unfold Sha.hexChar; rw [if_pos h]; omega
  go_enter Tryz.func167,Tryz.ntmps167
  go_wp2
  go_ret
  exact ⟨ret_int (by rw [e]),rfl⟩
 ·have e : ((Sha.hexChar n : Nat) : Int) = 87 + (n : Int):=by unfold Sha.hexChar; rw [if_neg h]; omega
  go_enter Tryz.func167,Tryz.ntmps167
  go_wp2
  go_ret
  exact ⟨ret_int (by rw [e]; omega),rfl⟩
theorem U8s_app (l : List Nat) (a b : Nat) : (U8s l).toList ++ #[Value.int .u8 (a : Int),.int .u8 (b : Int)].toList = (U8s (l ++ [a] ++ [b])).toList:=by simp [U8s]
theorem conv_nil (w : World) : (convert 136 9 (.slice none 0 0)).run Tryz.prog w = .ok (.string ⟨#[]⟩) w:=by kernel_rfl
theorem Owns.has {base g cap n : Nat} {l : List Nat} {w : World} (h : Owns 5 base (.slice (some ⟨g,0,none⟩) n cap) (U8s l).toList w) : (loadCells ⟨g,0,none⟩ l.length).run Tryz.prog w = .ok (U8s l) w:=by
 have h2:=run_loadCells_list (P:=Tryz.prog) w ⟨g,0,none⟩ (U8s l).toList (fun j v hv=>by
  have hj : j < (U8s l).toList.length:=(List.getElem?_eq_some_iff.1 hv).1
  rw [Addr.add_mid,Nat.zero_add,h.cell j hj]; exact hv)
 rw [Array.length_toList,U8s_size] at h2
 rw [h2]
theorem conv_own {base : Nat} {v : Value} {l : List Nat} {w : World} (h : Owns 5 base v (U8s l).toList w) : (convert 136 9 v).run Tryz.prog w = .ok (.string (ofBs l)) w:=by
 by_cases hp : 0 < (U8s l).toList.length
 ·obtain ⟨g,cap,rfl,_⟩:=h.form hp
  have hl : (loadCells ⟨g,0,none⟩ (U8s l).toList.length).run Tryz.prog w = .ok ((l.map fun x : Nat=>(x : Int)).map (Value.int .u8)).toArray w:=by
   rw [Array.length_toList,U8s_size,h.has]
   simp [U8s]
  rw [run_convert_bytes_string w 136 9 5 _ _ _ Tryz.underlying136 Tryz.underlying5 Tryz.underlying9,run_bytesToString w _ _ _ _ hl,fold_push]
  simp [ofBs]
 ·have hl : l = []:=by
   rw [Array.length_toList,U8s_size] at hp
   exact List.eq_nil_of_length_eq_zero (by omega)
  subst hl
  obtain ⟨_,h2⟩:=h
  rcases h2 with ⟨rfl,_⟩ | ⟨g,cap,cur,rfl,_⟩
  ·exact conv_nil w
  ·have hl : (loadCells ⟨g,0,none⟩ (U8s []).toList.length).run Tryz.prog w = .ok (([] : List Int).map (Value.int .u8)).toArray w:=by
    have h3:=run_loadCells_list (P:=Tryz.prog) w ⟨g,0,none⟩ [] (by simp)
    exact h3
   rw [run_convert_bytes_string w 136 9 5 _ _ _ Tryz.underlying136 Tryz.underlying5 Tryz.underlying9,run_bytesToString w _ _ _ _ hl]
   rfl
set_option maxRecDepth 20000 in
set_option maxHeartbeats 1000000 in
theorem refHex_any (s : ByteArray) (hs : s.size <= 400000000000) (w : World) :
  Calls Tryz.prog 124 #[.string s] w fun e w'=>e = .returned (.string (ofBs (Sha.hex (bs s)))) /\ Below w.heap.size w w':=by
 go_enter Tryz.func124,Tryz.ntmps124
 go_wp2_with fail
 go_loopw [3,4] (fun v i wr=>∃ k : Nat,k <= s.size /\ i = .int .i64 (k : Int) /\ Owns 5 w.heap.size v (U8s (Sha.hex ((bs s).take k))).toList wr /\ Below w.heap.size w wr) (fun _ i _=>s.size - (intOf i).toNat)
 case atStart=>exact ⟨0,by omega,rfl,Owns.nil _ _ _,Below.refl _ _⟩
 case round =>
  obtain ⟨k,hk,rfl,h1,b1⟩:=hrel
  by_cases hlt : k < s.size
  ·have hx : s[k].toNat < 256:=s[k].toNat_lt
   have HS : Hid (Sha.hex ((bs s).take (k + 1)) = Sha.hex ((bs s).take k) ++ [Sha.hexChar (s[k].toNat / 16)] ++ [Sha.hexChar (s[k].toNat % 16)]):=by
    unfold Hid; rw [bs_take_succ s k hlt,hex_snoc]
   have hll : Hid ((Sha.hex ((bs s).take k)).length <= 2 * s.size):=by unfold Hid; rw [hex_length,List.length_take,bs_length]; omega
   have i0 : (0 : Int) <= (k : Int):=by omega
   have i1 : (k : Int) < (s.size : Int):=by omega
   have A1 : Hid (IntKind.u8.wrap ((s[k].toNat : Int) / 16) = ((s[k].toNat / 16 : Nat) : Int)):=by unfold Hid; rw [IntKind.wrap_u8']; omega
   have A2 : Hid ((s[k].toNat : Int).tmod 16 = ((s[k].toNat % 16 : Nat) : Int)):=by unfold Hid; rw [Int.tmod_eq_emod_of_nonneg (by omega)]; omega
   have l1 : Hid (s[k].toNat / 16 < 16):=by unfold Hid; omega
   have l2 : Hid (s[k].toNat % 16 < 16):=by unfold Hid; omega
   have hll2 : Hid ((U8s (Sha.hex ((bs s).take k))).toList.length + 2 <= 1000000000000):=by unfold Hid; rw [Array.length_toList,U8s_size]; have:=hll.out; omega
   generalize Sha.hex ((bs s).take k) = acc at h1 HS hll hll2
   go_wp2_with fail
   go_region_held3 (fun W=>Below w.heap.size w W) (first | exact b1.drew | exact hB | exact (belowAlloc b1 _).drew) (first
    | (go_at_call 167; (first | rw [A1.out] | rw [A2.out]); refine (refDigit_any _ (by omega) _).mono ?_; rintro e w' ⟨rfl,rfl⟩)
    | (refine step_app el5 rfl (.tmp 11) (.tmp 22) rfl w.heap.size u3 (U8s acc).toList rfl (by exact h1.alloc _) wr.heap.size _ #[Value.int .u8 ((Sha.hexChar (s[k].toNat / 16) : Nat) : Int),.int .u8 ((Sha.hexChar (s[k].toNat % 16) : Nat) : Int)] rfl (by exact Has.new _ _ _ _ rfl) (by simp [Value.oneCell']) (by simp) hll2.out (Nat.le_trans b1.size (by simp)) ?_; intro g cap w1 ho hg _ hb2; have hB : Below w.heap.size w w1:=((belowAlloc b1 _).drew).trans hb2))
   all_goals go_wp2
   all_goals go_light
   all_goals rw [U8s_app,<- HS.out] at ho
   all_goals exact ⟨⟨k + 1,by omega,by go_num,ho,hB⟩,by simp [intOf]; omega⟩
  ·obtain rfl : k = s.size:=by omega
   rw [List.take_of_length_le (by rw [bs_length]; exact Nat.le_refl _)] at h1
   have hcv:=conv_own h1
   go_wp2_with fail
   go_ret
   exact ⟨rfl,b1⟩
end Go.Proofs.YteapbbaollmniaaGreatDoor.H
/- A block's 64 numbers one by one; cells that stand below. -/
namespace Go.Proofs.YteapbbaollmniaaGreatDoor.H
open Go.RowKit
/-- the first i of a block's numbers -/
def wsTo (b : List Nat) (i : Nat) : List Nat:=(Sha.ws b).take i
theorem growN_get (n : Nat) (l : List Nat) (i : Nat) (h : i < l.length) : (Sha.growN n l).getD i 0 = l.getD i 0:=by
 induction n with
 | zero=>rfl
 | succ n ih =>
  rw [<- ih,Sha.growN,Sha.grow,List.getD_eq_getElem?_getD,List.getElem?_append_left (by rw [Sha.growN_length]; omega),<- List.getD_eq_getElem?_getD]
theorem growN_add (n m : Nat) (l : List Nat) : Sha.growN (n + m) l = Sha.growN m (Sha.growN n l):=by
 induction m with
 | zero=>rfl
 | succ m ih=>rw [Nat.add_succ,Sha.growN,ih]; rfl
theorem firstWs_get (b : List Nat) (n k : Nat) (h : k < n) : (Sha.firstWs b n).getD k 0 = Sha.word b k:=by
 rw [List.getD_eq_getElem?_getD]
 simp [Sha.firstWs,h]
theorem ws_low (b : List Nat) (k : Nat) (h : k < 16) : (Sha.ws b).getD k 0 = Sha.word b k :=
 Eq.trans (growN_get 48 (Sha.firstWs b 16) k (by rw [Sha.firstWs_length]; exact h)) (firstWs_get b 16 k h)
def nxt (L : List Nat) : Nat:=Sha.nextW (L.getD (L.length - 16) 0) (L.getD (L.length - 7) 0) (L.getD (L.length - 15) 0) (L.getD (L.length - 2) 0)
theorem grow_nxt (L : List Nat) : Sha.grow L = L ++ [nxt L]:=rfl
theorem nxt_at (L : List Nat) (n : Nat) (hn : L.length = n + 16) : nxt L = Sha.nextW (L.getD n 0) (L.getD (n + 9) 0) (L.getD (n + 1) 0) (L.getD (n + 14) 0):=by
 have h1 : L.length - 16 = n:=by omega
 have h2 : L.length - 7 = n + 9:=by omega
 have h3 : L.length - 15 = n + 1:=by omega
 have h4 : L.length - 2 = n + 14:=by omega
 unfold nxt
 rw [h1,h2,h3,h4]
theorem app_at (L : List Nat) (x n : Nat) (hn : L.length = n) : (L ++ [x]).getD n 0 = x:=by
 subst hn; simp
theorem app_old (L : List Nat) (x i : Nat) (hn : i < L.length) : (L ++ [x]).getD i 0 = L.getD i 0:=by
 rw [List.getD_eq_getElem?_getD,List.getElem?_append_left hn,<- List.getD_eq_getElem?_getD]
theorem grow_at (L : List Nat) (n : Nat) (hn : L.length = n + 16) : (Sha.grow L).getD (n + 16) 0 = Sha.nextW (L.getD n 0) (L.getD (n + 9) 0) (L.getD (n + 1) 0) (L.getD (n + 14) 0):=by
 rw [grow_nxt,app_at _ _ _ hn,nxt_at L n hn]
theorem grow_old (L : List Nat) (i : Nat) (hi : i < L.length) : (Sha.grow L).getD i 0 = L.getD i 0:=by
 rw [grow_nxt,app_old _ _ _ hi]
theorem growN_high (l : List Nat) (hl : l.length = 16) (n m : Nat) (h : n < m) : (Sha.growN m l).getD (n + 16) 0 = Sha.nextW ((Sha.growN m l).getD n 0) ((Sha.growN m l).getD (n + 9) 0) ((Sha.growN m l).getD (n + 1) 0) ((Sha.growN m l).getD (n + 14) 0):=by
 have hm : m = (n + 1) + (m - n - 1):=by omega
 have hn : (Sha.growN n l).length = n + 16:=by rw [Sha.growN_length,hl]; omega
 have hg : (Sha.growN (n + 1) l).length = n + 17:=by rw [Sha.growN_length,hl]; omega
 have e : ∀ i,i < n + 17 -> (Sha.growN m l).getD i 0 = (Sha.growN (n + 1) l).getD i 0:=fun i hi=>by
  rw [hm,growN_add (n + 1)]; exact growN_get _ _ _ (by rw [hg]; exact hi)
 have e2 : ∀ i,i < n + 16 -> (Sha.growN m l).getD i 0 = (Sha.growN n l).getD i 0:=fun i hi=>by
  rw [e i (by omega)]; exact grow_old _ _ (by rw [hn]; exact hi)
 rw [e _ (by omega),e2 n (by omega),e2 (n + 9) (by omega),e2 (n + 1) (by omega),e2 (n + 14) (by omega)]
 exact grow_at _ n hn
theorem ws_high (b : List Nat) (n : Nat) (h : n < 48) : (Sha.ws b).getD (n + 16) 0 = Sha.nextW ((Sha.ws b).getD n 0) ((Sha.ws b).getD (n + 9) 0) ((Sha.ws b).getD (n + 1) 0) ((Sha.ws b).getD (n + 14) 0) :=
 growN_high _ (Sha.firstWs_length b 16) n 48 h
theorem wsTo_length (b : List Nat) (k : Nat) (h : k <= 64) : (wsTo b k).length = k:=by unfold wsTo; rw [List.length_take,Sha.ws_length]; omega
theorem wsTo_get (b : List Nat) (k i : Nat) (h : i < k) : (wsTo b k).getD i 0 = (Sha.ws b).getD i 0:=by
 unfold wsTo; rw [List.getD_eq_getElem?_getD,List.getElem?_take,if_pos h,<- List.getD_eq_getElem?_getD]
theorem wsTo_succ (b : List Nat) (k : Nat) (h : k < 64) : wsTo b k ++ [(Sha.ws b).getD k 0] = wsTo b (k + 1):=take_app _ _ (by rw [Sha.ws_length]; exact h)
theorem ws_all (b : List Nat) (hbb : ∀ x ∈ b,x < 256) : ∀ x ∈ Sha.ws b,x < 4294967296:=growN_lt _ _ (firstWs_lt b hbb _)
theorem cell_below {w W : World} {N g i : Nat} {v : Option Value} (hb : Below N w W) (hg : g < N) (h : w.cell? ⟨g,i,none⟩ = v) : W.cell? ⟨g,i,none⟩ = v:=by
 rw [<- h]; unfold World.cell?; rw [hb.block g hg]
end Go.Proofs.YteapbbaollmniaaGreatDoor.H
