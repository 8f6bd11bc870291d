/- Health: what is brought over of the texts on stripe. -/
import Derived.Test.YteapbbaollmniaaGreatDoorHSBack
namespace Go.Proofs.YteapbbaollmniaaGreatDoor
open Go.RowKit Go.Maps
open W
variable {w0 w w' : World} {b : Nat} {V V' : Wd} {T T0 : Nat -> Prop} {σ : Type}
/-- the name of the shard of a store -/
def nmS (d : ByteArray) (i : Nat) : ByteArray:=H.ofBs (H.nm (H.bs d) (i : Int))
def askG (d : ByteArray) (nx : σ -> Nat -> ByteArray -> Int -> Bool × σ) : Nat -> Nat -> Wd -> σ -> Int × Wd × σ
 | 0,_,V,s=>(0,V,s)
 | n + 1,i,V,s =>
  if (getW V (i : Int) (nmS d i)).2 = 56 then (56,askW V (i : Int),s)
  else if (nx s i (getW V (i : Int) (nmS d i)).1 (getW V (i : Int) (nmS d i)).2).1 then askG d nx n (i + 1) (askW V (i : Int)) (nx s i (getW V (i : Int) (nmS d i)).1 (getW V (i : Int) (nmS d i)).2).2
  else (0,askW V (i : Int),(nx s i (getW V (i : Int) (nmS d i)).1 (getW V (i : Int) (nmS d i)).2).2)
theorem askG_succ (d : ByteArray) (nx : σ -> Nat -> ByteArray -> Int -> Bool × σ) (n i : Nat) (V : Wd) (s : σ) : askG d nx (n + 1) i V s = if (getW V (i : Int) (nmS d i)).2 = 56 then (56,askW V (i : Int),s) else if (nx s i (getW V (i : Int) (nmS d i)).1 (getW V (i : Int) (nmS d i)).2).1 then askG d nx n (i + 1) (askW V (i : Int)) (nx s i (getW V (i : Int) (nmS d i)).1 (getW V (i : Int) (nmS d i)).2).2 else (0,askW V (i : Int),(nx s i (getW V (i : Int) (nmS d i)).1 (getW V (i : Int) (nmS d i)).2).2):=rfl
theorem countW_small (V : Wd) : (countW V).calls = V.calls + 1 /\ (countW V).left <= V.left /\ (countW V).l = V.l:=by
 unfold countW
 split
 ·split
  ·exact ⟨rfl,Nat.le_refl _,rfl⟩
  ·exact ⟨rfl,Nat.sub_le _ _,rfl⟩
 ·exact ⟨rfl,Nat.le_refl _,rfl⟩
theorem askW_small (V : Wd) (i : Int) : (askW V i).calls <= V.calls + 1 /\ (askW V i).left <= V.left /\ (askW V i).l = V.l:=by
 unfold askW
 split
 ·exact ⟨Nat.le_of_eq (countW_small V).1,(countW_small V).2⟩
 ·exact ⟨Nat.le_succ _,Nat.le_refl _,rfl⟩
theorem nmS_size (d : ByteArray) (hd : d.size <= 1000) (i : Nat) (hi : i < 1000) : (nmS d i).size <= 1000000:=by
 unfold nmS H.nm
 rw [H.ofBs_size]
 have h1:=H.dec_length (i : Int) (by omega) (by omega)
 simp only [List.length_append,H.hex_length,H.bs_length,List.length_singleton]
 omega
end Go.Proofs.YteapbbaollmniaaGreatDoor
namespace Go.Proofs.YteapbbaollmniaaGreatDoor
open Go.RowKit Go.Maps
open W
variable {w0 w w' : World} {b : Nat} {V V' : Wd} {T T0 : Nat -> Prop}
theorem Has.ne {w : World} {p q : Nat} {cs ds : Array Value} {t u : TypeId} (h : Has w p cs t) (k : Has w q ds u) (hn : t ≠ u) : p ≠ q:=by
 intro e
 subst e
 unfold Has at h k
 rw [h] at k
 cases k
 exact hn rfl
theorem row_has {w : World} {base k n : Nat} {e : TypeId} {v : Value} {xs : List Value} (h : w.ownsRow base e k v n xs) {q : Nat} (hq : v.ownBlock = some q) : base <= q /\ ∃ cur,Has w q cur e:=by
 rcases h.2 with ⟨rfl,_⟩ | ⟨g,cap,cur,rfl,h2,h3,_⟩
 ·cases hq
 ·cases hq
  exact ⟨h2,cur,h3⟩
theorem Kpt.row (h : Kpt T w w') {base k n : Nat} {e : TypeId} {v : Value} {xs : List Value} (hr : w.ownsRow base e k v n xs) (hT : ∀ q,v.ownBlock = some q -> T q) : w'.ownsRow base e k v n xs:=row_block hr fun q hq _=>h.2 q (hT q hq)
def rdInts (s : List (Nat × ByteArray)) : List Value:=s.map fun p=>.int .i64 (p.1 : Int)
def rdStrs (s : List (Nat × ByteArray)) : List Value:=s.map fun p=>.string p.2
end Go.Proofs.YteapbbaollmniaaGreatDoor
namespace Go.Proofs.YteapbbaollmniaaGreatDoor
open Go.RowKit Go.Maps
open W
variable {w0 w w' : World} {b : Nat} {V V' : Wd} {T T0 : Nat -> Prop}
def dig (s : List Nat) : ByteArray:=H.ofBs (H.Sha.digest s)
def zsOf (l : List (Nat × ByteArray)) : List Int:=l.map fun p=>(p.1 : Int)
def psOf (l : List (Nat × ByteArray)) : List (List Nat):=l.map fun p=>C.bs p.2
theorem ints_of {w : World} {B : Nat} {v : Value} {s : List (Nat × ByteArray)} (h : w.ownsRow B 3 1 v s.length (rdInts s)) (hs : s.length <= 1000) (hi : ∀ p ∈ s,p.1 <= 1000) : C.Ints64 w v (zsOf s):=by
 have hl : (zsOf s).length = s.length:=by simp [zsOf]
 have hg : ∀ j,j < s.length -> (rdInts s)[j]? = some (.int .i64 ((zsOf s).getD j 0)):=fun j hj=>by
  unfold rdInts zsOf
  rw [List.getElem?_map,List.getD_eq_getElem?_getD,List.getElem?_map,List.getElem?_eq_getElem hj]
  rfl
 refine ⟨?_,fun j=>?_⟩
 ·rcases row_form h with ⟨rfl,h0,_⟩ | ⟨g,cap,rfl,h1,_,_,_,h5⟩
  ·exact ⟨none,0,by rw [hl,h0],by rw [hl]; omega,fun hp=>absurd hp (by rw [hl,h0]; decide)⟩
  ·refine ⟨some ⟨g,0,none⟩,cap,by rw [hl],by rw [hl]; omega,fun hp=>⟨g,0,rfl,h1,fun j hj=>?_⟩⟩
   rw [Nat.zero_add]
   exact h5 j _ (hg j (by rw [<- hl]; exact hj))
 ·by_cases hj : j < s.length
  ·have : (zsOf s).getD j 0 = ((s[j].1 : Nat) : Int):=by
    unfold zsOf
    rw [List.getD_eq_getElem?_getD,List.getElem?_map,List.getElem?_eq_getElem hj]
    rfl
   rw [this]
   have:=hi _ (List.getElem_mem hj)
   omega
  ·have : (zsOf s).getD j 0 = 0:=by
    rw [List.getD_eq_getElem?_getD,List.getElem?_eq_none (by rw [hl]; omega)]
    rfl
   rw [this]
   omega
theorem strs_of {w : World} {B : Nat} {v : Value} {s : List (Nat × ByteArray)} (h : w.ownsRow B 9 1 v s.length (rdStrs s)) (hs : s.length <= 1000) : C.Strs w v (psOf s):=by
 have hl : (psOf s).length = s.length:=by simp [psOf]
 have hgd : ∀ j,(psOf s).getD j [] = if hj : j < s.length then C.bs s[j].2 else []:=fun j=>by
  split
  ·rename_i hj
   unfold psOf
   rw [List.getD_eq_getElem?_getD,List.getElem?_map,List.getElem?_eq_getElem hj]
   rfl
  ·rename_i hj
   rw [List.getD_eq_getElem?_getD,List.getElem?_eq_none (by rw [hl]; omega)]
   rfl
 have hlt : ∀ i x,x ∈ (psOf s).getD i [] -> x < 256:=fun i x hx=>by
  rw [hgd] at hx
  split at hx
  ·exact H.bs_lt _ x hx
  ·cases hx
 rcases row_form h with ⟨rfl,h0,_⟩ | ⟨g,cap,rfl,h1,_,_,_,h5⟩
 ·exact ⟨none,0,by rw [hl,h0],by rw [hl]; omega,hlt,fun hp=>absurd hp (by rw [hl,h0]; decide)⟩
 ·refine ⟨some ⟨g,0,none⟩,cap,by rw [hl],by rw [hl]; omega,hlt,fun hp=>⟨g,0,rfl,h1,fun j hj=>?_⟩⟩
  rw [Nat.zero_add,hgd,dif_pos (by rw [<- hl]; exact hj),show C.ofBs (C.bs (s[j]'(by rw [<- hl]; exact hj)).2) = _ from H.ofBs_bs _]
  refine h5 j _ ?_
  unfold rdStrs
  rw [List.getElem?_map,List.getElem?_eq_getElem (by rw [<- hl]; exact hj)]
  rfl
end Go.Proofs.YteapbbaollmniaaGreatDoor
namespace Go.Proofs.YteapbbaollmniaaGreatDoor
open Go.RowKit Go.Maps
open W
section
variable {ev : Operand -> Value} {o : Oper} {w : World} {x y : Operand}
theorem rn_ix55 {g n c i : Nat} (ho : o.op = .indexAddr 63 x y) (hx : ev x = .slice (some ⟨g,0,none⟩) n c) (hy : ev y = .int .i64 (i : Int)) (hi : i < n) : (execOp ev o).run Tryz.prog w = .ok (.value (.pointer (some ⟨g,i * 2,none⟩))) w:=by
 have q : (i : Int) < (n : Int):=by omega
 simp [execOp,ho,hx,hy,go_sem,q]
theorem tl_eq (a c : ByteArray) : (a.toList = c.toList) = (a = c):=by
 rw [Lib.toList_data,Lib.toList_data]
 exact propext ⟨ba_ext,fun h=>by rw [h]⟩
theorem rn_eql64 {a c d f : ByteArray} (ho : o.op = .binOp .eql 101 x y 101) (hx : ev x = .agg #[.string a,.string c]) (hy : ev y = .agg #[.string d,.string f]) : (execOp ev o).run Tryz.prog w = .ok (.value (.bool (decide ((a,c) = (d,f))))) w:=by
 have : (binOp .eql 101 (.agg #[.string a,.string c]) (.agg #[.string d,.string f])).run Tryz.prog w = .ok (.bool (decide ((a,c) = (d,f)))) w:=by
  by_cases h1 : a = d
  ·subst h1
   by_cases h2 : c = f
   ·subst h2; simp [go_sem]
   ·simp [go_sem,tl_eq,h2]
  ·simp [go_sem,tl_eq,h1]
 have hg : ∀ a c : Array Value,(eqGuard .eql 101 x y (.agg a) (.agg c)).run Tryz.prog w = .ok () w:=fun a c=>run_eqGuard_agg _ _ _ _ _ _ _ (by kernel_rfl)
 simp [execOp,ho,hx,hy,this,hg]
end
variable {w0 w w' : World} {b : Nat} {V V' : Wd} {T T0 : Nat -> Prop}
theorem obj_at {w : World} {B : Nat} {v : Value} {os : List Ob} (h : w.ownsRow B 101 2 v os.length (objCells os)) {i : Nat} (hi : i < os.length) : ∃ g c,v = .slice (some ⟨g,0,none⟩) os.length c /\ w.cell? ⟨g,i * 2,none⟩ = some (.string (os.getD i (⟨#[]⟩,⟨#[]⟩)).1) /\ w.cell? ⟨g,i * 2 + 1,none⟩ = some (.string (os.getD i (⟨#[]⟩,⟨#[]⟩)).2):=by
 rcases row_form h with ⟨_,h0,_⟩ | ⟨g,cap,rfl,_,_,_,_,h5⟩
 ·omega
 ·have hg : os.getD i (⟨#[]⟩,⟨#[]⟩) = os[i]:=by rw [List.getD_eq_getElem?_getD,List.getElem?_eq_getElem hi]; rfl
  rw [hg]
  have hc : ∀ (l : List Ob) (k : Nat) (p : Ob),l[k]? = some p -> (objCells l)[k * 2]? = some (.string p.1) /\ (objCells l)[k * 2 + 1]? = some (.string p.2):=by
   intro l
   induction l with
   | nil=>intro k p hp; simp at hp
   | cons q r ih =>
    intro k p hp
    cases k with
    | zero=>simp at hp; subst hp; exact ⟨rfl,rfl⟩
    | succ k =>
     have e : objCells (q :: r) = .string q.1 :: .string q.2 :: objCells r:=rfl
     rw [e,show (k + 1) * 2 = k * 2 + 1 + 1 by omega]
     exact ih k p (by simpa using hp)
  have:=hc os i os[i] (List.getElem?_eq_getElem hi)
  exact ⟨g,cap,rfl,h5 _ _ this.1,h5 _ _ this.2⟩
end Go.Proofs.YteapbbaollmniaaGreatDoor
namespace Go.Proofs.YteapbbaollmniaaGreatDoor
open Go.RowKit Go.Maps
open W
set_option linter.unusedVariables false
section
variable {ev : Operand -> Value} {o : Oper} {w : World} {x y : Operand}
end
variable {w0 w w' : World} {b : Nat} {V V' : Wd} {T T0 : Nat -> Prop}
/-- a world of n stores, none of which is too great -/
structure Ok (M n : Nat) (V : Wd) : Prop where
 len : V.l.length = n
 fit : ∀ x ∈ V.l,Fit M x.st
 calls : V.calls <= M
 left : V.left < 9223372036854775808
theorem Fit.up {M M' : Nat} {s : St} (h : Fit M s) (hM : M <= M') : Fit M' s:={ h with seen:=Nat.le_trans h.seen hM,writes:=Nat.le_trans h.writes hM }
theorem Ok.more {M M' n : Nat} (h : Ok M n V) (hM : M <= M') : Ok M' n V:=⟨h.len,fun x hx=>Fit.up (h.fit x hx) hM,Nat.le_trans h.calls hM,h.left⟩
theorem Ok.count {M n : Nat} (h : Ok M n V) : Ok (M + 1) n (countW V):=by
 have hs:=countW_small V
 have hl:=h.left
 have hc:=h.calls
 exact ⟨by rw [hs.2.2]; exact h.len,fun x hx=>Fit.up (h.fit x (by rw [hs.2.2] at hx; exact hx)) (Nat.le_succ _),by omega,by omega⟩
theorem Ok.get {M n : Nat} (h : Ok M n V) (i : Int) : Ok (M + 1) n (askW V i):=by
 unfold askW
 split
 ·exact h.count
 ·exact h.more (Nat.le_succ _)
theorem Ok.ask {M n : Nat} (h : Ok M n V) (i : Int) {f : St -> Int × St} (hf : ∀ s,Fit M s -> Fit (M + 1) (f s).2) : Ok (M + 1) n (askS V i f).2:=by
 unfold askS
 split
 ·split
  ·exact h.count
  ·split
   ·rename_i x hx
    have hc:=h.count
    refine ⟨by show ((countW V).l.set i.toNat _).length = n; rw [List.length_set]; exact hc.len,fun y hy=>?_,hc.calls,hc.left⟩
    rcases List.mem_or_eq_of_mem_set hy with hy | hy
    ·exact hc.fit y hy
    ·rw [hy]
     have hm : x ∈ V.l:=by rw [(countW_small V).2.2] at hx; exact List.mem_of_getElem? hx
     exact hf x.st (h.fit x hm)
   ·exact h.count
 ·exact h.more (Nat.le_succ _)
theorem Ok.put {M n : Nat} (h : Ok M n V) (i : Int) (a d : ByteArray) : Ok (M + 1) n (askS V i fun s=>putS s a d).2:=h.ask i fun s hs=>put_fit hs a d
theorem Ok.sync {M n : Nat} (h : Ok M n V) (i : Int) : Ok (M + 1) n (askS V i W.sync).2:=h.ask i fun s hs=>by
 unfold W.sync
 split
 ·exact Fit.up hs (Nat.le_succ _)
 ·exact { hs with seen:=Nat.le_succ_of_le hs.seen,writes:=Nat.zero_le _,wnames:=fun q hq=>(by cases hq),was:=fun q hq=>(by cases hq),now:=fun q hq=>(by cases hq) }
variable {c1 c2 c3 gs sn sc B : Nat} {os : List Ob}
end Go.Proofs.YteapbbaollmniaaGreatDoor
namespace Go.Proofs.YteapbbaollmniaaGreatDoor
open Go.RowKit Go.Maps
open W
/-- no cut was said, the power is there -/
def Lit (V : Wd) : Prop:=V.cut = false /\ V.dark = false
variable {V : Wd}
theorem Lit.count (h : Lit V) : countW V = { V with calls:=V.calls + 1 }:=by
 unfold countW
 rw [if_neg (by rw [h.1]; decide)]
theorem Lit.get (h : Lit V) {i : Nat} {x : Kp} (hx : V.l[i]? = some x) (n : ByteArray) : getW V (i : Int) n = W.get x.st n /\ askW V (i : Int) = { V with calls:=V.calls + 1 }:=by
 have hi : i < V.l.length:=(List.getElem?_eq_some_iff.1 hx).1
 have hin : 0 <= (i : Int) /\ (i : Int) < (V.l.length : Int):=by omega
 unfold getW askW
 rw [if_pos hin,if_pos hin,h.count]
 refine ⟨?_,rfl⟩
 rw [if_neg (by show ¬ V.dark = true; rw [h.2]; decide)]
 show (match V.l[(i : Int).toNat]? with | some x=>W.get x.st n | none=>_) = _
 rw [Int.toNat_natCast,hx]
theorem Lit.ask (h : Lit V) {i : Nat} {x : Kp} (hx : V.l[i]? = some x) (f : St -> Int × St) : askS V (i : Int) f = ((f x.st).1,{ V with calls:=V.calls + 1,l:=V.l.set i { x with st:=(f x.st).2 } }):=by
 have hi : i < V.l.length:=(List.getElem?_eq_some_iff.1 hx).1
 have hin : 0 <= (i : Int) /\ (i : Int) < (V.l.length : Int):=by omega
 unfold askS
 rw [if_pos hin,h.count,if_neg (by show ¬ V.dark = true; rw [h.2]; decide)]
 show (match V.l[(i : Int).toNat]? with | some x=>_ | none=>_) = _
 rw [Int.toNat_natCast,hx]
theorem get_cut (s : St) (n : ByteArray) : (W.get s n).2 ≠ 56:=by
 unfold W.get
 split
 ·simp
 ·split <;> simp
end Go.Proofs.YteapbbaollmniaaGreatDoor
namespace Go.Proofs.YteapbbaollmniaaGreatDoor
open Go.RowKit Go.Maps
open W
/-- the bytes of a blob's shard -/
def shD (K N : Int) (bl : List Nat) (m : Nat) : ByteArray:=H.ofBs (H.dat K.toNat N.toNat m (H.bs (dig bl)) (C.payL K.toNat bl m))
theorem dat_length (k n j : Nat) (d p : List Nat) : (H.dat k n j d p).length = 43 + d.length + p.length:=by
 unfold H.dat H.pre H.be4
 simp only [List.length_append,List.length_cons,List.length_nil,H.digest_length]
 omega
theorem dig_len (bl : List Nat) : (dig bl).size = 32:=by
 unfold dig
 rw [H.ofBs_size,H.digest_length]
theorem sz_small {k n : Nat} (hk : 1 <= k) (hn : n <= 32768) : C.sz k n <= 32776:=by
 have h:=(C.sz_facts k n hk).2.1
 have : C.sz k n <= k * C.sz k n:=Nat.le_mul_of_pos_left _ (by omega)
 by_cases h2 : C.sz k n <= 32776
 ·exact h2
 ·exfalso
  have h3 : k * 32777 <= k * C.sz k n:=Nat.mul_le_mul_left k (by omega)
  have h4 : 8 + n + k <= k * 32777:=by
   have : k * 32777 = k * 32776 + k:=by omega
   have h5 : 1 * 32776 <= k * 32776:=Nat.mul_le_mul_right _ hk
   omega
  omega
theorem shD_size (K N : Int) (bl : List Nat) (m : Nat) : (shD K N bl m).size = 75 + C.sz K.toNat bl.length:=by
 unfold shD
 rw [H.ofBs_size,dat_length,H.bs_length,dig_len,C.payL_length]
variable {K N : Int} {bl : List Nat}
theorem nmS_len (d : ByteArray) (hd : d.size = 32) (m : Nat) (hm : m < 1000) : 0 < (nmS d m).size /\ (nmS d m).size <= 86:=by
 unfold nmS H.nm
 have h1:=H.dec_length (m : Int) (by omega) (by omega)
 rw [H.ofBs_size]
 simp only [List.length_append,H.hex_length,H.bs_length,List.length_singleton,hd]
 omega
/-- a store that answers, refuses nothing and has room -/
def Free (s : St) : Prop:=s.down = false /\ s.refuse = none /\ s.room = none
theorem put_free {s : St} (h : Free s) {n d : ByteArray} (hb : badName n d = false) : putS s n d = (0,{ s with live:=true,seen:=W.put (n,d) s.seen,writes:=s.writes ++ [⟨n,W.look n s.seen,some d⟩] }):=by
 obtain ⟨h1,h2,h3⟩:=h
 unfold putS tried counted over
 rw [if_neg (by rw [hb]; decide),if_neg (by rw [h1]; decide),h3]
 simp [h2,h3,setC]
theorem badName_not (hd : (dig bl).size = 32) (hb : bl.length <= 32768) (hK : 1 <= K) {m : Nat} (hm : m < 12) : badName (nmS (dig bl) m) (shD K N bl m) = false:=by
 have h1 : 0 < (nmS (dig bl) m).size /\ (nmS (dig bl) m).size <= 80:=by
  refine ⟨(nmS_len (dig bl) hd m (by omega)).1,?_⟩
  have hdl : (H.dec (m : Int)).length <= 2:=by
   have : m = 0 \/ m = 1 \/ m = 2 \/ m = 3 \/ m = 4 \/ m = 5 \/ m = 6 \/ m = 7 \/ m = 8 \/ m = 9 \/ m = 10 \/ m = 11:=by omega
   rcases this with rfl | rfl | rfl | rfl | rfl | rfl | rfl | rfl | rfl | rfl | rfl | rfl <;> decide +kernel
  unfold nmS H.nm
  rw [H.ofBs_size]
  simp only [List.length_append,H.hex_length,H.bs_length,List.length_singleton,hd]
  omega
 have h2:=shD_size K N bl m
 have h3:=sz_small (k:=K.toNat) (n:=bl.length) (by omega) hb
 unfold badName
 rw [decide_eq_false (by omega),decide_eq_false (by omega),decide_eq_false (by omega)]
 rfl
/-- the store that holds its shard, synced -/
def held (K N : Int) (bl : List Nat) (m : Nat) : St:=⟨[(nmS (dig bl) m,shD K N bl m)],[],false,none,none,true⟩
variable {V : Wd}
end Go.Proofs.YteapbbaollmniaaGreatDoor
namespace Go.Proofs.YteapbbaollmniaaGreatDoor
open Go.RowKit Go.Maps
open W
variable {K N : Int} {bl : List Nat} {V : Wd}
/-- what a store tells of its shard -/
def tells (K N : Int) (d : ByteArray) (m : Nat) (s : St) : ByteArray × Bool:=snd K N (nmS d m) (W.get s (nmS d m)).1
/-- the sound ones from i on -/
def sounds (K N : Int) (d : ByteArray) : Nat -> List Kp -> List (Nat × ByteArray)
 | _,[]=>[]
 | i,x :: r=>(if (tells K N d i x.st).2 then [(i,(tells K N d i x.st).1)] else []) ++ sounds K N d (i + 1) r
/-- a store that has its shard tells its payload -/
theorem tells_held (hm : C.Mx.mayC K N = true) (hb : bl.length <= 32768) {m : Nat} (hmn : (m : Int) < N) {s : St} (hs : W.get s (nmS (dig bl) m) = (shD K N bl m,0)) : tells K N (dig bl) m s = (C.ofBs (C.payL K.toNat bl m),true):=by
 have hKN : 1 <= K /\ K <= N /\ N <= 12:=by simpa [C.Mx.mayC] using hm
 have hpz : (C.ofBs (C.payL K.toNat bl m)).size = C.sz K.toNat bl.length:=by rw [show (C.ofBs (C.payL K.toNat bl m)).size = _ from H.ofBs_size _,C.payL_length]
 have hE : H.mkE K N (dig bl) (m : Int) (C.ofBs (C.payL K.toNat bl m)) = 0:=by
  unfold H.mkE H.okS H.okC
  rw [decide_eq_true hKN.1,decide_eq_true hKN.2.1,decide_eq_true hKN.2.2,decide_eq_true (dig_len bl),decide_eq_true (show 0 <= (m : Int) by omega),decide_eq_true hmn]
  have:=sz_small (k:=K.toNat) (n:=bl.length) (by omega) hb
  rw [if_pos (show (true && true && true && true && (true && true)) = true from rfl),if_pos (by rw [hpz]; omega)]
 have hN : H.mkN K N (dig bl) (m : Int) (C.ofBs (C.payL K.toNat bl m)) = nmS (dig bl) m:=by unfold H.mkN; rw [if_pos hE]; rfl
 have hD : H.mkD K N (dig bl) (m : Int) (C.ofBs (C.payL K.toNat bl m)) = shD K N bl m:=by
  unfold H.mkD
  rw [if_pos hE,show H.bs (C.ofBs (C.payL K.toNat bl m)) = C.payL K.toNat bl m from H.bs_ofBs _ (C.payL_lt _ _ _),Int.toNat_natCast]
  rfl
 have hr:=H.rd_mk hE
 rw [hN,hD] at hr
 unfold tells snd
 rw [hs]
 simp only
 rw [if_pos ⟨hr.1,hr.2.1,hr.2.2.1⟩,hr.2.2.2.2.2]
/-- what Decode tells of K true payloads, or more: the blob -/
theorem dec_blob (hm : C.Mx.mayC K N = true) (hb : bl.length <= 32768) (hlt : ∀ x ∈ bl,x < 256) {l : List (Nat × ByteArray)} (hz : C.goodZ N (zsOf l)) (hl : ∀ p ∈ l,p.2 = C.ofBs (C.payL K.toNat bl p.1)) (hK : K <= (l.length : Int)) {s : List Nat} {er : Int} (h : C.DecIs K N (zsOf l) (psOf l) s er) : s = bl /\ er = 0:=by
 have hlen : (zsOf l).length = (psOf l).length:=by simp [zsOf,psOf]
 have hzl : (zsOf l).length = l.length:=by simp [zsOf]
 have hpre : C.PreD K N (zsOf l) (psOf l):=⟨hm,hlen,hz⟩
 have hof : C.IsOf K.toNat (zsOf l) (psOf l) bl:=by
  refine ⟨hb,hlt,fun i hi=>?_⟩
  rw [hzl] at hi
  have e1 : (psOf l).getD i [] = C.bs l[i].2:=by
   unfold psOf
   rw [List.getD_eq_getElem?_getD,List.getElem?_map,List.getElem?_eq_getElem hi]
   rfl
  have e2 : (zsOf l).getD i 0 = (l[i].1 : Int):=by
   unfold zsOf
   rw [List.getD_eq_getElem?_getD,List.getElem?_map,List.getElem?_eq_getElem hi]
   rfl
  rw [e1,e2,hl _ (List.getElem_mem hi),Int.toNat_natCast]
  exact C.bs_ofBs _ (C.payL_lt _ _ _)
 exact h.one (.inr (.inr ⟨hpre,by rw [hzl]; omega,.inl ⟨hof,rfl⟩⟩))
end Go.Proofs.YteapbbaollmniaaGreatDoor
namespace Go.Proofs.YteapbbaollmniaaGreatDoor
open Go.RowKit Go.Maps
open W
variable {K N : Int} {bl : List Nat} {V : Wd}
/-- the sound ones have rising numbers, and say what their stores tell -/
theorem sounds_mem (d : ByteArray) : ∀ (i : Nat) (l : List Kp) (p : Nat × ByteArray),p ∈ sounds K N d i l -> i <= p.1 /\ p.1 < i + l.length /\ ∃ x,l[p.1 - i]? = some x /\ tells K N d p.1 x.st = (p.2,true)
 | _,[],p,h=>by cases h
 | i,x :: r,p,h=>by
  unfold sounds at h
  rcases List.mem_append.1 h with h | h
  ·cases ht : (tells K N d i x.st).2 with
   | false=>rw [ht] at h; simp at h
   | true =>
    rw [ht] at h
    simp at h
    subst h
    refine ⟨Nat.le_refl _,by simp,x,by simp,?_⟩
    rw [<- ht]
  ·obtain ⟨h1,h2,y,h3,h4⟩:=sounds_mem d (i + 1) r p h
   refine ⟨by omega,by simp; omega,y,?_,h4⟩
   rw [show p.1 - i = (p.1 - (i + 1)) + 1 by omega]
   simpa using h3
theorem sounds_rising (d : ByteArray) : ∀ (i : Nat) (l : List Kp),(sounds K N d i l).Pairwise fun p q=>p.1 < q.1
 | _,[]=>List.Pairwise.nil
 | i,x :: r=>by
  unfold sounds
  refine List.pairwise_append.2 ⟨?_,sounds_rising d (i + 1) r,fun p hp q hq=>?_⟩
  ·split
   ·exact List.pairwise_singleton _ _
   ·exact List.Pairwise.nil
  ·have:=(sounds_mem d (i + 1) r q hq).1
   split at hp
   ·simp at hp; subst hp; show i < q.1; omega
   ·cases hp
theorem goodZ_of {l : List (Nat × ByteArray)} (hr : l.Pairwise fun p q=>p.1 < q.1) (hN : ∀ p ∈ l,(p.1 : Int) < N) : C.goodZ N (zsOf l):=by
 have hz : ∀ j (hj : j < l.length),(zsOf l).getD j 0 = (l[j].1 : Int):=fun j hj=>by
  unfold zsOf
  rw [List.getD_eq_getElem?_getD,List.getElem?_map,List.getElem?_eq_getElem hj]
  rfl
 intro j hj
 have hj' : j < l.length:=by simpa [zsOf] using hj
 rw [hz j hj']
 refine ⟨⟨by omega,hN _ (List.getElem_mem hj')⟩,fun i hi=>?_⟩
 rw [hz i (by omega)]
 have:=List.pairwise_iff_getElem.1 hr i j (by omega) hj' hi
 omega
/-- a store that has nothing of its shard's name tells none -/
theorem tells_none {d : ByteArray} {m : Nat} {s : St} (h : (W.get s (nmS d m)).1 = ⟨#[]⟩) : tells K N d m s = (⟨#[]⟩,false):=by
 unfold tells snd
 rw [h,if_neg]
 intro hh
 have:=hh.1
 unfold H.rdOk at this
 rw [decide_eq_false (by decide)] at this
 simp at this
end Go.Proofs.YteapbbaollmniaaGreatDoor
namespace Go.Proofs.YteapbbaollmniaaGreatDoor
open Go.RowKit Go.Maps
open W
variable {K N : Int} {bl : List Nat} {V : Wd} {m : Nat} {s : St}
theorem may_of (h : C.Mx.mayC K N = true) : 1 <= K /\ K <= N /\ N <= 12:=by
 unfold C.Mx.mayC at h
 simp only [decide_eq_true_eq] at h
 omega
/-- what such faults leave of a store that held its shard -/
structure Left (K N : Int) (bl : List Nat) (m : Nat) (s : St) : Prop where
 wr : s.writes = []
 seen : s.seen = [] \/ ∃ d,s.seen = [(nmS (dig bl) m,d)] /\ (d = shD K N bl m \/ H.rdOk (nmS (dig bl) m) d = false)
 fit : Fit 100 s
theorem fit_one {s : St} (hw : s.writes = []) (h1 : s.seen.length <= 1) (h2 : ∀ p ∈ s.seen,p.1.size <= 80) (h3 : ∀ p ∈ s.seen,p.2.size <= 65536) (h4 : ∀ k,s.refuse = some k -> k < 9223372036854775808) (h5 : ∀ k,s.room = some k -> k < 9223372036854775808) : Fit 100 s :=
 have e : ∀ q ∈ s.writes,False:=fun q hq=>by rw [hw] at hq; cases hq
 ⟨Nat.le_trans h1 (by decide),by rw [hw]; exact Nat.zero_le _,h2,h3,fun q hq=>(e q hq).elim,fun q hq=>(e q hq).elim,fun q hq=>(e q hq).elim,h4,h5⟩
theorem bent_size (d : ByteArray) (a y : Nat) : (bent d a y).size = d.size:=by
 unfold bent
 show (W.ofBs _).data.size = _
 unfold W.ofBs
 rw [List.size_toArray,List.length_map,List.length_set,W.bs_length]
theorem drop_one (n d : ByteArray) : drop n [(n,d)] = []:=by simp [drop]
theorem put_one (n d e : ByteArray) : W.put (n,e) [(n,d)] = [(n,e)]:=by
 unfold W.put
 rw [drop_one]
 rfl
theorem stk_one (p : Ob) (n : Nat) : stk [p] n = some p:=by
 unfold stk
 rw [show ([p] : List Ob).length = 1 from rfl,Nat.mod_one]
 rfl
/-- a fault that makes of no object a sound one that it was not -/
theorem Left.strike (h : Left K N bl m s) (k n a c : Int) (hn : n < 9223372036854775808) (hno : ∀ p ∈ (strikeS s k n a c).2.seen,H.rdOk p.1 p.2 = true -> p ∈ s.seen) : Left K N bl m (strikeS s k n a c).2:=by
 obtain ⟨hw,hs,hf⟩:=h
 have h1 : s.seen.length <= 1:=by
  rcases hs with e | ⟨d,e,_⟩ <;> rw [e] <;> simp
 unfold strikeS at hno ⊢
 split
 ·exact ⟨hw,hs,hf⟩
 ·rename_i hb
  rw [if_neg hb] at hno
  simp only at hno ⊢
  split at hno
  ·exact ⟨rfl,.inl rfl,fit_one rfl (by simp) (fun p hp=>by cases hp) (fun p hp=>by cases hp) hf.refuse hf.room⟩
  ·clear hno
   unfold loseS
   rcases hs with e | ⟨d,e,hd⟩
   ·rw [stk_none (by rw [e]; rfl)]
    exact ⟨rfl,.inl e,fit_one rfl h1 hf.names hf.datas hf.refuse hf.room⟩
   ·have e2 : stk s.seen n.toNat = some (nmS (dig bl) m,d):=by rw [e,stk_one]
    rw [e2]
    simp only
    rw [e,drop_one]
    exact ⟨rfl,.inl rfl,fit_one rfl (by simp) (fun p hp=>by cases hp) (fun p hp=>by cases hp) hf.refuse hf.room⟩
  ·unfold bendS at hno ⊢
   rcases hs with e | ⟨d,e,hd⟩
   ·rw [stk_none (by rw [e]; rfl)]
    exact ⟨rfl,.inl e,fit_one rfl h1 hf.names hf.datas hf.refuse hf.room⟩
   ·have e2 : stk s.seen n.toNat = some (nmS (dig bl) m,d):=by rw [e,stk_one]
    rw [e2] at hno ⊢
    simp only at hno ⊢
    split
    ·exact ⟨rfl,.inr ⟨d,e,hd⟩,fit_one rfl h1 hf.names hf.datas hf.refuse hf.room⟩
    ·rename_i hz
     rw [if_neg hz] at hno
     simp only at hno
     rw [e,put_one] at hno ⊢
     have hx:=hno _ (List.mem_singleton.2 rfl)
     have hsz:=hf.datas (nmS (dig bl) m,d) (by rw [e]; exact List.mem_singleton.2 rfl)
     have hnm:=hf.names (nmS (dig bl) m,d) (by rw [e]; exact List.mem_singleton.2 rfl)
     refine ⟨rfl,.inr ⟨bent d a.toNat c.toNat,rfl,?_⟩,fit_one rfl (by simp) (fun p hp=>?_) (fun p hp=>?_) hf.refuse hf.room⟩
     ·cases hr : H.rdOk (nmS (dig bl) m) (bent d a.toNat c.toNat) with
      | false=>exact .inr rfl
      | true =>
       have:=List.mem_singleton.1 (hx hr)
       rw [Prod.mk.injEq] at this
       rw [this.2] at hr ⊢
       rcases hd with hd | hd
       ·exact .inl hd
       ·rw [hr] at hd; cases hd
     ·rw [List.mem_singleton.1 hp]; exact hnm
     ·rw [List.mem_singleton.1 hp]
      show (bent d a.toNat c.toNat).size <= 65536
      rw [bent_size]; exact hsz
  ·exact ⟨hw,hs,fit_one hw h1 hf.names hf.datas hf.refuse hf.room⟩
  ·exact ⟨hw,hs,fit_one hw h1 hf.names hf.datas hf.refuse hf.room⟩
  ·exact ⟨hw,hs,fit_one hw h1 hf.names hf.datas (fun k hk=>by cases hk; omega) hf.room⟩
  ·exact ⟨hw,hs,fit_one hw h1 hf.names hf.datas hf.refuse (fun k hk=>by cases hk; omega)⟩
/-- nothing is under way: the power's going changes nothing -/
theorem Left.crash (h : Left K N bl m s) (ks : List Int) : crashS s ks = s:=by
 obtain ⟨hw,_,_⟩:=h
 unfold crashS
 rw [hw]
 show ({ s with writes:=[],seen:=s.seen } : St) = s
 cases s
 simp only at hw
 rw [hw]
theorem held_sizes (hm : C.Mx.mayC K N = true) (hb : bl.length <= 32768) (hmn : (m : Int) < N) : (nmS (dig bl) m).size <= 80 /\ (shD K N bl m).size <= 65536:=by
 have hk:=may_of hm
 have:=badName_not (K:=K) (N:=N) (bl:=bl) (m:=m) (by rw [dig_len]) hb hk.1 (by omega)
 unfold badName at this
 simp only [Bool.or_eq_false_iff,decide_eq_false_iff_not] at this
 omega
theorem Left.held (hm : C.Mx.mayC K N = true) (hb : bl.length <= 32768) (hmn : (m : Int) < N) : Left K N bl m (held K N bl m):=by
 obtain ⟨h1,h2⟩:=held_sizes (bl:=bl) hm hb hmn
 refine ⟨rfl,.inr ⟨_,rfl,.inl rfl⟩,fit_one rfl (by simp [Proofs.YteapbbaollmniaaGreatDoor.held]) (fun p hp=>?_) (fun p hp=>?_) (fun k hk=>by cases hk) (fun k hk=>by cases hk)⟩
 ·rw [List.mem_singleton.1 hp]; exact h1
 ·rw [List.mem_singleton.1 hp]; exact h2
/-- does a store answer, with its one object as it was? -/
def isLeft (was : ByteArray) (s : St) : Bool:=!s.down && (decide (s.seen.length = 1) && decide ((s.seen.getD 0 (⟨#[]⟩,⟨#[]⟩)).2 = was))
theorem look_one (n d : ByteArray) : W.look n [(n,d)] = some d:=by simp [W.look]
theorem Left.told (h : Left K N bl m s) (hm : C.Mx.mayC K N = true) (hb : bl.length <= 32768) (hmn : (m : Int) < N) : tells K N (dig bl) m s = if isLeft (shD K N bl m) s then (C.ofBs (C.payL K.toNat bl m),true) else (⟨#[]⟩,false):=by
 obtain ⟨hw,hs,hf⟩:=h
 unfold isLeft
 cases hd : s.down with
 | true =>
  rw [if_neg (by simp)]
  exact tells_none (by unfold W.get; rw [hd]; rfl)
 | false =>
  rcases hs with e | ⟨d,e,hx⟩
  ·rw [if_neg (by rw [e]; simp)]
   refine tells_none ?_
   unfold W.get
   rw [hd,e]
   rfl
  ·have hg : W.get s (nmS (dig bl) m) = (d,0):=by
    unfold W.get
    rw [hd,e,look_one]
    rfl
   by_cases hds : d = shD K N bl m
   ·rw [if_pos (by rw [e]; simp [hds])]
    exact tells_held hm hb hmn (by rw [hg,hds])
   ·rw [if_neg (by rw [e]; simp [hds])]
    rcases hx with hx | hx
    ·exact absurd hx hds
    ·unfold tells snd
     rw [hg,if_neg (fun h=>by rw [hx] at h; exact absurd h.1 (by decide))]
end Go.Proofs.YteapbbaollmniaaGreatDoor
namespace Go.Proofs.YteapbbaollmniaaGreatDoor
open Go.RowKit Go.Maps
open W
variable {K N : Int} {bl : List Nat} {V : Wd} {m : Nat} {s : St} {G : Nat -> Prop}
theorem left_held : isLeft (shD K N bl m) (held K N bl m) = true:=by
 unfold isLeft held
 simp
end Go.Proofs.YteapbbaollmniaaGreatDoor
namespace Go.Proofs.YteapbbaollmniaaGreatDoor
open Go.RowKit Go.Maps
open W
variable {w0 w w' : World} {b : Nat} {V V' : Wd} {T : Nat -> Prop}
theorem WT.objs (h : WT w0 w b V T) (hs : ∀ x ∈ V.l,x.st.seen.length <= 1000000) (i : Int) : Calls Tryz.prog 26 #[ptr b,.int .i64 i] w fun e w'=>∃ v,e = .returned v /\ w'.ownsRow w.heap.size 101 2 v (objsW V i).length (objCells (objsW V i)) /\ Below w.heap.size w w':=by
 obtain ⟨S,g,h1,_⟩:=h
 exact wobjs_any h1 hs i
theorem WT.strike (h : WT w0 w b V T) {N : Nat} (hF : ∀ x ∈ V.l,Fit N x.st) (hN : N <= 1000000) (k t n a c : Int) (hk0 : 0 <= k) (hk : k < 256) (hn : n < 9223372036854775808) (ha : a < 9223372036854775808) : Calls Tryz.prog 20 #[ptr b,fv k t n a c] w fun e w'=>e = .returned (er (strikeW V k t n a c).1) /\ WT w0 w' b (strikeW V k t n a c).2 T /\ Kpt T w w':=by
 obtain ⟨S,g,h1,_,kk⟩:=h.go
 exact (wstrike_any h1 hF hN k t n a c hk0 hk hn ha).mono fun _ _ ⟨e1,e2⟩=>⟨e1,kk _ _ e2⟩
theorem WT.crash (h : WT w0 w b V T) (hn : V.l.length <= 1000) {N : Nat} (hF : ∀ x ∈ V.l,Fit N x.st /\ (x.st.writes ≠ [] -> x.st.live = true)) (hN : N <= 400000) (lv : Value) (sv : List Sv) (hlv : RdS w0 lv sv) (hsl : sv.length <= 9223372036854775807) : Calls Tryz.prog 18 #[ptr b,lv] w fun e w'=>e = .returned (er 0) /\ WT w0 w' b (crashW V sv) T /\ Kpt T w w':=by
 obtain ⟨S,g,h1,hS,kk⟩:=h.go
 exact (wcrash_any h1 hn hF hN h.base hS lv sv hlv hsl).mono fun _ _ ⟨e1,e2⟩=>⟨e1,kk _ _ e2⟩
theorem WT.copy (h : WT w0 w b V T) (hL : 0 < V.l.length /\ V.l.length <= 1000) (hw : ∀ x ∈ V.l,x.st.writes.length <= 1000000) : Calls Tryz.prog 24 #[ptr b] w fun e w'=>∃ b',e = .returned (ptr b') /\ ∃ l',WT w w' b' { V with l:=l' } (fun _=>False) /\ sameK l' V.l /\ Below w.heap.size w w':=by
 obtain ⟨S,g,h1,_⟩:=h
 refine (wcopy_any h1 hL hw).mono ?_
 rintro _ w' ⟨b',rfl,g',S',l',a1,a2,a3,a4⟩
 exact ⟨b',rfl,l',⟨S',g',a1,a3,a4,fun _ hi=>hi.elim⟩,a2,a4⟩
end Go.Proofs.YteapbbaollmniaaGreatDoor
namespace Go.Proofs.YteapbbaollmniaaGreatDoor
open Go.RowKit Go.Maps
open W
variable {w0 w w' : World} {b : Nat} {V V' : Wd} {T : Nat -> Prop}
/-- a world made behind w may be said to be made since w0: all that lies below w is beside it -/
theorem WT.rebase {w1 : World} (h : WT w1 w b V T) (hb : Below w0.heap.size w0 w1) : WT w0 w b V (fun i=>i < w1.heap.size):=by
 obtain ⟨S,g,h1,h2,h3,_⟩:=h
 refine ⟨S,g,h1,fun i hi=>Nat.le_trans hb.size (h2 i hi),hb.trans (h3.mono hb.size),fun i hi=>⟨fun hS=>?_,Nat.lt_of_lt_of_le hi h3.size⟩⟩
 have:=h2 i hS
 omega
/-- an elder world: it lies below N -/
def Old (N : Nat) (w0 w : World) (b : Nat) (V : Wd) (T : Nat -> Prop) : Prop:=∃ S g,IsWd w S b g V /\ (∀ i,S i -> w0.heap.size <= i /\ i < N) /\ Below w0.heap.size w0 w /\ N <= w.heap.size /\ ∀ i,T i -> ¬ S i /\ i < N
theorem WT.old (h : WT w0 w b V T) : Old w.heap.size w0 w b V T:=by
 obtain ⟨S,g,h1,h2,h3,h4⟩:=h
 exact ⟨S,g,h1,fun i hi=>⟨h2 i hi,h1.bound i hi⟩,h3,Nat.le_refl _,h4⟩
theorem Old.back {N : Nat} (h : Old N w0 w b V T) : WT w0 w b V T:=by
 obtain ⟨S,g,h1,h2,h3,h5,h4⟩:=h
 exact ⟨S,g,h1,fun i hi=>(h2 i hi).1,h3,fun i hi=>⟨(h4 i hi).1,Nat.lt_of_lt_of_le (h4 i hi).2 h5⟩⟩
theorem Old.kept {N : Nat} (h : Old N w0 w b V T) (hk : Kpt (fun i=>i < N) w w') (hb : Below w0.heap.size w0 w') : Old N w0 w' b V T:=by
 obtain ⟨S,g,h1,h2,h3,h5,h4⟩:=h
 exact ⟨S,g,h1.only (S':=fun i=>N <= i) ⟨hb.os.trans h3.os.symm,hb.tape.trans h3.tape.symm,hb.output.trans h3.output.symm,hk.1,fun i _ hn=>hk.2 i (by omega)⟩ (fun i hi hN=>by have:=(h2 i hi).2; omega),h2,hb,Nat.le_trans h5 hk.1,h4⟩
theorem Old.below {N : Nat} (h : Old N w0 w b V T) (hb : Below w.heap.size w w') : Old N w0 w' b V T:=by
 obtain ⟨S,g,h1,h2,h3,h5,h4⟩:=id h
 exact h.kept ⟨hb.size,fun i hi=>hb.block i (Nat.lt_of_lt_of_le hi h5)⟩ (h3.trans (hb.mono h3.size))
section
variable (a b c : Nat) (s t u : Bool) (n : Nat)
set_option maxRecDepth 100000
end
end Go.Proofs.YteapbbaollmniaaGreatDoor
namespace Go.Proofs.YteapbbaollmniaaGreatDoor
open Go.RowKit Go.Maps
open W
set_option linter.unusedVariables false
section
variable {w0 w w' : World} {b : Nat} {V V' : Wd} {T : Nat -> Prop}
theorem WT.only2 {T' : Nat -> Prop} (h : WT w0 w b V T) (ho : Only T' w w') (hs : ∀ i,T' i -> T i) (hT : ∀ i,T' i -> w0.heap.size <= i) : WT w0 w' b V T:=by
 obtain ⟨S,g,h1,h2,h3,h4⟩:=h
 exact ⟨S,g,h1.only ho (fun i hi hT=>(h4 i (hs i hT)).1 hi),h2,h3.trans (ho.below h3.size hT),fun i hi=>⟨(h4 i hi).1,Nat.lt_of_lt_of_le (h4 i hi).2 ho.size⟩⟩
theorem strikeB (h : WT w0 w b V T) (hF : ∀ x ∈ V.l,Fit 100 x.st) {k t n a c : Int} (hs : (0 <= k /\ k < 256) /\ n < 9223372036854775808 /\ a < 9223372036854775808) {z : Int} (he : strikeW V k t n a c = (z,V')) (Q : Ending -> World -> Prop) (hq : ∀ w',WT w0 w' b V' T -> Kpt T w w' -> Q (.returned (.int .i64 z)) w') : Calls Tryz.prog 20 #[.pointer (some ⟨b,0,none⟩),.agg #[.int .u8 k,.int .i64 t,.int .i64 n,.int .i64 a,.int .i64 c]] w Q:=by
 have:=h.strike hF (by decide) k t n a c hs.1.1 hs.1.2 hs.2.1 hs.2.2
 rw [he] at this
 refine this.mono ?_
 rintro _ w' ⟨rfl,a1,a2⟩
 exact hq w' a1 a2
end
section
variable {ev : Operand -> Value} {o : Oper} {w : World} {x y : Operand}
end
end Go.Proofs.YteapbbaollmniaaGreatDoor
namespace Go.Proofs.YteapbbaollmniaaGreatDoor
open Go.RowKit Go.Maps
open W
set_option linter.unusedVariables false
variable {w0 w w' : World} {b : Nat} {V V' : Wd} {T : Nat -> Prop}
/-- the fault makes of no object of its store a sound shard that it was not -/
def Fair (V : Wd) (k t n a c : Int) : Prop:=∀ p ∈ objsW (strikeW V k t n a c).2 t,H.rdOk p.1 p.2 = true -> p ∈ objsW V t
theorem sameK_at {l l' : List Kp} (h : sameK l' l) {i : Nat} {x : Kp} (hx : l[i]? = some x) : ∃ y,l'[i]? = some y /\ y.st = x.st /\ y.sus = x.sus:=by
 have:=congrArg (fun z=>z[i]?) h
 simp only [List.getElem?_map,hx,Option.map_some] at this
 cases hy : l'[i]? with
 | none=>rw [hy] at this; simp at this
 | some y =>
  rw [hy] at this
  simp only [Option.map_some,Option.some.injEq,Prod.mk.injEq] at this
  exact ⟨y,rfl,this.1,this.2⟩
theorem sameK_len {l l' : List Kp} (h : sameK l' l) : l'.length = l.length:=by
 have:=congrArg List.length h
 simpa using this
/-- a copy is struck as it is -/
theorem strike_copy {l' : List Kp} (h : sameK l' V.l) (k t n a c : Int) : objsW (strikeW { V with l:=l' } k t n a c).2 t = objsW (strikeW V k t n a c).2 t:=by
 have hl:=sameK_len h
 by_cases ht : 0 <= t /\ t < (V.l.length : Int)
 ·obtain ⟨x,hx⟩ : ∃ x,V.l[t.toNat]? = some x:=⟨_,List.getElem?_eq_getElem (by omega)⟩
  obtain ⟨y,hy,e1,e2⟩:=sameK_at h hx
  have hi : t.toNat < V.l.length:=(List.getElem?_eq_some_iff.1 hx).1
  have hi' : t.toNat < l'.length:=(List.getElem?_eq_some_iff.1 hy).1
  unfold strikeW
  rw [if_pos ht,if_pos (show 0 <= t /\ t < (l'.length : Int) by omega)]
  rw [show ({ V with l:=l' } : Wd).l[t.toNat]? = some y from hy,hx]
  simp only
  rw [e1]
  unfold objsW
  simp only [List.length_set]
  rw [if_pos ht,if_pos (show 0 <= t /\ t < (l'.length : Int) by omega),List.getElem?_set_self hi,List.getElem?_set_self hi']
 ·unfold strikeW
  rw [if_neg ht,if_neg (show ¬ (0 <= t /\ t < (({ V with l:=l' } : Wd).l.length : Int)) by show ¬ (0 <= t /\ t < (l'.length : Int)); omega)]
  unfold objsW
  rw [if_neg ht,if_neg (show ¬ (0 <= t /\ t < (({ V with l:=l' } : Wd).l.length : Int)) by show ¬ (0 <= t /\ t < (l'.length : Int)); omega)]
theorem sameK_fit {l l' : List Kp} (h : sameK l' l) {N : Nat} (hF : ∀ x ∈ l,Fit N x.st) : ∀ x ∈ l',Fit N x.st:=fun x hx=>by
 have hm : (x.st,x.sus) ∈ l'.map (fun x=>(x.st,x.sus)):=List.mem_map.2 ⟨x,hx,rfl⟩
 rw [h] at hm
 obtain ⟨y,hy,e⟩:=List.mem_map.1 hm
 rw [Prod.mk.injEq] at e
 rw [<- e.1]
 exact hF y hy
theorem strikeS_len (s : St) (k n a c : Int) : (strikeS s k n a c).2.seen.length <= s.seen.length + 1:=by
 unfold strikeS
 split
 ·simp
 ·simp only
  split <;> try simp
  ·unfold loseS
   simp only
   split
   ·omega
   ·exact Nat.le_succ_of_le (length_drop_le _ _)
  ·unfold bendS
   split
   ·simp
   ·split
    ·simp
    ·exact length_put_le _ _
theorem strikeW_len (h : ∀ x ∈ V.l,Fit 100 x.st) (k t n a c : Int) : ∀ x ∈ (strikeW V k t n a c).2.l,x.st.seen.length <= 1000000:=by
 unfold strikeW
 split
 ·split
  ·rename_i y hy
   intro x hx
   rcases List.mem_or_eq_of_mem_set hx with hx | hx
   ·exact Nat.le_trans (h x hx).seen (by decide)
   ·rw [hx]
    have:=strikeS_len y.st k n a c
    have:=(h y (List.mem_of_getElem? hy)).seen
    show (strikeS y.st k n a c).2.seen.length <= _
    omega
  ·exact fun x hx=>Nat.le_trans (h x hx).seen (by decide)
 ·exact fun x hx=>Nat.le_trans (h x hx).seen (by decide)
/-- objects that can be read: their cells -/
theorem row_objs {w w' : World} {B : Nat} {v : Value} {l : List Ob} (h : w.ownsRow B 101 2 v l.length (objCells l)) (hl : 0 < l.length) : ∃ g c,v = .slice (some ⟨g,0,none⟩) l.length c /\ g < w.heap.size /\ ∀ (j : Nat) (p : Ob),l[j]? = some p -> w.cell? ⟨g,j * 2,none⟩ = some (.string p.1) /\ w.cell? ⟨g,j * 2 + 1,none⟩ = some (.string p.2):=by
 obtain ⟨g,c,e,h1,h2⟩:=obj_at h hl
 refine ⟨g,c,e,World.block_lt_of_cell? (h:=h1),fun j p hp=>?_⟩
 have hj:=(List.getElem?_eq_some_iff.1 hp).1
 obtain ⟨g',c',e',h1',h2'⟩:=obj_at h hj
 rw [e] at e'
 cases e'
 rw [List.getD_eq_getElem?_getD,hp] at h1' h2'
 exact ⟨h1',h2'⟩
section
variable {ev : Operand -> Value} {o : Oper} {w : World} {x y z : Operand}
end
end Go.Proofs.YteapbbaollmniaaGreatDoor
namespace Go.Proofs.YteapbbaollmniaaGreatDoor
open Go.RowKit Go.Maps
open W
set_option linter.unusedVariables false
variable {w0 w w' : World} {b : Nat} {V V' : Wd} {T : Nat -> Prop}
theorem rd_form (a s : ByteArray) : ∃ (a0 a1 a3 z : Int) (a2 a4 : ByteArray),H.rdV a s = .tuple #[.agg #[.int .i64 a0,.int .i64 a1,.string a2,.int .i64 a3,.string a4],.int .i64 z] /\ ((z = 0 /\ H.rdOk a s = true) \/ (z = 4 /\ H.rdOk a s = false)):=by
 unfold H.rdV
 cases h : H.rdOk a s with
 | true=>exact ⟨_,_,_,_,_,_,rfl,.inl ⟨rfl,rfl⟩⟩
 | false=>exact ⟨_,_,_,_,_,_,rfl,.inr ⟨rfl,rfl⟩⟩
theorem objsW_len {M : Nat} (h : ∀ x ∈ V.l,x.st.seen.length <= M) (i : Int) : (objsW V i).length <= M:=by
 unfold objsW
 split
 ·split
  ·rename_i x hx
   exact h x (List.mem_of_getElem? hx)
  ·exact Nat.zero_le _
 ·exact Nat.zero_le _
/-- is an object among these? -/
def inB (p : Ob) (l : List Ob) : Bool:=l.any fun r=>decide ((r.1,r.2) = (p.1,p.2))
theorem inB_mem {p : Ob} {l : List Ob} : inB p l = true ↔ p ∈ l:=by
 unfold inB
 rw [List.any_eq_true]
 constructor
 ·rintro ⟨r,hr,e⟩
  have : r = p:=of_decide_eq_true e
  rw [<- this]; exact hr
 ·exact fun h=>⟨p,h,decide_eq_true rfl⟩
theorem inB_succ {l : List Ob} {j : Nat} {p q : Ob} (hq : l[j]? = some q) : inB p (l.take (j + 1)) = (inB p (l.take j) || decide ((q.1,q.2) = (p.1,p.2))):=by
 unfold inB
 rw [List.take_add_one,hq,List.any_append]
 simp
end Go.Proofs.YteapbbaollmniaaGreatDoor
namespace Go.Proofs.YteapbbaollmniaaGreatDoor
open Go.RowKit Go.Maps
open W
set_option linter.unusedVariables false
variable {w0 w w' : World} {b : Nat} {V V' : Wd} {T : Nat -> Prop} {K N : Int} {bl : List Nat}
/-- a fault -/
structure Flt where
 k : Int
 t : Int
 n : Int
 a : Int
 c : Int
def fcells (x : Flt) : List Value:=[.int .u8 x.k,.int .i64 x.t,.int .i64 x.n,.int .i64 x.a,.int .i64 x.c]
def FltOk (x : Flt) : Prop:=(0 <= x.k /\ x.k < 256) /\ x.n < 9223372036854775808 /\ x.a < 9223372036854775808
/-- a list of faults that can be read -/
def RdF (w : World) (v : Value) (l : List Flt) : Prop:=((∃ A c,v = .slice A 0 c /\ l = []) \/ ∃ g o cap,0 < l.length /\ v = .slice (some ⟨g,o,none⟩) l.length cap /\ g < w.heap.size /\ ∀ (j : Nat) (x : Flt),l[j]? = some x -> ∀ (i : Nat) (u : Value),(fcells x)[i]? = some u -> w.cell? ⟨g,o + j * 5 + i,none⟩ = some u) /\ ∀ x ∈ l,FltOk x
theorem RdF.form {v : Value} {l : List Flt} (h : RdF w v l) : ∃ a c,v = .slice a l.length c:=by
 rcases h.1 with ⟨A,c,rfl,rfl⟩ | ⟨g,o,cap,_,rfl,_,_⟩
 ·exact ⟨_,_,rfl⟩
 ·exact ⟨_,_,rfl⟩
/-- a world of n stores, of each of which P holds -/
structure WI (n : Nat) (P : Nat -> St -> Prop) (V : Wd) : Prop where
 lit : Lit V
 len : V.l.length = n
 st : ∀ (m : Nat) (x : Kp),V.l[m]? = some x -> P m x.st
 calls : V.calls <= 100
 left : V.left = 0
theorem WI.all {n : Nat} {P : Nat -> St -> Prop} (h : WI n P V) {R : St -> Prop} (hP : ∀ m s,m < n -> P m s -> R s) : ∀ x ∈ V.l,R x.st:=fun x hx=>by
 obtain ⟨m,hm,e⟩:=List.getElem_of_mem hx
 exact hP m x.st (by rw [<- h.len]; exact hm) (h.st m x (List.getElem?_eq_some_iff.2 ⟨hm,e⟩))
theorem WI.ok {n : Nat} {P : Nat -> St -> Prop} (h : WI n P V) (hP : ∀ m s,m < n -> P m s -> Fit 100 s) : Ok 100 V.l.length V:=⟨rfl,h.all hP,h.calls,by rw [h.left]; decide⟩
theorem WI.fresh {l : List Kp} {n : Nat} (hl : l.length = n) (hx : ∀ x ∈ l,x.st = st0 /\ x.sus = false) : WI n (fun _ s=>s = st0) (newW l):=⟨⟨rfl,rfl⟩,hl,fun m x h=>(hx x (List.mem_of_getElem? h)).1,Nat.zero_le _,rfl⟩
theorem crashW_at {sv : List Sv} {m : Nat} {y : Kp} (h : (crashW V sv).l[m]? = some y) : ∃ x,V.l[m]? = some x /\ y.st = crashS x.st (keepOf sv m):=by
 have h' : (V.l.mapIdx (crashK sv))[m]? = some y:=h
 rw [List.getElem?_mapIdx] at h'
 cases hx : V.l[m]? with
 | none=>rw [hx] at h'; simp at h'
 | some x =>
  rw [hx] at h'
  simp only [Option.map_some,Option.some.injEq] at h'
  subst h'
  exact ⟨x,rfl,rfl⟩
theorem crashW_len (sv : List Sv) : (crashW V sv).l.length = V.l.length:=by
 show (V.l.mapIdx (crashK sv)).length = _
 rw [List.length_mapIdx]
theorem bl_of (s : ByteArray) : (∀ x ∈ H.bs s,x < 256) /\ C.ofBs (H.bs s) = s /\ (H.bs s).length = s.size:=⟨H.bs_lt s,H.ofBs_bs s,H.bs_length s⟩
theorem fit_st : Fit 100 st0:=fit_one rfl (by simp [st0]) (fun p hp=>by cases hp) (fun p hp=>by cases hp) (fun k hk=>by cases hk) (fun k hk=>by cases hk)
end Go.Proofs.YteapbbaollmniaaGreatDoor
namespace Go.Proofs.YteapbbaollmniaaGreatDoor
open Go.RowKit Go.Maps
open W
set_option linter.unusedVariables false
section
variable {ev : Operand -> Value} {o : Oper} {w : World} {x y z : Operand}
theorem rn_eql3 {u v : Int} {r : Bool} (ho : o.op = .binOp .eql 3 x y 3) (hx : ev x = .int .i64 u) (hy : ev y = .int .i64 v) (hr : decide (u = v) = r) : (execOp ev o).run Tryz.prog w = .ok (.value (.bool r)) w:=by
 subst hr
 have q : (u == v) = decide (u = v):=by by_cases h : u = v <;> simp [h]
 simp [execOp,ho,hx,hy,go_sem,q]
end
variable {w0 w w' : World} {b : Nat} {V V' : Wd} {T : Nat -> Prop} {K N : Int} {bl : List Nat} {n : Nat}
abbrev LeftW (K N : Int) (bl : List Nat) (n : Nat) (V : Wd) : Prop:=WI n (Left K N bl) V
theorem LeftW.crash (h : LeftW K N bl n V) (sv : List Sv) : LeftW K N bl n (crashW V sv):=⟨⟨rfl,rfl⟩,by rw [crashW_len]; exact h.len,fun m y hy=>by
 obtain ⟨x,hx,e⟩:=crashW_at hy
 rw [e,(h.st m x hx).crash]
 exact h.st m x hx,h.calls,rfl⟩
theorem LeftW.fit (h : LeftW K N bl n V) : ∀ x ∈ V.l,Fit 100 x.st:=h.all fun m s _ hs=>hs.fit
theorem LeftW.fit2 (h : LeftW K N bl n V) : ∀ x ∈ V.l,Fit 100 x.st /\ (x.st.writes ≠ [] -> x.st.live = true):=h.all (R:=fun s=>Fit 100 s /\ (s.writes ≠ [] -> s.live = true)) fun m s _ hs=>⟨hs.fit,fun hw=>absurd hs.wr hw⟩
theorem LeftW.strike (h : LeftW K N bl n V) {fk ft fn fa fc : Int} (hn : fn < 9223372036854775808) (hv : V' = V \/ (Fair V fk ft fn fa fc /\ V' = (strikeW V fk ft fn fa fc).2)) : LeftW K N bl n V':=by
 rcases hv with rfl | ⟨hf,rfl⟩
 ·exact h
 ·unfold Fair at hf
  unfold strikeW at hf ⊢
  by_cases ht : 0 <= ft /\ ft < (V.l.length : Int)
  ·rw [if_pos ht] at hf ⊢
   obtain ⟨x,hx⟩ : ∃ x,V.l[ft.toNat]? = some x:=⟨_,List.getElem?_eq_getElem (by omega)⟩
   have hi:=(List.getElem?_eq_some_iff.1 hx).1
   rw [hx] at hf ⊢
   simp only at hf ⊢
   have hs:=(h.st _ x hx).strike fk fn fa fc hn (by
    unfold objsW at hf
    simp only [List.length_set] at hf
    rw [if_pos ht,if_pos ht,hx,List.getElem?_set_self hi] at hf
    exact hf)
   refine ⟨h.lit,by show (V.l.set _ _).length = n; rw [List.length_set]; exact h.len,fun m y hy=>?_,h.calls,h.left⟩
   have hy' : (V.l.set ft.toNat _)[m]? = some y:=hy
   by_cases e : ft.toNat = m
   ·subst e
    rw [List.getElem?_set_self hi] at hy'
    cases hy'
    exact hs
   ·rw [List.getElem?_set_ne e] at hy'
    exact h.st m y hy'
  ·rw [if_neg ht]
   exact h
theorem up_at {k : Nat} {x : Kp} (hx : V.l[k]? = some x) : upW V (k : Int) = !x.st.down:=by
 have hi:=(List.getElem?_eq_some_iff.1 hx).1
 unfold upW
 rw [if_pos (by omega),Int.toNat_natCast,hx]
/-- the list of faults, where it can be read -/
theorem RdF.at {v : Value} {l : List Flt} (h : RdF w v l) (hb : Below w.heap.size w w') {k : Nat} {x : Flt} (hx : l[k]? = some x) : ∃ g o c,v = .slice (some ⟨g,o,none⟩) l.length c /\ FltOk x /\ ∀ (i : Nat) (u : Value),(fcells x)[i]? = some u -> w'.cell? ⟨g,o + k * 5 + i,none⟩ = some u:=by
 rcases h.1 with ⟨A,c,rfl,e⟩ | ⟨g,o,cap,_,rfl,hg,hc⟩
 ·rw [e] at hx; simp at hx
 ·exact ⟨g,o,cap,rfl,h.2 x (List.mem_of_getElem? hx),fun i u hu=>by rw [hb.cell (p:=⟨g,o + k * 5 + i,none⟩) hg]; exact hc k x hx i u hu⟩
end Go.Proofs.YteapbbaollmniaaGreatDoor
