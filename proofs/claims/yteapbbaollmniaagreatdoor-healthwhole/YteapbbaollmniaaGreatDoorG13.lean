/- Health's laws: how many are sound; Of and Mend of no world. -/
import Derived.Test.YteapbbaollmniaaGreatDoorG10
namespace Go.Proofs.YteapbbaollmniaaGreatDoor
open Go.RowKit Go.Maps
open W
set_option linter.unusedVariables false
variable {w0 w w' : World} {b : Nat} {V V' : Wd} {T : Nat -> Prop} {K N : Int} {bl : List Nat} {n k m : Nat}
/-- how many of a list are true -/
def cntT (l : List Bool) : Nat:=l.countP id
theorem cntT_snoc (l : List Bool) {k : Nat} (hk : k < l.length) : cntT (l.take (k + 1)) = cntT (l.take k) + if l.getD k false then 1 else 0:=by
 unfold cntT
 rw [List.take_add_one,List.countP_append,List.getD_eq_getElem?_getD,List.getElem?_eq_getElem hk]
 cases l[k] <;> rfl
theorem cntT_le (l : List Bool) : cntT l <= l.length:=List.countP_le_length
set_option maxHeartbeats 4000000 in
set_option maxRecDepth 20000 in
theorem countL_any {g : Nat} {l : List Bool} (hg : Has w g (bRow l) 4) (hn : l.length = n) (hn2 : n <= 1000) : Calls Tryz.prog 27 #[.slice (some ⟨g,0,none⟩) n n] w fun e w'=>e = .returned (.int .i64 (cntT l : Int)) /\ w' = w:=by
 have HG:=hid hg
 have HN:=hid hn
 clear hg hn
 go_enter Tryz.func27,Tryz.ntmps27
 go_wp2_with fail
 go_loopg [3,4] n (fun gk s3 s4 wy=>∃ (k : Nat),k + gk = n /\ s4 = .int .i64 (k : Int) /\ s3 = .int .i64 (cntT (l.take k) : Int) /\ wy = w)
 case atStart=>exact ⟨0,by omega,rfl,rfl,rfl⟩
 case round =>
  obtain ⟨k,hk,rfl,rfl,rfl⟩:=hrel
  cases gk with
  | zero =>
   have q1 : ¬ ((k : Int) < (n : Int)):=by omega
   have HE : Hid (cntT (l.take k) = cntT l):=hid (by rw [List.take_of_length_le (by have:=HN.out; omega)])
   generalize cntT (l.take k) = c at *
   go_wp2_with fail
   go_ret
   exact ⟨by rw [<- HE.out]; rfl,rfl⟩
  | succ g1 =>
   have q1 : (k : Int) < (n : Int):=by omega
   have hkn : k < n:=by omega
   have hkl : k < l.length:=by have:=HN.out; omega
   have wk : IntKind.i64.wrap ((k : Int) + 1) = ((k + 1 : Nat) : Int):=wrapN (b:=1) (by omega)
   have c0:=(HG.out.cell k).trans (bRow_get hkl)
   have hle : cntT (l.take k) <= 1000:=Nat.le_trans (cntT_le _) (by rw [List.length_take]; omega)
   have hs:=cntT_snoc l hkl
   have HS:=hid hs
   clear hs hkl
   generalize cntT (l.take k) = c at *
   have wc : IntKind.i64.wrap ((c : Int) + 1) = ((c + 1 : Nat) : Int):=wrapN (b:=1) (by omega)
   generalize l.getD k false = z at *
   cases z with
   | true =>
    rw [if_pos rfl] at HS
    go_wp2_with fail
    go_roundg g1
    case measure=>omega
    case rel=>exact ⟨k + 1,by omega,by first | rfl | simp,by rw [HS.out]; first | rfl | simp,rfl⟩
   | false =>
    rw [if_neg (by decide)] at HS
    go_wp2_with fail
    go_roundg g1
    case measure=>omega
    case rel=>exact ⟨k + 1,by omega,by first | rfl | simp,by rw [HS.out]; first | rfl | simp,rfl⟩
end Go.Proofs.YteapbbaollmniaaGreatDoor
/- Health: what Of and Mend come to in a world whose power stays. -/
namespace Go.Proofs.YteapbbaollmniaaGreatDoor
open Go.RowKit Go.Maps
open W
set_option linter.unusedVariables false
variable {w0 w w' : World} {b : Nat} {V V' : Wd} {T : Nat -> Prop} {K N : Int} {bl : List Nat} {n k m : Nat} {d : ByteArray}
/-- what is got of a store under its shard's name -/
def gtAt (K N : Int) (d : ByteArray) (m : Nat) (s : St) : Gt:=gtOf K N (nmS d m) (W.get s (nmS d m)).1 (W.get s (nmS d m)).2
def gl (K N : Int) (d : ByteArray) : Nat -> List Kp -> List Gt
 | _,[]=>[]
 | i,x :: r=>gtAt K N d i x.st :: gl K N d (i + 1) r
theorem gl_len : ∀ (i : Nat) (l : List Kp),(gl K N d i l).length = l.length
 | _,[]=>rfl
 | i,x :: r=>by unfold gl; rw [List.length_cons,List.length_cons,gl_len (i + 1) r]
theorem gsnd_gl : ∀ (i : Nat) (l : List Kp),gsnd i (gl K N d i l) = sounds K N d i l
 | _,[]=>rfl
 | i,x :: r=>by
  unfold gl gsnd sounds
  rw [gsnd_gl (i + 1) r]
  rfl
theorem gl_at : ∀ (i : Nat) (l : List Kp) (m : Nat),(gl K N d i l)[m]? = (l[m]?).map fun x=>gtAt K N d (i + m) x.st
 | _,[],m=>by simp [gl]
 | i,x :: r,0=>rfl
 | i,x :: r,m + 1=>by
  unfold gl
  rw [List.getElem?_cons_succ,List.getElem?_cons_succ,gl_at (i + 1) r m,show i + 1 + m = i + (m + 1) by omega]
theorem gath_from : ∀ (j i : Nat) (V : Wd) (s : List Gt),Lit V -> i + j = V.l.length -> askG d (gnx K N d) j i V s = (0,{ V with calls:=V.calls + j },s ++ gl K N d i (V.l.drop i))
 | 0,i,V,s,hl,h=>by
  rw [List.drop_of_length_le (by omega)]
  show ((0 : Int),V,s) = _
  unfold gl
  rw [List.append_nil]
  rfl
 | j + 1,i,V,s,hl,h=>by
  have hi : i < V.l.length:=by omega
  obtain ⟨g1,g2⟩:=hl.get (List.getElem?_eq_getElem hi) (nmS d i)
  rw [askG_succ,g1,g2,if_neg (get_cut _ _)]
  have ih:=gath_from j (i + 1) { V with calls:=V.calls + 1 } (s ++ [gtAt K N d i V.l[i].st]) hl (by show i + 1 + j = V.l.length; omega)
  show askG d (gnx K N d) j (i + 1) { V with calls:=V.calls + 1 } (s ++ [gtAt K N d i V.l[i].st]) = _
  rw [ih,List.drop_eq_getElem_cons hi,List.append_assoc]
  show ((0 : Int),({ V with calls:=V.calls + 1 + j } : Wd),_) = (0,{ V with calls:=V.calls + (j + 1) },_)
  rw [show V.calls + 1 + j = V.calls + (j + 1) by omega]
  rfl
theorem gath_lit (hl : Lit V) : gath V K N d = (0,{ V with calls:=V.calls + V.l.length },gl K N d 0 V.l):=gath_from V.l.length 0 V [] hl (by omega)
theorem gsnd_count : ∀ (i : Nat) (gs : List Gt),(gsnd i gs).length = cntT (gs.map (·.sd))
 | _,[]=>rfl
 | i,x :: r=>by
  unfold gsnd
  rw [List.length_append,gsnd_count (i + 1) r,List.map_cons]
  unfold cntT
  rw [List.countP_cons]
  cases x.sd <;> simp [Nat.add_comm]
/-- which of them are sound -/
def sdL (K N : Int) (d : ByteArray) (l : List Kp) : List Bool:=(gl K N d 0 l).map (·.sd)
theorem sdL_len (l : List Kp) : (sdL K N d l).length = l.length:=by unfold sdL; rw [List.length_map,gl_len]
theorem sdL_at {l : List Kp} {m : Nat} {x : Kp} (h : l[m]? = some x) : (sdL K N d l)[m]? = some (tells K N d m x.st).2:=by
 unfold sdL
 rw [List.getElem?_map,gl_at,h,Nat.zero_add]
 rfl
theorem sdL_cnt (l : List Kp) : cntT (sdL K N d l) = (sounds K N d 0 l).length:=by
 unfold sdL
 rw [<- gsnd_count 0,gsnd_gl]
/-- the shard of each store -/
def ogB (K N : Int) (bl : List Nat) (i : Nat) : Ob:=(nmS (dig bl) i,shD K N bl i)
theorem of_lit (h : WT w0 w b V T) (hl : H.Lay w0) (hW : Lit V) (hm : C.Mx.mayC K N = true) (hN : N = (V.l.length : Int)) (hd : d.size = 32) (hc : V.calls <= 900000) (hf : V.left = 0) (Q : Ending -> World -> Prop)
  (hq : ∀ w' g,WT w0 w' b { V with calls:=V.calls + V.l.length } (fun i=>T i \/ i = g) -> Kpt T w w' -> Has w' g (bRow (sdL K N d V.l)) 4 -> w.heap.size <= g -> Q (.returned (.tuple #[.slice (some ⟨g,0,none⟩) V.l.length V.l.length,.int .i64 0])) w') : Calls Tryz.prog 11 #[.pointer (some ⟨b,0,none⟩),.agg #[.int .i64 K,.int .i64 N],.string d] w Q:=by
 have hg : gaE V K N d = 0:=by unfold gaE; rw [if_pos ⟨hm,hN,hd⟩]
 have hgl:=gath_lit (K:=K) (N:=N) (d:=d) hW
 refine of_any h hl K N d hc (by rw [hf]; decide) Q (fun e=>by rw [hg] at e; cases e) (fun _ e=>by rw [hgl] at e; cases e) (fun _ _ _=>?_)
 rw [hgl]
 exact hq
theorem mend_lit (h : WT w0 w b V T) (hl : H.Lay w0) (hW : Lit V) (hm : C.Mx.mayC K N = true) (hN : N = (V.l.length : Int)) (hb : bl.length <= 32768) (hlt : ∀ x ∈ bl,x < 256) (hon : ∀ p ∈ sounds K N (dig bl) 0 V.l,p.2 = C.ofBs (C.payL K.toNat bl p.1)) {M : Nat} (hok : Ok M V.l.length V) (hM : M + 300 <= 900000) (Q : Ending -> World -> Prop)
  (hqW : (sounds K N (dig bl) 0 V.l).length = V.l.length -> ∀ w',WT w0 w' b { V with calls:=V.calls + V.l.length } T -> Kpt T w w' -> Q (.returned (.tuple #[.int .i64 0,.int .i64 0])) w')
  (hqL : (sounds K N (dig bl) 0 V.l).length < K -> ∀ w',WT w0 w' b { V with calls:=V.calls + V.l.length } T -> Kpt T w w' -> Q (.returned (.tuple #[.int .i64 0,.int .i64 54])) w')
  (hqM : K <= (sounds K N (dig bl) 0 V.l).length -> (sounds K N (dig bl) 0 V.l).length ≠ V.l.length -> ∀ w',WT w0 w' b (mendG (ogB K N bl) (gl K N (dig bl) 0 V.l) 0 0 0 { V with calls:=V.calls + V.l.length }).2 T -> Kpt T w w' -> Q (.returned (.tuple #[.int .i64 ((mendG (ogB K N bl) (gl K N (dig bl) 0 V.l) 0 0 0 { V with calls:=V.calls + V.l.length }).1.1 : Int),.int .i64 (mendG (ogB K N bl) (gl K N (dig bl) 0 V.l) 0 0 0 { V with calls:=V.calls + V.l.length }).1.2])) w') :
  Calls Tryz.prog 13 #[.pointer (some ⟨b,0,none⟩),.agg #[.int .i64 K,.int .i64 N],.string (dig bl)] w Q:=by
 have hKN:=may_of hm
 have hg : gaE V K N (dig bl) = 0:=by unfold gaE; rw [if_pos ⟨hm,hN,dig_len bl⟩]
 have hgl:=gath_lit (K:=K) (N:=N) (d:=dig bl) hW
 have hmem : ∀ p ∈ (sounds K N (dig bl) 0 V.l).take K.toNat,p.1 < V.l.length /\ p.2 = C.ofBs (C.payL K.toNat bl p.1):=fun p hp=>by
  obtain ⟨_,h2,_⟩:=sounds_mem (dig bl) 0 V.l p (List.mem_of_mem_take hp)
  exact ⟨by omega,hon p (List.mem_of_mem_take hp)⟩
 have hgood : C.goodZ N (zsOf ((sounds K N (dig bl) 0 V.l).take K.toNat)):=goodZ_of ((sounds_rising (dig bl) 0 V.l).sublist (List.take_sublist _ _)) fun p hp=>by
  have:=(hmem p hp).1
  omega
 have hfr : frs K (gl K N (dig bl) 0 V.l) = (sounds K N (dig bl) 0 V.l).take K.toNat:=by unfold frs; rw [gsnd_gl]
 have hzl : (zsOf ((sounds K N (dig bl) 0 V.l).take K.toNat)).length = ((sounds K N (dig bl) 0 V.l).take K.toNat).length:=by simp [zsOf]
 refine mend_any h hl K N (dig bl) hok hM Q (fun e=>by rw [hg] at e; cases e) (fun _ e=>by rw [hgl] at e; cases e) (fun _ _ e=>?_) (fun _ _ _ e s er hdec=>?_)
 ·rw [hgl] at e ⊢
  simp only [gsnd_gl] at e
  exact hqW e
 ·rw [hgl] at e hdec ⊢
  simp only [gsnd_gl,hfr] at e hdec ⊢
  by_cases hlen : K <= ((sounds K N (dig bl) 0 V.l).length : Int)
  ·obtain ⟨e1,e2⟩:=dec_blob hm hb hlt hgood (fun p hp=>(hmem p hp).2) (by rw [List.length_take]; omega) hdec
   subst e1 e2
   refine ⟨fun h=>?_,fun _ _=>⟨ogB K N s,fun i hi p ee hr=>?_,fun w' h1 h2=>hqM hlen e w' h1 h2⟩⟩
   ·rcases h with h | h
    ·exact absurd rfl h
    ·exact absurd rfl h
   ·have hp : p = C.payL K.toNat s i:=by
     have h2 : C.RebIs K N (zsOf ((sounds K N (dig s) 0 V.l).take K.toNat)) (psOf ((sounds K N (dig s) 0 V.l).take K.toNat)) (i : Int) (C.payL K.toNat s i) 0:=.inr ⟨⟨hm,by omega,by omega⟩,s,0,hdec,.inr ⟨rfl,by rw [Int.toNat_natCast],rfl⟩⟩
     exact (hr.one h2).1
    rw [hp]
    obtain ⟨_,mN,mD⟩:=mk_blob (K:=K) (N:=N) (bl:=s) (m:=i) hm hb (by omega)
    rw [mN,mD]
    rfl
  ·have her : er = 54:=by
    rcases hdec with ⟨h1,_⟩ | ⟨_,_,_,h4⟩ | ⟨_,h2,_⟩
    ·exact absurd ⟨hm,by simp [zsOf,psOf],hgood⟩ h1
    ·exact h4
    ·exfalso
     apply h2
     rw [hzl,List.length_take]
     omega
   refine ⟨fun _=>hqL (by omega),fun h=>by rw [her] at h; cases h⟩
end Go.Proofs.YteapbbaollmniaaGreatDoor
/- Health: what is made again in a world of stores that faults have left; no program. -/
namespace Go.Proofs.YteapbbaollmniaaGreatDoor
open Go.RowKit Go.Maps
open W
set_option linter.unusedVariables false
variable {V V' : Wd} {K N : Int} {bl : List Nat} {n m i : Nat} {s : St}
/-- is the store's shard sound? -/
def okAt (K N : Int) (bl : List Nat) (m : Nat) (s : St) : Bool:=(tells K N (dig bl) m s).2
theorem Left.okAt_is (h : Left K N bl m s) (hm : C.Mx.mayC K N = true) (hb : bl.length <= 32768) (hmn : (m : Int) < N) : okAt K N bl m s = isLeft (shD K N bl m) s:=by
 unfold okAt
 rw [h.told hm hb hmn]
 cases isLeft (shD K N bl m) s <;> rfl
/-- a shard put into a store that answers -/
theorem Left.put (h : Left K N bl m s) (hm : C.Mx.mayC K N = true) (hb : bl.length <= 32768) (hmn : (m : Int) < N) (hd : s.down = false) :
  ((putS s (nmS (dig bl) m) (shD K N bl m)).1 = 0 /\ ∃ s',W.sync (putS s (nmS (dig bl) m) (shD K N bl m)).2 = (0,s') /\ Left K N bl m s' /\ isLeft (shD K N bl m) s' = true) \/
  (((putS s (nmS (dig bl) m) (shD K N bl m)).1 = 52 \/ (putS s (nmS (dig bl) m) (shD K N bl m)).1 = 53) /\ Left K N bl m (putS s (nmS (dig bl) m) (shD K N bl m)).2 /\ isLeft (shD K N bl m) (putS s (nmS (dig bl) m) (shD K N bl m)).2 = isLeft (shD K N bl m) s /\ ¬ Free s):=by
 have hKN:=may_of hm
 obtain ⟨z1,z2⟩:=held_sizes (bl:=bl) hm hb hmn
 have hbad:=badName_not (K:=K) (N:=N) (bl:=bl) (m:=m) (dig_len bl) hb hKN.1 (by omega)
 have hput : W.put (nmS (dig bl) m,shD K N bl m) s.seen = [(nmS (dig bl) m,shD K N bl m)]:=by
  rcases h.seen with e | ⟨d,e,_⟩
  ·rw [e]; rfl
  ·rw [e,put_one]
 have hgo : ∀ (rf : Option Nat),(∀ k,rf = some k -> k < 9223372036854775808) -> Left K N bl m ⟨[(nmS (dig bl) m,shD K N bl m)],[],false,rf,s.room,s.live || true⟩:=fun rf hrf =>
  ⟨rfl,.inr ⟨_,rfl,.inl rfl⟩,fit_one rfl (by simp) (fun p hp=>by rw [List.mem_singleton.1 hp]; exact z1) (fun p hp=>by rw [List.mem_singleton.1 hp]; exact z2) hrf h.fit.room⟩
 have hno : ∀ (rf : Option Nat),(∀ k,rf = some k -> k < 9223372036854775808) -> Left K N bl m { s with refuse:=rf }:=fun rf hrf =>
  ⟨h.wr,h.seen,{ h.fit with refuse:=hrf }⟩
 unfold putS
 rw [hbad,if_neg (by decide),hd,if_neg (by decide)]
 cases ho : over s (nmS (dig bl) m) (shD K N bl m) with
 | true =>
  rw [if_pos rfl]
  refine .inr ⟨.inl rfl,h,rfl,fun hf=>?_⟩
  unfold over at ho
  rw [hf.2.2] at ho
  cases ho
 | false =>
  rw [if_neg (by decide)]
  unfold tried counted
  cases hr : s.refuse with
  | none =>
   refine .inl ⟨rfl,⟨[(nmS (dig bl) m,shD K N bl m)],[],false,none,s.room,s.live || true⟩,?_,hgo none (fun k hk=>by cases hk),?_⟩
   ·simp only [Bool.false_eq_true,if_false,setC,hput,W.sync,hd,hr,Option.isSome_some]
   ·unfold isLeft; simp
  | some k =>
   cases k with
   | zero =>
    refine .inr ⟨.inr rfl,hno none (fun k hk=>by cases hk),rfl,fun hf=>?_⟩
    rw [hf.2.1] at hr
    cases hr
   | succ k =>
    refine .inl ⟨rfl,⟨[(nmS (dig bl) m,shD K N bl m)],[],false,some k,s.room,s.live || true⟩,?_,hgo (some k) (fun k' hk=>by
     cases hk
     have:=h.fit.refuse _ hr
     omega),?_⟩
    ·simp only [Bool.false_eq_true,if_false,setC,hput,W.sync,hd,Option.isSome_some]
    ·unfold isLeft; simp
/-- one store that is not sound -/
theorem again_left (hl : Lit V) {x : Kp} (hx : V.l[i]? = some x) (h : Left K N bl i x.st) (hm : C.Mx.mayC K N = true) (hb : bl.length <= 32768) (hmn : (i : Int) < N) (hn : okAt K N bl i x.st = false) {q : Int × Wd}
  (hq : (if (gtAt K N (dig bl) i x.st).e = 0 \/ (gtAt K N (dig bl) i x.st).e = 5 then againG V i (ogB K N bl i) else ((gtAt K N (dig bl) i x.st).e,V)) = q) :
  ∃ s' c,q.2 = { V with calls:=V.calls + c,l:=V.l.set i { x with st:=s' } } /\ c <= 2 /\ Left K N bl i s' /\ ((q.1 = 0 /\ okAt K N bl i s' = true) \/ ((q.1 = 51 \/ q.1 = 52 \/ q.1 = 53) /\ okAt K N bl i s' = false /\ ¬ Free x.st)):=by
 have hi:=(List.getElem?_eq_some_iff.1 hx).1
 have hme : { x with st:=x.st } = x:=rfl
 have he : (gtAt K N (dig bl) i x.st).e = (W.get x.st (nmS (dig bl) i)).2:=rfl
 rw [he] at hq
 cases hd : x.st.down with
 | true =>
  have hg : W.get x.st (nmS (dig bl) i) = (⟨#[]⟩,51):=by unfold W.get; rw [hd]; rfl
  rw [hg,if_neg (by decide)] at hq
  subst hq
  refine ⟨x.st,0,?_,by omega,h,.inr ⟨.inl rfl,hn,fun hf=>by rw [hf.1] at hd; cases hd⟩⟩
  have : V.l.set i { x with st:=x.st } = V.l:=by
   rw [List.getElem?_eq_getElem hi] at hx
   cases hx
   exact List.set_getElem_self hi
  rw [this]
  rfl
 | false =>
  have hg : (W.get x.st (nmS (dig bl) i)).2 = 0 \/ (W.get x.st (nmS (dig bl) i)).2 = 5:=by
   unfold W.get
   rw [hd,if_neg (by decide)]
   split
   ·exact .inr rfl
   ·exact .inl rfl
  rw [if_pos hg] at hq
  have a1:=hl.ask hx (fun s=>putS s (ogB K N bl i).1 (ogB K N bl i).2)
  unfold againG at hq
  rw [a1] at hq
  simp only at hq
  rcases h.put hm hb hmn hd with ⟨p0,s',p1,p2,p3⟩ | ⟨p0,p1,p2,p3⟩
  ·have p0' : (putS x.st (ogB K N bl i).1 (ogB K N bl i).2).1 = 0:=p0
   have p1' : W.sync (putS x.st (ogB K N bl i).1 (ogB K N bl i).2).2 = (0,s'):=p1
   rw [if_neg (by rw [p0']; decide)] at hq
   have hl2 : Lit { V with calls:=V.calls + 1,l:=V.l.set i { x with st:=(putS x.st (ogB K N bl i).1 (ogB K N bl i).2).2 } }:=hl
   have a2:=hl2.ask (i:=i) (List.getElem?_set_self hi) W.sync
   simp only [p1'] at a2
   rw [a2] at hq
   subst hq
   refine ⟨s',2,?_,by omega,p2,.inl ⟨rfl,by rw [p2.okAt_is hm hb hmn]; exact p3⟩⟩
   simp only [List.set_set]
  ·have p0' : (putS x.st (ogB K N bl i).1 (ogB K N bl i).2).1 = 52 \/ (putS x.st (ogB K N bl i).1 (ogB K N bl i).2).1 = 53:=p0
   rw [if_pos (by rcases p0' with e | e <;> rw [e] <;> decide)] at hq
   subst hq
   refine ⟨(putS x.st (ogB K N bl i).1 (ogB K N bl i).2).2,1,rfl,by omega,p1,.inr ⟨.inr p0',?_,p3⟩⟩
   have p1' : Left K N bl i (putS x.st (ogB K N bl i).1 (ogB K N bl i).2).2:=p1
   rw [p1'.okAt_is hm hb hmn]
   rw [h.okAt_is hm hb hmn] at hn
   exact p2.trans hn
/-- how many are sound from i on -/
def sndN (K N : Int) (bl : List Nat) (i : Nat) (l : List Kp) : Nat:=(sounds K N (dig bl) i l).length
theorem sndN_cons (i : Nat) (x : Kp) (r : List Kp) : sndN K N bl i (x :: r) = (if okAt K N bl i x.st then 1 else 0) + sndN K N bl (i + 1) r:=by
 show ((if (tells K N (dig bl) i x.st).2 then [(i,(tells K N (dig bl) i x.st).1)] else []) ++ sounds K N (dig bl) (i + 1) r).length = _
 rw [List.length_append]
 unfold okAt sndN
 cases (tells K N (dig bl) i x.st).2 <;> rfl
theorem sndN_le : ∀ (i : Nat) (l : List Kp),sndN K N bl i l <= l.length
 | _,[]=>Nat.le_refl _
 | i,x :: r=>by
  rw [sndN_cons,List.length_cons]
  have:=sndN_le (i + 1) r
  split <;> omega
/-- what comes of it, from store i on -/
structure Mended (K N : Int) (bl : List Nat) (n i m : Nat) (wo : Int) (V : Wd) (R : (Nat × Int) × Wd) : Prop where
 lit : Lit R.2
 len : R.2.l.length = n
 left : R.2.left = V.left
 calls : R.2.calls + 2 * i <= V.calls + 2 * n
 all : ∀ (p : Nat) (x : Kp),R.2.l[p]? = some x -> Left K N bl p x.st
 low : ∀ p,p < i -> R.2.l[p]? = V.l[p]?
 kept : ∀ (p : Nat) (x : Kp),V.l[p]? = some x -> okAt K N bl p x.st = true -> R.2.l[p]? = some x
 cnt : R.1.1 + sndN K N bl i (V.l.drop i) = m + sndN K N bl i (R.2.l.drop i)
 zero : R.1.2 = 0 ↔ wo = 0 /\ sndN K N bl i (R.2.l.drop i) + i = n
 worst : (wo = 0 \/ wo = 52 \/ wo = 53) -> R.1.2 = 0 \/ R.1.2 = 52 \/ R.1.2 = 53
 free : (∀ (p : Nat) (x : Kp),i <= p -> V.l[p]? = some x -> okAt K N bl p x.st = false -> Free x.st) -> sndN K N bl i (R.2.l.drop i) + i = n
/-- one store ahead of the others -/
theorem Mended.step {x : Kp} {s' : St} {c m' : Nat} {wo wo' : Int} {R : (Nat × Int) × Wd} (hx : V.l[i]? = some x) (hn : V.l.length = n) (h : Mended K N bl n (i + 1) m' wo' { V with calls:=V.calls + c,l:=V.l.set i { x with st:=s' } } R) (hc : c <= 2)
  (hM : m' + (if okAt K N bl i x.st then 1 else 0) = m + (if okAt K N bl i s' then 1 else 0)) (hw : wo' = 0 ↔ wo = 0 /\ okAt K N bl i s' = true) (hww : (wo = 0 \/ wo = 52 \/ wo = 53) -> wo' = 0 \/ wo' = 52 \/ wo' = 53) (hk : okAt K N bl i x.st = true -> s' = x.st) (hf : okAt K N bl i s' = false -> okAt K N bl i x.st = false /\ ¬ Free x.st) : Mended K N bl n i m wo V R:=by
 have hi:=(List.getElem?_eq_some_iff.1 hx).1
 have hRi : R.2.l[i]? = some { x with st:=s' }:=by
  rw [h.low i (by omega)]
  exact List.getElem?_set_self hi
 have hiR:=(List.getElem?_eq_some_iff.1 hRi).1
 have dR : R.2.l.drop i = { x with st:=s' } :: R.2.l.drop (i + 1):=by
  rw [List.drop_eq_getElem_cons hiR,(List.getElem?_eq_some_iff.1 hRi).2]
 have dV : V.l.drop i = x :: V.l.drop (i + 1):=by
  rw [List.drop_eq_getElem_cons hi]
  rw [List.getElem?_eq_getElem hi] at hx
  cases hx
  rfl
 have dS : (V.l.set i { x with st:=s' }).drop (i + 1) = V.l.drop (i + 1):=List.drop_set_of_lt (by omega)
 have hcnt:=h.cnt
 simp only [dS] at hcnt
 have e1 : sndN K N bl i (R.2.l.drop i) = (if okAt K N bl i s' then 1 else 0) + sndN K N bl (i + 1) (R.2.l.drop (i + 1)):=by rw [dR,sndN_cons]
 have e2 : sndN K N bl i (V.l.drop i) = (if okAt K N bl i x.st then 1 else 0) + sndN K N bl (i + 1) (V.l.drop (i + 1)):=by rw [dV,sndN_cons]
 have hle : sndN K N bl (i + 1) (R.2.l.drop (i + 1)) + (i + 1) <= n:=by
  have:=sndN_le (K:=K) (N:=N) (bl:=bl) (i + 1) (R.2.l.drop (i + 1))
  rw [List.length_drop,h.len] at this
  omega
 have hset : ∀ (p : Nat) (y : Kp),p ≠ i -> V.l[p]? = some y -> (V.l.set i { x with st:=s' })[p]? = some y:=fun p y hp hy=>by rw [List.getElem?_set_ne (Ne.symm hp)]; exact hy
 refine ⟨h.lit,h.len,h.left,?_,h.all,fun p hp=>?_,fun p y hy ho=>?_,?_,?_,fun hwo=>h.worst (hww hwo),fun hfr=>?_⟩
 ·have : R.2.calls + 2 * (i + 1) <= V.calls + c + 2 * n:=h.calls
  omega
 ·rw [h.low p (by omega)]
  exact List.getElem?_set_ne (by omega)
 ·by_cases hp : p = i
  ·subst hp
   rw [hx] at hy
   cases hy
   rw [hRi,hk ho]
  ·exact h.kept p y (hset p y hp hy) ho
 ·rw [e1,e2]
  omega
 ·rw [h.zero,hw,e1]
  cases hs : okAt K N bl i s' with
  | true =>
   rw [if_pos rfl]
   constructor
   ·rintro ⟨⟨a,_⟩,c⟩; exact ⟨a,by omega⟩
   ·rintro ⟨a,c⟩; exact ⟨⟨a,rfl⟩,by omega⟩
  | false =>
   rw [if_neg (by decide)]
   constructor
   ·rintro ⟨⟨_,b⟩,_⟩; cases b
   ·rintro ⟨_,c⟩; omega
 ·have h1:=h.free fun p y hp hy ho=>by
   have hy' : (V.l.set i { x with st:=s' })[p]? = some y:=hy
   rw [List.getElem?_set_ne (by omega)] at hy'
   exact hfr p y (by omega) hy' ho
  have h2 : okAt K N bl i s' = true:=by
   cases hs : okAt K N bl i s' with
   | true=>rfl
   | false=>exact absurd (hfr i x (Nat.le_refl _) hx (hf hs).1) (hf hs).2
  rw [e1,h2,if_pos rfl]
  omega
theorem mend_left (hm : C.Mx.mayC K N = true) (hb : bl.length <= 32768) (hN : N = (n : Int)) : ∀ (j i m : Nat) (wo : Int) (V : Wd),Lit V -> V.l.length = n -> i + j = n -> (∀ (p : Nat) (x : Kp),V.l[p]? = some x -> Left K N bl p x.st) -> Mended K N bl n i m wo V (mendG (ogB K N bl) (gl K N (dig bl) i (V.l.drop i)) i m wo V)
 | 0,i,m,wo,V,hl,hn,hj,ha=>by
  have hd : V.l.drop i = []:=List.drop_of_length_le (by omega)
  rw [hd]
  show Mended K N bl n i m wo V ((m,wo),V)
  refine ⟨hl,hn,rfl,by show V.calls + 2 * i <= _; omega,ha,fun _ _=>rfl,fun _ _ h _=>h,rfl,?_,fun h=>h,fun _=>?_⟩
  ·rw [hd]
   show wo = 0 ↔ wo = 0 /\ 0 + i = n
   exact ⟨fun h=>⟨h,by omega⟩,fun h=>h.1⟩
  ·rw [hd]
   show 0 + i = n
   omega
 | j + 1,i,m,wo,V,hl,hn,hj,ha=>by
  have hi : i < V.l.length:=by omega
  obtain ⟨x,hx⟩ : ∃ x,V.l[i]? = some x:=⟨_,List.getElem?_eq_getElem hi⟩
  have hL:=ha i x hx
  have hmn : (i : Int) < N:=by omega
  have dV : V.l.drop i = x :: V.l.drop (i + 1):=by
   rw [List.drop_eq_getElem_cons hi]
   rw [List.getElem?_eq_getElem hi] at hx
   cases hx
   rfl
  have hgl : gl K N (dig bl) i (V.l.drop i) = gtAt K N (dig bl) i x.st :: gl K N (dig bl) (i + 1) (V.l.drop (i + 1)):=by rw [dV]; rfl
  have hsd : (gtAt K N (dig bl) i x.st).sd = okAt K N bl i x.st:=rfl
  rw [hgl]
  cases ho : okAt K N bl i x.st with
  | true =>
   have e : mendG (ogB K N bl) (gtAt K N (dig bl) i x.st :: gl K N (dig bl) (i + 1) (V.l.drop (i + 1))) i m wo V = mendG (ogB K N bl) (gl K N (dig bl) (i + 1) (V.l.drop (i + 1))) (i + 1) m wo V:=by
    show (if (gtAt K N (dig bl) i x.st).sd then _ else _) = _
    rw [hsd,ho,if_pos rfl]
   rw [e]
   have hV : ({ V with calls:=V.calls + 0,l:=V.l.set i { x with st:=x.st } } : Wd) = V:=by
    have : V.l.set i { x with st:=x.st } = V.l:=by
     rw [List.getElem?_eq_getElem hi] at hx
     cases hx
     exact List.set_getElem_self hi
    rw [this]
    rfl
   have ih:=mend_left hm hb hN j (i + 1) m wo V hl hn (by omega) ha
   rw [<- hV] at ih
   have:=Mended.step (m:=m) (wo:=wo) hx hn ih (by omega) rfl (by rw [ho]; simp) (fun h=>h) (fun _=>rfl) (fun h=>by rw [ho] at h; cases h)
   rwa [hV] at this
  | false =>
   obtain ⟨q,hq⟩ : ∃ q,(if (gtAt K N (dig bl) i x.st).e = 0 \/ (gtAt K N (dig bl) i x.st).e = 5 then againG V i (ogB K N bl i) else ((gtAt K N (dig bl) i x.st).e,V)) = q:=⟨_,rfl⟩
   rw [mendG_cons (ogB K N bl) _ _ i m wo V (by rw [hsd]; exact ho) hq]
   obtain ⟨s',c,q2,hc,hs',hcase⟩:=again_left hl hx hL hm hb hmn ho hq
   have hlq : Lit q.2:=by rw [q2]; exact hl
   have hnq : q.2.l.length = n:=by rw [q2]; show (V.l.set i _).length = n; rw [List.length_set]; exact hn
   have haq : ∀ (p : Nat) (y : Kp),q.2.l[p]? = some y -> Left K N bl p y.st:=fun p y hy=>by
    rw [q2] at hy
    have hy' : (V.l.set i { x with st:=s' })[p]? = some y:=hy
    by_cases hp : i = p
    ·subst hp
     rw [List.getElem?_set_self hi] at hy'
     cases hy'
     exact hs'
    ·rw [List.getElem?_set_ne hp] at hy'
     exact ha p y hy'
   have hdq : q.2.l.drop (i + 1) = V.l.drop (i + 1):=by
    rw [q2]
    exact List.drop_set_of_lt (by omega)
   have ih:=fun m' wo'=>mend_left hm hb hN j (i + 1) m' wo' q.2 hlq hnq (by omega) haq
   simp only [hdq] at ih
   rcases hcase with ⟨h0,ht⟩ | ⟨h0,ht,hnf⟩
   ·rw [if_pos h0]
    have:=ih (m + 1) wo
    rw [q2] at this ⊢
    exact Mended.step hx hn this hc (by rw [ho,ht]; rfl) (by rw [ht]; simp) (fun h=>h) (fun h=>by rw [ho] at h; cases h) (fun h=>by rw [ht] at h; cases h)
   ·have hbad : ∀ wo',wo' = 52 \/ wo' = 53 \/ (wo' = wo /\ wo ≠ 0) -> Mended K N bl n i m wo V (mendG (ogB K N bl) (gl K N (dig bl) (i + 1) (V.l.drop (i + 1))) (i + 1) m wo' q.2):=fun wo' hwo=>by
     have:=ih m wo'
     rw [q2] at this ⊢
     refine Mended.step hx hn this hc (by rw [ho,ht]) ?_ ?_ (fun h=>by rw [ho] at h; cases h) (fun _=>⟨ho,hnf⟩)
     ·rw [ht]
      constructor
      ·intro h
       rcases hwo with e | e | ⟨e,e'⟩
       ·omega
       ·omega
       ·rw [e] at h; exact absurd h e'
      ·rintro ⟨_,h⟩; cases h
     ·intro h
      rcases hwo with e | e | ⟨e,e'⟩
      ·exact .inr (.inl e)
      ·exact .inr (.inr e)
      ·rw [e]; exact h
    rw [if_neg (by omega),if_neg (by omega)]
    by_cases h52 : q.1 = 52
    ·rw [if_pos h52]; exact hbad 52 (.inl rfl)
    ·rw [if_neg h52]
     by_cases hw0 : wo = 0
     ·rw [if_pos hw0]; exact hbad 53 (.inr (.inl rfl))
     ·rw [if_neg hw0]; exact hbad wo (.inr (.inr ⟨rfl,hw0⟩))
end Go.Proofs.YteapbbaollmniaaGreatDoor
