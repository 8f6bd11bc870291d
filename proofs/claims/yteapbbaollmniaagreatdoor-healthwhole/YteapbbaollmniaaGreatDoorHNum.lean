/- Health's laws: the example. -/
import Derived.Test.YteapbbaollmniaaGreatDoorG13
namespace Go.Proofs.YteapbbaollmniaaGreatDoor
open Go.RowKit Go.Maps
open W
set_option linter.unusedVariables false
variable {w0 w w' : World} {b : Nat} {V V' : Wd} {T : Nat -> Prop} {K N : Int} {bl : List Nat} {n k m : Nat}
theorem Left.on (h : LeftW K N bl n V) (hm : C.Mx.mayC K N = true) (hN : N = (n : Int)) (hb : bl.length <= 32768) : ∀ p ∈ sounds K N (dig bl) 0 V.l,p.2 = C.ofBs (C.payL K.toNat bl p.1):=fun p hp=>by
 obtain ⟨_,h2,x,h3,h4⟩:=sounds_mem (dig bl) 0 V.l p hp
 rw [Nat.sub_zero] at h3
 have ht:=(h.st p.1 x h3).told hm hb (by have:=h.len; omega)
 rw [h4] at ht
 split at ht
 ·exact (Prod.mk.inj ht).1
 ·have:=(Prod.mk.inj ht).2
  cases this
/-- the second of three stores is wiped -/
theorem wiped (h : WI 3 (fillP 2 3 bl 3) V) (hb : bl.length <= 32768) : (strikeW V 1 1 0 0 0).1 = 0 /\ LeftW 2 3 bl 3 (strikeW V 1 1 0 0 0).2 /\ sdL 2 3 (dig bl) (strikeW V 1 1 0 0 0).2.l = [true,false,true] /\ (strikeW V 1 1 0 0 0).2.calls = V.calls /\ (∀ (p : Nat) (x : Kp),(strikeW V 1 1 0 0 0).2.l[p]? = some x -> okAt 2 3 bl p x.st = false -> Free x.st):=by
 have hm : C.Mx.mayC 2 3 = true:=by decide
 obtain ⟨l,calls,dark,cut,left⟩:=V
 obtain ⟨hl,hn,hst,hc,hf⟩:=h
 simp only at hn hst hc hf
 match l,hn with
 | [x0,x1,x2],_ =>
  have h0 : x0.st = held 2 3 bl 0:=hst 0 x0 rfl
  have h1 : x1.st = held 2 3 bl 1:=hst 1 x1 rfl
  have h2 : x2.st = held 2 3 bl 2:=hst 2 x2 rfl
  have hs : strikeS x1.st 1 0 0 0 = (0,⟨[],[],false,none,none,false⟩):=by rw [h1]; rfl
  have hk : strikeW ⟨[x0,x1,x2],calls,dark,cut,left⟩ 1 1 0 0 0 = (0,⟨[x0,{ x1 with st:=⟨[],[],false,none,none,false⟩,sus:=x1.sus || true },x2],calls,dark,cut,left⟩):=by
   show (if (0 : Int) <= 1 /\ (1 : Int) < 3 then _ else _) = _
   rw [if_pos (by decide)]
   show ((strikeS x1.st 1 0 0 0).1,_) = _
   rw [hs]
   rfl
  rw [hk]
  have hL : ∀ (p : Nat) (x : Kp),[x0,{ x1 with st:=⟨[],[],false,none,none,false⟩,sus:=x1.sus || true },x2][p]? = some x -> Left 2 3 bl p x.st:=fun p x hx=>by
   match p,hx with
   | 0,hx=>cases hx; rw [h0]; exact Left.held hm hb (by decide)
   | 1,hx=>cases hx; exact ⟨rfl,.inl rfl,fit_one rfl (by simp) (fun p hp=>by cases hp) (fun p hp=>by cases hp) (fun k hk=>by cases hk) (fun k hk=>by cases hk)⟩
   | 2,hx=>cases hx; rw [h2]; exact Left.held hm hb (by decide)
   | p + 3,hx=>cases hx
  have o0 : okAt 2 3 bl 0 x0.st = true:=by rw [(hL 0 x0 rfl).okAt_is hm hb (by decide),h0]; exact left_held
  have o1 : okAt 2 3 bl 1 ⟨[],[],false,none,none,false⟩ = false:=by
   rw [Left.okAt_is (hL 1 _ rfl) hm hb (by decide)]
   rfl
  have o2 : okAt 2 3 bl 2 x2.st = true:=by rw [(hL 2 x2 rfl).okAt_is hm hb (by decide),h2]; exact left_held
  refine ⟨rfl,⟨hl,rfl,hL,hc,hf⟩,?_,rfl,fun p x hx ho=>?_⟩
  ·show [okAt 2 3 bl 0 x0.st,okAt 2 3 bl 1 ⟨[],[],false,none,none,false⟩,okAt 2 3 bl 2 x2.st] = _
   rw [o0,o1,o2]
  ·match p,hx with
   | 0,hx=>cases hx; rw [o0] at ho; cases ho
   | 1,hx=>cases hx; exact ⟨rfl,rfl,rfl⟩
   | 2,hx=>cases hx; rw [o2] at ho; cases ho
   | p + 3,hx=>cases hx
/-- what Mend makes of it -/
theorem mended3 (h : LeftW 2 3 bl 3 V) (hb : bl.length <= 32768) (hs : sdL 2 3 (dig bl) V.l = [true,false,true]) (hc : V.calls <= 50) (hf : ∀ (p : Nat) (x : Kp),V.l[p]? = some x -> okAt 2 3 bl p x.st = false -> Free x.st) {R : (Nat × Int) × Wd} (hR : mendG (ogB 2 3 bl) (gl 2 3 (dig bl) 0 V.l) 0 0 0 { V with calls:=V.calls + V.l.length } = R) : R.1 = (1,0) /\ LeftW 2 3 bl 3 R.2 /\ cntT (sdL 2 3 (dig bl) R.2.l) = 3:=by
 have hm : C.Mx.mayC 2 3 = true:=by decide
 have hM:=mend_left (n:=3) hm hb rfl 3 0 0 0 { V with calls:=V.calls + V.l.length } h.lit h.len rfl h.st
 rw [List.drop_zero,hR] at hM
 have h1:=hM.free fun p x _ hx ho=>hf p x hx ho
 have h2:=hM.cnt
 have h3:=hM.zero
 rw [List.drop_zero] at h1 h2 h3
 rw [List.drop_zero] at h2
 have h4 : sndN 2 3 bl 0 V.l = 2:=by
  unfold sndN
  rw [<- sdL_cnt,hs]
  rfl
 have h5 : R.1.1 = 1:=by
  have h6 : R.1.1 + sndN 2 3 bl 0 V.l = 0 + sndN 2 3 bl 0 R.2.l:=h2
  omega
 have h7 : R.1.2 = 0:=h3.2 ⟨rfl,h1⟩
 refine ⟨Prod.ext h5 h7,⟨hM.lit,hM.len,hM.all,?_,hM.left.trans h.left⟩,?_⟩
 ·have : R.2.calls + 2 * 0 <= V.calls + V.l.length + 2 * 3:=hM.calls
  have:=h.len
  omega
 ·rw [sdL_cnt]
  exact h1
theorem LeftW.more (h : LeftW K N bl n V) {c : Nat} (hc : V.calls + c <= 100) : LeftW K N bl n { V with calls:=V.calls + c }:=⟨h.lit,h.len,h.st,hc,h.left⟩
theorem of_n (h : WT w0 w b V T) (hl : H.Lay w0) (hW : LeftW K N bl n V) (hm : C.Mx.mayC K N = true) (hN : N = (n : Int)) (Q : Ending -> World -> Prop)
  (hq : ∀ w' g,WT w0 w' b { V with calls:=V.calls + n } (fun i=>T i \/ i = g) -> Kpt T w w' -> Has w' g (bRow (sdL K N (dig bl) V.l)) 4 -> w.heap.size <= g -> Q (.returned (.tuple #[.slice (some ⟨g,0,none⟩) n n,.int .i64 0])) w') : Calls Tryz.prog 11 #[.pointer (some ⟨b,0,none⟩),.agg #[.int .i64 K,.int .i64 N],.string (dig bl)] w Q:=by
 have e:=hW.len
 subst e
 exact of_lit h hl hW.lit hm hN (dig_len bl) (by have:=hW.calls; omega) hW.left Q hq
theorem mend_n (h : WT w0 w b V T) (hl : H.Lay w0) (hW : LeftW K N bl n V) (hm : C.Mx.mayC K N = true) (hN : N = (n : Int)) (hb : bl.length <= 32768) (hlt : ∀ x ∈ bl,x < 256) (Q : Ending -> World -> Prop)
  (hqW : sndN K N bl 0 V.l = n -> ∀ w',WT w0 w' b { V with calls:=V.calls + n } T -> Kpt T w w' -> Q (.returned (.tuple #[.int .i64 0,.int .i64 0])) w')
  (hqL : sndN K N bl 0 V.l < K -> ∀ w',WT w0 w' b { V with calls:=V.calls + n } T -> Kpt T w w' -> Q (.returned (.tuple #[.int .i64 0,.int .i64 54])) w')
  (hqM : K <= sndN K N bl 0 V.l -> sndN K N bl 0 V.l ≠ n -> ∀ R,mendG (ogB K N bl) (gl K N (dig bl) 0 V.l) 0 0 0 { V with calls:=V.calls + V.l.length } = R -> ∀ w',WT w0 w' b R.2 T -> Kpt T w w' -> Q (.returned (.tuple #[.int .i64 (R.1.1 : Int),.int .i64 R.1.2])) w') :
  Calls Tryz.prog 13 #[.pointer (some ⟨b,0,none⟩),.agg #[.int .i64 K,.int .i64 N],.string (dig bl)] w Q:=by
 have e:=hW.len
 subst e
 exact mend_lit h hl hW.lit hm hN hb hlt (Left.on hW hm hN hb) (hW.ok fun m s _ hs=>hs.fit) (by decide) Q hqW hqL (fun a c=>hqM a c _ rfl)
/-- the example's blob -/
def blA : List Nat:=[115,111,109,101,32,98,108,111,98]
set_option maxHeartbeats 8000000 in
set_option maxRecDepth 20000 in
theorem awake_true (w : World) (hl : H.Lay w) : Calls Tryz.prog 7 #[] w fun e w'=>e = .returned (.bool true) /\ Below w.heap.size w w':=by
 have hm : C.Mx.mayC 2 3 = true:=by decide
 have hbs : C.ofBs blA = ⟨#[115,111,109,101,32,98,108,111,98]⟩:=by kernel_rfl
 have hlt : ∀ x ∈ blA,x < 256:=by decide
 have hb : blA.length <= 32768:=by decide
 have HBS:=hid hbs
 have HLT:=hid hlt
 have HBL:=hid hb
 have HL:=hid hl
 clear hbs hlt hb hl
 generalize blA = bl at *
 go_enter Tryz.func7,Tryz.ntmps7
 go_wp2_with fail
 refine wnew_any _ 3 _ (fun h=>absurd ⟨by decide,by decide⟩ h) ?_
 intro _ b g S l w1 h1 h2 h3 h4 h5
 have HW1:=hid (show WT w w1 b (newW l) (fun _=>False) from ⟨S,g,h1,h4,h5,fun i hi=>hi.elim⟩)
 have HN:=hid (show WI 3 (fun _ s=>s = st0) (newW l) from WI.fresh h2 h3)
 clear h1 h2 h3 h4 h5
 obtain ⟨q,hq⟩ : ∃ q,q = w1.heap.size:=⟨_,rfl⟩
 obtain ⟨wa,hwa⟩ : ∃ wa,wa = w1.alloc (.cells #[.int .i64 2,.int .i64 3] 23):=⟨_,rfl⟩
 have hX:=Has.new w1 w1.heap.size #[.int .i64 2,.int .i64 3] 23 rfl
 have hBa:=boxed w1 (.cells #[.int .i64 2,.int .i64 3] 23)
 obtain ⟨c0,c1,_,_⟩:=two_cells hX
 rw [<- hwa] at hX hBa
 rw [<- hq] at hX
 have HX:=hid hX
 have HWA:=hid ((HW1.out.new hBa).sub (T':=fun i=>i = q) fun i hi=>.inr ⟨by omega,by rw [hi]; exact hX.lt⟩)
 clear hX hBa
 go_wp2_with fail
 rw [<- hwa,<- hq]
 clear c0 c1 hwa hq
 rw [<- HBS.out]
 refine fill_any (kk:=2) HWA.out HL.out HN.out rfl hm HBL.out HLT.out _ ?_
 intro V2 w2 h2 k2 f2 n2
 have HX2:=hid (k2.has rfl HX.out)
 obtain ⟨s1,s2,s3,s4,s5⟩:=wiped f2 HBL.out
 have HST:=h2.strike (N:=100) (f2.all fun m s hmn hs=>fillP_fit hm HBL.out (by omega) hs) (by decide) 1 1 0 0 0 (by decide) (by decide) (by decide) (by decide)
 rw [s1] at HST
 unfold ptr fv W.er at HST
 have HS2:=hid s2
 have HS3:=hid s3
 have HS5:=hid s5
 have HS4 : Hid ((strikeW V2 1 1 0 0 0).2.calls = 6):=hid (by rw [s4,n2])
 clear h2 k2 s1 s2 s3 s4 s5 f2 n2
 generalize (strikeW V2 1 1 0 0 0).2 = V3 at *
 obtain ⟨dg,hdg⟩ : ∃ dg,dg = dig bl:=⟨_,rfl⟩
 have HDG:=hid hdg
 rw [<- hdg]
 clear hdg
 go_wp2_with fail
 refine HST.mono ?_
 clear HST
 rintro _ w3 ⟨rfl,h3,k3⟩
 have HW3:=hid h3
 have HX3:=hid (k3.has rfl HX2.out)
 clear h3 k3
 obtain ⟨c0,c1,_,_⟩:=two_cells HX3.out
 have HOF1 : ∀ Q : Ending -> World -> Prop,(∀ w' g,WT w w' b { V3 with calls:=V3.calls + 3 } (fun i=>i = q \/ i = g) -> Kpt (fun i=>i = q) w3 w' -> Has w' g (bRow [true,false,true]) 4 -> w3.heap.size <= g -> Q (.returned (.tuple #[.slice (some ⟨g,0,none⟩) 3 3,.int .i64 0])) w') -> Calls Tryz.prog 11 #[.pointer (some ⟨b,0,none⟩),.agg #[.int .i64 2,.int .i64 3],.string dg] w3 Q:=fun Q hq=>by
  rw [HDG.out]
  refine of_n HW3.out HL.out HS2.out hm rfl Q ?_
  rw [HS3.out]
  exact hq
 go_wp2_with fail
 refine HOF1 _ ?_
 clear HOF1 c0 c1
 intro w4 g1 h4 k4 hg1 hgs1
 have HW4:=hid h4
 have HG4:=hid hg1
 have HX4:=hid (k4.has rfl HX3.out)
 clear h4 k4 hg1 hgs1
 obtain ⟨c0,c1,_,_⟩:=two_cells HX4.out
 have HME : ∀ Q : Ending -> World -> Prop,(∀ V5 w',WT w w' b V5 (fun i=>i = q \/ i = g1) -> Kpt (fun i=>i = q \/ i = g1) w4 w' -> LeftW 2 3 bl 3 V5 -> cntT (sdL 2 3 (dig bl) V5.l) = 3 -> Q (.returned (.tuple #[.int .i64 1,.int .i64 0])) w') -> Calls Tryz.prog 13 #[.pointer (some ⟨b,0,none⟩),.agg #[.int .i64 2,.int .i64 3],.string dg] w4 Q:=fun Q hq=>by
  rw [HDG.out]
  have hL4 : LeftW 2 3 bl 3 { V3 with calls:=V3.calls + 3 }:=HS2.out.more (by rw [HS4.out]; decide)
  have hsn : sndN 2 3 bl 0 V3.l = 2:=by
   unfold sndN
   rw [<- sdL_cnt,HS3.out]
   rfl
  refine mend_n HW4.out HL.out hL4 hm rfl HBL.out HLT.out Q (fun e=>?_) (fun e=>?_) (fun _ _ R hR w' h5 k5=>?_)
  ·have : sndN 2 3 bl 0 V3.l = 3:=e
   omega
  ·have : ((sndN 2 3 bl 0 V3.l : Nat) : Int) < 2:=e
   omega
  ·obtain ⟨r1,r2,r3⟩:=mended3 hL4 HBL.out HS3.out (by show V3.calls + 3 <= 50; rw [HS4.out]; decide) HS5.out hR
   rw [r1]
   exact hq R.2 w' h5 k5 r2 r3
 go_wp2_with fail
 refine HME _ ?_
 clear HME c0 c1
 intro V5 w5 h5 k5 f5 n5
 have HW5:=hid h5
 have HX5:=hid (k5.has (.inl rfl) HX4.out)
 have HG5:=hid (k5.has (.inr rfl) HG4.out)
 have HF5:=hid f5
 have HN5:=hid n5
 clear h5 k5 f5 n5
 obtain ⟨c0,c1,_,_⟩:=two_cells HX5.out
 have HOF2 : ∀ Q : Ending -> World -> Prop,(∀ w' g,WT w w' b { V5 with calls:=V5.calls + 3 } (fun i=>(i = q \/ i = g1) \/ i = g) -> Kpt (fun i=>i = q \/ i = g1) w5 w' -> Has w' g (bRow (sdL 2 3 (dig bl) V5.l)) 4 -> w5.heap.size <= g -> Q (.returned (.tuple #[.slice (some ⟨g,0,none⟩) 3 3,.int .i64 0])) w') -> Calls Tryz.prog 11 #[.pointer (some ⟨b,0,none⟩),.agg #[.int .i64 2,.int .i64 3],.string dg] w5 Q:=fun Q hq=>by
  rw [HDG.out]
  exact of_n HW5.out HL.out HF5.out hm rfl Q hq
 go_wp2_with fail
 refine HOF2 _ ?_
 clear HOF2 c0 c1
 intro w6 g2 h6 k6 hg2 hgs2
 have hG6:=k6.has (.inr rfl) HG5.out
 have d0 : w6.cell? ⟨g1,0,none⟩ = some (.bool true):=hG6.cell 0
 have d1 : w6.cell? ⟨g1,1,none⟩ = some (.bool false):=hG6.cell 1
 have d2 : w6.cell? ⟨g1,2,none⟩ = some (.bool true):=hG6.cell 2
 have HCN:=countL_any (n:=3) hg2 (by rw [sdL_len]; exact HF5.out.len) (by decide)
 rw [HN5.out] at HCN
 have HBF:=hid h6.base
 clear h6 k6 hg2 hgs2 hG6
 go_wp2_with fail
 refine HCN.mono ?_
 clear HCN
 rintro _ w6 ⟨rfl,rfl⟩
 go_wp2_with fail
 go_ret
 exact ⟨rfl,HBF.out⟩
end Go.Proofs.YteapbbaollmniaaGreatDoor
/- Lists that a call makes by append: what they hold; the laws of append at this program's element types. -/
namespace Go.Proofs.YteapbbaollmniaaGreatDoor.H
open Go.RowKit
/-- an element type of one cell, and the list type of it -/
structure Elem (t e : TypeId) (z : Value) (bytes : Nat) : Prop where
 ht : Tryz.prog.underlying t = some (.slice e)
 hi : (Tryz.prog.info? e).map (fun i=>(i.zero,i.size,i.bytes)) = some (some z,1,bytes)
 hz : z.cells.size = 1
 hb : bytes <= 16
theorem el5 : Elem 136 5 (.int .u8 0) 1:=⟨Tryz.underlying136,by kernel_rfl,rfl,by decide⟩
theorem el40 : Elem 133 139 (.int .u32 0) 4:=⟨Tryz.underlying133,by kernel_rfl,rfl,by decide⟩
theorem el9 : Elem 80 9 (.string ⟨#[]⟩) 16:=⟨Tryz.underlying80,by kernel_rfl,rfl,by decide⟩
theorem Elem.info {t e : TypeId} {z : Value} {bytes : Nat} (E : Elem t e z bytes) : ∃ i,Tryz.prog.info? e = some i /\ i.zero = some z /\ i.size = 1 /\ i.bytes = bytes:=by
 have h:=E.hi
 cases hq : Tryz.prog.info? e with
 | none=>rw [hq] at h; simp at h
 | some i =>
  rw [hq] at h
  simp only [Option.map_some,Option.some.injEq,Prod.mk.injEq] at h
  exact ⟨i,rfl,h⟩
/-- the list v, made by the call itself (from block base on), holds these cells -/
def Owns (e : TypeId) (base : Nat) (v : Value) (xs : List Value) (w : World) : Prop:=w.ownsRow base e 1 v xs.length xs
theorem Owns.nil (e : TypeId) (base : Nat) (w : World) : Owns e base (.slice none 0 0) [] w:=World.ownsRow_nil w base e 1
theorem Owns.alloc {e : TypeId} {base : Nat} {v : Value} {xs : List Value} {w : World} (h : Owns e base v xs w) (o : Obj) : Owns e base v xs (w.alloc o):=World.ownsRow.alloc h o
theorem Owns.base_le {e : TypeId} {base : Nat} {v : Value} {xs : List Value} {w : World} (h : Owns e base v xs w) : ∀ k,v.ownBlock = some k -> base <= k /\ k < w.heap.size:=World.ownsRow.lt h
theorem Owns.below {e : TypeId} {base : Nat} {v : Value} {xs : List Value} {w w' : World} (h : Owns e base v xs w) (hb : Below w.heap.size w w') : Owns e base v xs w':=by
 obtain ⟨h1,h2⟩:=h
 refine ⟨h1,?_⟩
 rcases h2 with h2 | ⟨g,cap,cur,hv,hg,hh,h3⟩
 ·exact .inl h2
 ·exact .inr ⟨g,cap,cur,hv,hg,by rw [hb.block g (Array.getElem?_eq_some_iff.1 hh).1]; exact hh,h3⟩
theorem Owns.form {e : TypeId} {base : Nat} {v : Value} {xs : List Value} {w : World} (h : Owns e base v xs w) (hp : 0 < xs.length) : ∃ g cap,v = .slice (some ⟨g,0,none⟩) xs.length cap /\ xs.length <= cap /\ cap <= maxLen /\ base <= g /\ g < w.heap.size /\ ∀ j,w.cell? ⟨g,j,none⟩ = none \/ (j < xs.length -> w.cell? ⟨g,j,none⟩ = xs[j]?):=by
 obtain ⟨h1,h2⟩:=h
 rcases h2 with ⟨_,h0⟩ | ⟨g,cap,cur,hv,hg,hh,h3,h4,h5,h6⟩
 ·omega
 ·refine ⟨g,cap,hv,h3,h4,hg,(Array.getElem?_eq_some_iff.1 hh).1,fun j=>.inr fun hj=>?_⟩
  have hc : w.cell? ⟨g,j,none⟩ = cur[j]?:=by simp [World.cell?,hh]
  rw [hc,<- h6,List.getElem?_take,if_pos (by omega)]; simp
theorem Owns.cell {e : TypeId} {base g cap n : Nat} {xs : List Value} {w : World} (h : Owns e base (.slice (some ⟨g,0,none⟩) n cap) xs w) (j : Nat) (hj : j < xs.length) : w.cell? ⟨g,j,none⟩ = xs[j]?:=by
 obtain ⟨h1,h2⟩:=h
 rcases h2 with ⟨h0,_⟩ | ⟨g',cap',cur,hv,hg,hh,h3,h4,h5,h6⟩
 ·simp at h0
 ·simp only [Value.slice.injEq,Option.some.injEq,Addr.mk.injEq] at hv
  obtain ⟨⟨rfl,_⟩,_,rfl⟩:=hv
  have hc : w.cell? ⟨g,j,none⟩ = cur[j]?:=by simp [World.cell?,hh]
  rw [hc]
  have h7 : xs[j]? = (cur.toList.take (xs.length * 1))[j]?:=by rw [h6]
  rw [h7,List.getElem?_take,if_pos (by omega)]; simp
theorem Owns.kept {e : TypeId} {base : Nat} {v v' : Value} {xs : List Value} {w w' : World} (h : Owns e base v xs w) (hg : w.grownBy w' v'.ownBlock) (hne : v.ownBlock = none \/ v.ownBlock ≠ v'.ownBlock) : Owns e base v xs w':=World.ownsRow.kept h hg hne
theorem wpList_app {t e : TypeId} {z : Value} {bytes : Nat} (E : Elem t e z bytes) {ops : Array Oper} {rest : List Oper} {o : Oper} {a : Act} {w : World} {Q : Exit -> Act -> World -> Prop} (hgd : o.guard = none) (s x : Operand)
  (ho : o.op = .call { callee:=.builtin .append,args:=#[s,x],argTypes:=#[t,t] }) (base : Nat) (v : Value) (xs : List Value) (hs : a.eval s = v) (hown : Owns e base v xs w)
  (b c : Nat) (news : Array Value) (hx : a.eval x = .slice (some ⟨b,0,none⟩) news.size c) (hnews : Has w b news e) (h1 : ∀ u ∈ news.toList,u.oneCell' = true) (hm : 0 < news.size) (h63 : xs.length + news.size <= 1000000000000) (hbase : base <= w.heap.size)
  (h : ∀ g cap w',Owns e base (.slice (some ⟨g,0,none⟩) (xs.length + news.size) cap) (xs ++ news.toList) w' -> w.grownBy w' v.ownBlock -> (v.ownBlock = some g \/ g = w.heap.size) -> Below base w w' -> wpList Tryz.prog ops Q rest (a.put o.dst (.slice (some ⟨g,0,none⟩) (xs.length + news.size) cap)) w') : wpList Tryz.prog ops Q (o :: rest) a w:=by
 obtain ⟨i,hi,hz0,hz1,hz2⟩:=E.info
 have hbd:=E.hb
 refine wpList_append_lies w hgd s x t ho base e i z 1 bytes E.ht hi hz0 hz1 hz2 E.hz (by decide) v xs.length xs hs hown ⟨b,0,none⟩ news.size c news.toList hx (by simp) (World.news_of_block hnews) h1 hm (by unfold maxLen; omega) (Nat.le_trans (Nat.mul_le_mul h63 hbd) (by decide)) hbase w.heap.size rfl ?_
 intro g cap w' h2 h3 h4 h5
 refine h g cap w' ?_ h3 h4 ((Below.refl base w).grown h3 hbase (fun k hk=>(hown.base_le k hk).1))
 show w'.ownsRow base e 1 _ (xs ++ news.toList).length _
 rw [List.length_append,Array.length_toList]; exact h2
theorem step_app {t e : TypeId} {z : Value} {bytes : Nat} (E : Elem t e z bytes) {ops : Array Oper} {o : Oper} {a : Act} {w : World} {K : Act -> World -> Prop} {Q : Exit -> Act -> World -> Prop} {F : Prop} (hgd : o.guard = none) (s x : Operand)
  (ho : o.op = .call { callee:=.builtin .append,args:=#[s,x],argTypes:=#[t,t] }) (base : Nat) (v : Value) (xs : List Value) (hs : a.eval s = v) (hown : Owns e base v xs w)
  (b c : Nat) (news : Array Value) (hx : a.eval x = .slice (some ⟨b,0,none⟩) news.size c) (hnews : Has w b news e) (h1 : ∀ u ∈ news.toList,u.oneCell' = true) (hm : 0 < news.size) (h63 : xs.length + news.size <= 1000000000000) (hbase : base <= w.heap.size)
  (h : ∀ g cap w',Owns e base (.slice (some ⟨g,0,none⟩) (xs.length + news.size) cap) (xs ++ news.toList) w' -> w.grownBy w' v.ownBlock -> (v.ownBlock = some g \/ g = w.heap.size) -> Below base w w' -> K (a.put o.dst (.slice (some ⟨g,0,none⟩) (xs.length + news.size) cap)) w') :
  if Region.wanted o (yielded ops a.tmps) = true then Oper.wp Tryz.prog o a w K Q else F:=by
 obtain ⟨i,hi,hz0,hz1,hz2⟩:=E.info
 have hbd:=E.hb
 refine step_append_lies w hgd s x t ho base e i z 1 bytes E.ht hi hz0 hz1 hz2 E.hz (by decide) v xs.length xs hs hown ⟨b,0,none⟩ news.size c news.toList hx (by simp) (World.news_of_block hnews) h1 hm (by unfold maxLen; omega) (Nat.le_trans (Nat.mul_le_mul h63 hbd) (by decide)) hbase w.heap.size rfl ?_
 intro g cap w' h2 h3 h4 h5
 refine h g cap w' ?_ h3 h4 ((Below.refl base w).grown h3 hbase (fun k hk=>(hown.base_le k hk).1))
 show w'.ownsRow base e 1 _ (xs ++ news.toList).length _
 rw [List.length_append,Array.length_toList]; exact h2
end Go.Proofs.YteapbbaollmniaaGreatDoor.H
/- The document's roots, over Nat: just what its words do. No program in it. -/
namespace Go.Proofs.YteapbbaollmniaaGreatDoor.H
namespace Ref
def dg (n : Nat) : List Nat:=[n % 65536,n / 65536 % 65536,n / 65536 / 65536 % 65536,n / 65536 / 65536 / 65536]
/-- one digit's product, behind k steps -/
def inn (a : Nat) (b : List Nat) (i : Nat) (o : List Nat) : Nat -> List Nat × Nat
 | 0=>(o,0)
 | k + 1=>match inn a b i o k with
  | (p,c)=>(p.set (i + k) (((p.getD (i + k) 0 + a * b.getD k 0 % 18446744073709551616) % 18446744073709551616 + c) % 18446744073709551616 % 65536),((p.getD (i + k) 0 + a * b.getD k 0 % 18446744073709551616) % 18446744073709551616 + c) % 18446744073709551616 / 65536)
def outer (a b : List Nat) : Nat -> List Nat
 | 0=>List.replicate (a.length + b.length) 0
 | i + 1=>match inn (a.getD i 0) b i (outer a b i) b.length with
  | (p,c)=>p.set (i + b.length) ((p.getD (i + b.length) 0 + c) % 18446744073709551616)
def tms (a b : List Nat) : List Nat:=outer a b a.length
def want (n nt i : Nat) : Nat:=if nt <= i /\ i < nt + 4 then (dg n).getD (i - nt) 0 else 0
def ab (a : List Nat) (n nt : Nat) : Nat -> Bool
 | 0=>false
 | i + 1=>if a.getD i 0 = want n nt i then ab a n nt i else decide (want n nt i < a.getD i 0)
def addAt (k : Nat) : Nat:=68719476736 / 2 ^ k
def cubed (root : Nat) (d : List Nat) : List Nat:=if root = 3 then tms (tms d d) d else tms d d
def nts (root : Nat) : Nat:=if root = 3 then 6 else 4
def bit (n root x add : Nat) : Nat :=
 match cubed root (dg ((x + add) % 18446744073709551616)) with
 | q=>if ab q n (nts root) q.length then x else (x + add) % 18446744073709551616
def bitsTo (n root : Nat) : Nat -> Nat
 | 0=>0
 | k + 1=>bit n root (bitsTo n root k) (addAt k)
def bitsOf (n root : Nat) : Nat:=bitsTo n root 37 % 4294967296
def primes : List Nat:=[2,3,5,7,11,13,17,19,23,29,31,37,41,43,47,53,59,61,67,71,73,79,83,89,97,101,103,107,109,113,127,131,137,139,149,151,157,163,167,173,179,181,191,193,197,199,211,223,227,229,233,239,241,251,257,263,269,271,277,281,283,293,307,311]
/-- is n a prime: as the words look for it -/
def lp (n : Nat) : Nat -> Nat -> Bool -> Bool
 | 0,_,is=>is
 | f + 1,d,is=>if d * d <= n /\ is = true then lp n f (d + 1) (decide (n % d ≠ 0)) else is
def isP (n : Nat) : Bool:=lp n 40 2 true
/-- how many primes are below n -/
def cnt (n : Nat) : Nat:=(primes.filter (fun p=>Nat.blt p n)).length
theorem inn_length (a : Nat) (b : List Nat) (i : Nat) (o : List Nat) (k : Nat) : (inn a b i o k).1.length = o.length:=by
 induction k with
 | zero=>rfl
 | succ k ih=>simp only [inn,List.length_set,ih]
theorem outer_length (a b : List Nat) (i : Nat) : (outer a b i).length = a.length + b.length:=by
 induction i with
 | zero=>exact List.length_replicate
 | succ i ih=>simp only [outer,List.length_set,inn_length,ih]
theorem tms_length (a b : List Nat) : (tms a b).length = a.length + b.length:=outer_length a b _
theorem dg_length (n : Nat) : (dg n).length = 4:=rfl
set_option maxRecDepth 100000 in
theorem cnt_facts : ∀ n : Fin 312,(isP n.val = true -> 2 <= n.val -> primes.getD (cnt n.val) 0 = n.val /\ cnt (n.val + 1) = cnt n.val + 1 /\ cnt n.val < 64) /\ (isP n.val = false -> cnt (n.val + 1) = cnt n.val):=by decide +kernel
set_option maxRecDepth 100000 in
theorem cnt_low : ∀ n : Fin 312,cnt n.val < 64:=by decide +kernel
theorem cnt_end : cnt 312 = 64:=by decide +kernel
theorem cnt_two : cnt 2 = 0:=by decide +kernel
end Ref
end Go.Proofs.YteapbbaollmniaaGreatDoor.H
