/- Health: a shard is made again. -/
import Derived.Test.YteapbbaollmniaaGreatDoorG6
namespace Go.Proofs.YteapbbaollmniaaGreatDoor
open Go.RowKit Go.Maps
open W
set_option linter.unusedVariables false
variable {w0 w w' : World} {b : Nat} {V V' : Wd} {T : Nat -> Prop}
/-- what the closure has: the code, what the first sound ones gave, the digest, the world -/
structure MX (T : Nat -> Prop) (cb hb pb db wb b : Nat) (K N : Int) (d : ByteArray) (fs : List (Nat × ByteArray)) (B : Nat) (vh vp : Value) (w : World) : Prop where
 c : Has w cb #[.int .i64 K,.int .i64 N] 23
 h : Has w hb #[vh] 56
 p : Has w pb #[vp] 80
 dg : Has w db #[.string d] 9
 wp : Has w wb #[.pointer (some ⟨b,0,none⟩)] 27
 rh : w.ownsRow B 3 1 vh fs.length (rdInts fs)
 rp : w.ownsRow B 9 1 vp fs.length (rdStrs fs)
 tc : T cb
 th : T hb
 tp : T pb
 td : T db
 tw : T wb
 trh : ∀ q,vh.ownBlock = some q -> T q
 trp : ∀ q,vp.ownBlock = some q -> T q
theorem MX.kept {cb hb pb db wb b : Nat} {K N : Int} {d : ByteArray} {fs : List (Nat × ByteArray)} {B : Nat} {vh vp : Value} (h : MX T cb hb pb db wb b K N d fs B vh vp w) (hk : Kpt T w w') : MX T cb hb pb db wb b K N d fs B vh vp w' :=
 {h with c:=hk.has h.tc h.c,h:=hk.has h.th h.h,p:=hk.has h.tp h.p,dg:=hk.has h.td h.dg,wp:=hk.has h.tw h.wp,rh:=hk.row h.rh h.trh,rp:=hk.row h.rp h.trp }
/-- an object is put, and the store is synced -/
def againG (V : Wd) (i : Nat) (o : Ob) : Int × Wd:=if (askS V (i : Int) fun s=>putS s o.1 o.2).1 ≠ 0 then askS V (i : Int) fun s=>putS s o.1 o.2 else askS (askS V (i : Int) fun s=>putS s o.1 o.2).2 (i : Int) W.sync
theorem Ok.again {M n : Nat} (h : Ok M n V) (i : Nat) (o : Ob) : Ok (M + 2) n (againG V i o).2:=by
 unfold againG
 split
 ·exact (h.put (i : Int) o.1 o.2).more (by omega)
 ·exact (h.put (i : Int) o.1 o.2).sync (i : Int)
set_option maxHeartbeats 8000000 in
set_option maxRecDepth 20000 in
theorem again_any {cb hb pb db wb : Nat} {K N : Int} {d : ByteArray} {fs : List (Nat × ByteArray)} {B : Nat} {vh vp : Value} (h : WT w0 w b V T) (hx : MX T cb hb pb db wb b K N d fs B vh vp w) (hl : H.Lay w0) (hfs : fs.length <= 1000) (hfi : ∀ p ∈ fs,p.1 <= 1000) {M n : Nat} (hok : Ok M n V) (hM : M + 10 <= 900000) (i : Nat) (og : Ob) (hob : ∀ p er,C.RebIs K N (zsOf fs) (psOf fs) (i : Int) p er -> (H.mkN K N d (i : Int) (C.ofBs p),H.mkD K N d (i : Int) (C.ofBs p)) = og) (Q : Ending -> World -> Prop)
  (hq : ∀ w',WT w0 w' b (againG V i og).2 T -> Kpt T w w' -> Q (.returned (.int .i64 (againG V i og).1)) w') : Calls Tryz.prog 40 #[.int .i64 (i : Int),.pointer (some ⟨cb,0,none⟩),.pointer (some ⟨hb,0,none⟩),.pointer (some ⟨pb,0,none⟩),.pointer (some ⟨db,0,none⟩),.pointer (some ⟨wb,0,none⟩)] w Q:=by
 have HQ:=hid hq
 have HX:=hid hx
 have HL:=hid hl
 have HW:=hid h
 have HOK:=hid hok
 have HOB:=hid hob
 have HRB:=C.rebuild_any K N (i : Int) vh vp (zsOf fs) (psOf fs) w (ints_of hx.rh hfs hfi) (strs_of hx.rp hfs)
 unfold C.cv at HRB
 obtain ⟨c0,c1,_,_⟩:=two_cells hx.c
 have c2:=hx.h.cell 0
 have c3:=hx.p.cell 0
 simp only [List.getElem?_toArray,List.getElem?_cons_zero] at c2 c3
 clear h hq hx hl hok hob
 go_enter Tryz.func40,Tryz.ntmps40
 go_wp2_with fail
 refine HRB.mono ?_
 clear HRB c0 c1 c2 c3
 rintro _ w1 ⟨s,er,rfl,hr,_,hb1⟩
 have HO:=hid (HOB.out s er hr)
 clear hr
 have HW1:=hid (HW.out.below hb1)
 have HK1:=hid (Kpt.below HW.out hb1)
 have HX1:=hid (HX.out.kept HK1.out)
 clear hb1
 obtain ⟨c0,c1,_,_⟩:=two_cells HX1.out.c
 have c4:=HX1.out.dg.cell 0
 simp only [List.getElem?_toArray,List.getElem?_cons_zero] at c4
 have HMK:=H.make_any K N d (i : Int) (C.ofBs s) w1 (HW1.out.lay HL.out)
 unfold H.shc H.mkV H.obv at HMK
 generalize H.mkN K N d (i : Int) (C.ofBs s) = on at *
 generalize H.mkD K N d (i : Int) (C.ofBs s) = od at *
 generalize H.mkE K N d (i : Int) (C.ofBs s) = oe at *
 generalize C.ofBs s = pay at *
 have hOG : og = (on,od):=HO.out.symm
 subst hOG
 clear HO
 go_wp2_with fail
 refine HMK.mono ?_
 clear HMK c0 c1 c4
 rintro _ w2 ⟨rfl,hb2⟩
 obtain ⟨w3,hw3⟩ : ∃ w3,w3 = w2.alloc (.cells #[.string on,.string od] 101):=⟨_,rfl⟩
 have hb3 : Below w1.heap.size w1 w3:=by rw [hw3]; exact hb2.alloc hb2.size _
 have HB:=hid (show Has w3 w2.heap.size #[.string on,.string od] 101 from by rw [hw3]; exact Has.new _ _ _ _ rfl)
 have HW3:=hid ((HW1.out.new hb3).sub (T':=fun i=>T i \/ i = w2.heap.size) fun i hi=>by
  rcases hi with hi | hi
  ·exact .inl hi
  ·exact .inr ⟨by rw [hi]; exact hb2.size,by rw [hi]; exact HB.out.lt⟩)
 have HK3:=hid (HK1.out.trans (Kpt.below HW1.out hb3))
 have HX3:=hid (HX.out.kept HK3.out)
 have c5 : w3.cell? ⟨wb,0,none⟩ = some (.pointer (some ⟨b,0,none⟩)):=HX3.out.wp.cell 0
 obtain ⟨c6,c7,_,_⟩:=two_cells HB.out
 have hcc:=HOK.out.calls
 have HPT:=HW3.out.put (by omega) HOK.out.left HOK.out.fit (by omega) (i : Int) on od
 unfold ptr obv W.er at HPT
 have HAG : Hid (againG V i (on,od) = if (askS V (i : Int) fun s=>putS s on od).1 ≠ 0 then askS V (i : Int) fun s=>putS s on od else askS (askS V (i : Int) fun s=>putS s on od).2 (i : Int) W.sync):=hid rfl
 have HOP:=hid (HOK.out.put (i : Int) on od)
 rw [hw3] at c5 c6 c7 HPT
 generalize (askS V (i : Int) fun s=>putS s on od) = pr at *
 obtain ⟨pe,V1⟩:=pr
 simp only at HPT HAG HOP
 clear hb2 hb3
 go_wp2_with fail
 refine HPT.mono ?_
 clear HPT c5 c6 c7
 rintro _ w4 ⟨rfl,h4,k4⟩
 rw [<- hw3] at k4
 have HW4:=hid (h4.sub (T':=T) fun i hi=>.inl hi)
 have HK4:=hid (HK3.out.trans (k4.sub fun i hi=>.inl hi))
 have HX4:=hid (HX.out.kept HK4.out)
 clear h4 k4 hw3
 by_cases hpe : pe = 0
 ·subst hpe
  rw [if_neg (by simp)] at HAG
  have HSY:=HW4.out.sync (by have:=HOP.out.calls; omega) HOP.out.left (i : Int)
  unfold ptr W.er at HSY
  have c5 : w4.cell? ⟨wb,0,none⟩ = some (.pointer (some ⟨b,0,none⟩)):=HX4.out.wp.cell 0
  generalize askS V1 (i : Int) W.sync = sr at *
  obtain ⟨se,V2⟩:=sr
  simp only at HSY
  have HE : Hid (∀ w',WT w0 w' b V2 T -> Kpt T w w' -> Q (.returned (.int .i64 se)) w'):=hid (by
   have:=HQ.out
   rw [HAG.out] at this
   exact this)
  clear HAG
  go_wp2_with fail
  refine HSY.mono ?_
  clear HSY c5
  rintro _ w5 ⟨rfl,h5,k5⟩
  have HF:=hid (HE.out w5 h5 (HK4.out.trans k5))
  clear h5 k5
  go_wp2_with fail
  exact HF.out
 ·rw [if_pos hpe] at HAG
  have HF : Hid (Q (.returned (.int .i64 pe)) w4):=hid (by
   have:=HQ.out w4
   rw [HAG.out] at this
   exact this HW4.out HK4.out)
  have p1 : ¬ (pe = 0):=hpe
  clear HAG hpe
  go_wp2_with fail
  exact HF.out
end Go.Proofs.YteapbbaollmniaaGreatDoor
/- Health: those that are not sound are made again. Printed by gen_g8.py. -/
namespace Go.Proofs.YteapbbaollmniaaGreatDoor
open Go.RowKit Go.Maps
open W
set_option linter.unusedVariables false
variable {w0 w w' : World} {b : Nat} {V V' : Wd} {T : Nat -> Prop}
/-- store by store: how many were made again, and what is worst -/
def mendG (og : Nat -> Ob) : List Gt -> Nat -> Nat -> Int -> Wd -> (Nat × Int) × Wd
 | [],_,m,wo,V=>((m,wo),V)
 | x :: r,i,m,wo,V =>
  if x.sd then mendG og r (i + 1) m wo V
  else if (if x.e = 0 \/ x.e = 5 then againG V i (og i) else (x.e,V)).1 = 0 then mendG og r (i + 1) (m + 1) wo (if x.e = 0 \/ x.e = 5 then againG V i (og i) else (x.e,V)).2
  else if (if x.e = 0 \/ x.e = 5 then againG V i (og i) else (x.e,V)).1 = 56 then ((m,(if x.e = 0 \/ x.e = 5 then againG V i (og i) else (x.e,V)).1),(if x.e = 0 \/ x.e = 5 then againG V i (og i) else (x.e,V)).2)
  else mendG og r (i + 1) m (if (if x.e = 0 \/ x.e = 5 then againG V i (og i) else (x.e,V)).1 = 52 then 52 else if wo = 0 then 53 else wo) (if x.e = 0 \/ x.e = 5 then againG V i (og i) else (x.e,V)).2
theorem mendG_cons (og : Nat -> Ob) (x : Gt) (r : List Gt) (i m : Nat) (wo : Int) (V : Wd) {q : Int × Wd} (hx : x.sd = false) (hq : (if x.e = 0 \/ x.e = 5 then againG V i (og i) else (x.e,V)) = q) : mendG og (x :: r) i m wo V = if q.1 = 0 then mendG og r (i + 1) (m + 1) wo q.2 else if q.1 = 56 then ((m,q.1),q.2) else if q.1 = 52 then mendG og r (i + 1) m 52 q.2 else if wo = 0 then mendG og r (i + 1) m 53 q.2 else mendG og r (i + 1) m wo q.2:=by
 have e : mendG og (x :: r) i m wo V = if x.sd then mendG og r (i + 1) m wo V
  else if (if x.e = 0 \/ x.e = 5 then againG V i (og i) else (x.e,V)).1 = 0 then mendG og r (i + 1) (m + 1) wo (if x.e = 0 \/ x.e = 5 then againG V i (og i) else (x.e,V)).2
  else if (if x.e = 0 \/ x.e = 5 then againG V i (og i) else (x.e,V)).1 = 56 then ((m,(if x.e = 0 \/ x.e = 5 then againG V i (og i) else (x.e,V)).1),(if x.e = 0 \/ x.e = 5 then againG V i (og i) else (x.e,V)).2)
  else mendG og r (i + 1) m (if (if x.e = 0 \/ x.e = 5 then againG V i (og i) else (x.e,V)).1 = 52 then 52 else if wo = 0 then 53 else wo) (if x.e = 0 \/ x.e = 5 then againG V i (og i) else (x.e,V)).2:=rfl
 rw [e,hx,if_neg (by decide),hq]
 by_cases h0 : q.1 = 0
 ·rw [if_pos h0,if_pos h0]
 ·rw [if_neg h0,if_neg h0]
  by_cases h1 : q.1 = 56
  ·rw [if_pos h1,if_pos h1]
  ·rw [if_neg h1,if_neg h1]
   by_cases h2 : q.1 = 52
   ·rw [if_pos h2,if_pos h2]
   ·rw [if_neg h2,if_neg h2]
    by_cases h3 : wo = 0
    ·rw [if_pos h3,if_pos h3]
    ·rw [if_neg h3,if_neg h3]
set_option maxHeartbeats 16000000 in
set_option maxRecDepth 20000 in
theorem mended_any {cb hb pb db wx g n : Nat} {K N : Int} {d : ByteArray} {fs : List (Nat × ByteArray)} {B : Nat} {vh vp : Value} {gs : List Gt} (h : WT w0 w b V T) (hx : MX T cb hb pb db wx b K N d fs B vh vp w) (hg : Has w g (gRow gs n) 144) (hTg : T g) (hn : gs.length = n) (hn12 : n <= 12) (hl : H.Lay w0) (hfs : fs.length <= 1000) (hfi : ∀ p ∈ fs,p.1 <= 1000) {M nn : Nat} (hok : Ok M nn V) (hM : M + 100 <= 900000) (og : Nat -> Ob) (hob : ∀ i,i < n -> ∀ p er,C.RebIs K N (zsOf fs) (psOf fs) (i : Int) p er -> (H.mkN K N d (i : Int) (C.ofBs p),H.mkD K N d (i : Int) (C.ofBs p)) = og i) (Q : Ending -> World -> Prop)
  (hq : ∀ w',WT w0 w' b (mendG og gs 0 0 0 V).2 T -> Kpt T w w' -> Q (.returned (.tuple #[.int .i64 ((mendG og gs 0 0 0 V).1.1 : Int),.int .i64 (mendG og gs 0 0 0 V).1.2])) w') : Calls Tryz.prog 39 #[.slice (some ⟨g,0,none⟩) n n,.func (.func 40) #[] #[.pointer (some ⟨cb,0,none⟩),.pointer (some ⟨hb,0,none⟩),.pointer (some ⟨pb,0,none⟩),.pointer (some ⟨db,0,none⟩),.pointer (some ⟨wx,0,none⟩)]] w Q:=by
 have HQ:=hid hq
 have HX:=hid hx
 have HL:=hid hl
 have HW:=hid h
 have HG:=hid hg
 have HOK:=hid hok
 have HOB:=hid hob
 have HFS:=hid hfs
 have HFI:=hid hfi
 have HNN:=hid hn
 clear h hq hx hl hok hob hg hn hfs hfi
 go_enter Tryz.func39,Tryz.ntmps39
 go_wp2_with fail
 go_loopg [6,7,8,9,10,13,31,36,41,45] n (fun gk s6 s7 s8 s9 s10 s13 s31 s36 s41 s45 wy=>∃ (k : Nat) (V1 : Wd) (m : Nat) (wo : Int),k + gk = n /\ s13 = .int .i64 (k : Int) /\ s6 = .int .i64 (m : Int) /\ s7 = .int .i64 wo /\ m <= k /\ Hid (WT w0 wy b V1 T /\ MX T cb hb pb db wx b K N d fs B vh vp wy /\ Has wy g (gRow gs n) 144 /\ Kpt T w wy /\ Ok (M + 2 * k) nn V1 /\ mendG og (gs.drop k) k m wo V1 = mendG og gs 0 0 0 V))
 case atStart=>exact ⟨0,V,0,0,by omega,rfl,rfl,rfl,Nat.le_refl _,hid ⟨HW.out,HX.out,HG.out,Kpt.refl _ _,HOK.out,rfl⟩⟩
 case round =>
  clear HW HX HG
  obtain ⟨k,V1,m,wo,hk,rfl,rfl,rfl,hmk,HJ⟩:=hrel
  obtain ⟨j1,j2,j3,j4,j5,j6⟩:=HJ.out
  cases gk with
  | zero =>
   have q1 : ¬ ((k : Int) < (n : Int)):=by omega
   have HE : Hid (Q (.returned (.tuple #[.int .i64 (m : Int),.int .i64 wo])) wr):=hid (by
    have:=HQ.out wr
    rw [<- j6,List.drop_of_length_le (by have:=HNN.out; omega)] at this
    exact this j1 j4)
   clear j1 j2 j3 j4 j5 j6 HJ
   go_wp2_with fail
   exact HE.out
  | succ g1 =>
   have q1 : (k : Int) < (n : Int):=by omega
   have hkn : k < n:=by omega
   have wk : IntKind.i64.wrap ((k : Int) + 1) = ((k + 1 : Nat) : Int):=wrapN (b:=1) (by omega)
   have wm : IntKind.i64.wrap ((m : Int) + 1) = ((m + 1 : Nat) : Int):=wrapN (b:=1) (by omega)
   obtain ⟨x,hxk⟩ : ∃ x,gs[k]? = some x:=⟨_,List.getElem?_eq_getElem (by have:=HNN.out; omega)⟩
   have hdr : gs.drop k = x :: gs.drop (k + 1):=by
    have hkl : k < gs.length:=(List.getElem?_eq_some_iff.1 hxk).1
    rw [List.drop_eq_getElem_cons hkl]
    rw [List.getElem?_eq_getElem hkl] at hxk
    cases hxk
    rfl
   obtain ⟨u0,u1,u2⟩:=gRow_get (s:=gs) (n:=n) (k:=k) (x:=x) (by rw [<- HNN.out,gpad_all]; exact hxk)
   have y0 : wr.cell? ⟨g,k * 3,none⟩ = some (.int .i64 x.e):=(j3.cell _).trans u0
   have y1 : wr.cell? ⟨g,k * 3 + 1,none⟩ = some (.bool x.sd):=(j3.cell _).trans u1
   have y2 : wr.cell? ⟨g,k * 3 + 2,none⟩ = some (.string x.pl):=(j3.cell _).trans u2
   rw [hdr] at j6
   obtain ⟨wb,hwb⟩ : ∃ wb,wb = wr.alloc (.cells #[.int .i64 x.e,.bool x.sd,.string x.pl] 144):=⟨_,rfl⟩
   have hbb : Below wr.heap.size wr wb:=by rw [hwb]; exact boxed wr _
   have hbx : Has wb wr.heap.size #[.int .i64 x.e,.bool x.sd,.string x.pl] 144:=by rw [hwb]; exact Has.new _ _ _ _ rfl
   obtain ⟨⟨e0,e1,e2⟩,_,_,_⟩:=three_cells hbx
   have HWb:=hid (j1.below hbb)
   have hkb:=Kpt.below j1 hbb
   have HKb:=hid (j4.trans hkb)
   have HXb:=hid (j2.kept hkb)
   have HGb:=hid (hkb.has hTg j3)
   have HJO:=hid j5
   have HJ6:=hid j6
   clear u0 u1 u2 hbb hbx hkb j1 j2 j3 j4 j5 j6 HJ hxk hdr
   obtain ⟨xe,xs,xp⟩:=x
   simp only at y0 y1 y2 hwb e0 e1 e2
   cases xs with
   | true =>
    have HA : Hid (mendG og (gs.drop (k + 1)) (k + 1) m wo V1 = mendG og gs 0 0 0 V):=hid HJ6.out
    have HO9:=hid (show Ok (M + 2 * (k + 1)) nn V1 from HJO.out.more (by omega))
    rw [hwb] at e0 e1 e2 HWb HKb HXb HGb
    clear hwb
    go_wp2_with fail
    go_roundg g1
    case measure=>omega
    case rel=>exact ⟨k + 1,V1,m,wo,by omega,by first | rfl | simp,rfl,rfl,by omega,hid ⟨HWb.out,HXb.out,HGb.out,HKb.out,HO9.out,HA.out⟩⟩
   | false =>
    have y5 : True:=trivial
    by_cases he : xe = 0
    ·subst he
     have HAL:=hid ((mendG_cons og ⟨0,false,xp⟩ (gs.drop (k + 1)) k m wo V1 rfl (if_pos (.inl rfl))).symm.trans HJ6.out)
     clear HJ6
     rw [hwb] at e0 e1 e2
     have HAG : ∀ Q',(∀ w',WT w0 w' b (againG V1 k (og k)).2 T -> Kpt T wb w' -> Q' (.returned (.int .i64 (againG V1 k (og k)).1)) w') -> Calls Tryz.prog 40 #[.int .i64 (k : Int),.pointer (some ⟨cb,0,none⟩),.pointer (some ⟨hb,0,none⟩),.pointer (some ⟨pb,0,none⟩),.pointer (some ⟨db,0,none⟩),.pointer (some ⟨wx,0,none⟩)] wb Q':=fun Q' hq'=>again_any HWb.out HXb.out HL.out HFS.out HFI.out HJO.out (by omega) k (og k) (fun p er hr=>HOB.out k (by omega) p er hr) Q' hq'
     have HOA:=hid (HJO.out.again k (og k))
     generalize againG V1 k (og k) = ar at *
     obtain ⟨ee,V2⟩:=ar
     simp only at HAG HAL HOA
     rw [hwb] at HAG
     go_wp2_with fail
     refine HAG _ ?_
     clear HAG e0 e1 e2
     intro w9 h9 k9
     rw [<- hwb] at k9
     have HW9:=hid h9
     have HK9:=hid (HKb.out.trans k9)
     have HX9:=hid (HXb.out.kept k9)
     have HG9:=hid (k9.has hTg HGb.out)
     have HO9:=hid (show Ok (M + 2 * (k + 1)) nn V2 from HOA.out.more (by omega))
     clear h9 k9 hwb HWb HKb HXb HGb
     by_cases z0 : ee = 0
     ·subst z0
      have HA : Hid (mendG og (gs.drop (k + 1)) (k + 1) (m + 1) wo V2 = mendG og gs 0 0 0 V):=hid (by rw [<- HAL.out,if_pos rfl])
      clear HAL
      go_wp2_with fail
      go_roundg g1
      case measure=>omega
      case rel=>exact ⟨k + 1,V2,m + 1,wo,by omega,by first | rfl | simp,by first | rfl | simp,rfl,by omega,hid ⟨HW9.out,HX9.out,HG9.out,HK9.out,HO9.out,HA.out⟩⟩
     ·have p0 : ¬ (ee = 0):=z0
      by_cases z1 : ee = 56
      ·subst z1
       have HE : Hid (Q (.returned (.tuple #[.int .i64 (m : Int),.int .i64 56])) w9):=hid (by
        have:=HQ.out w9
        rw [<- HAL.out,if_neg z0,if_pos rfl] at this
        exact this HW9.out HK9.out)
       clear HAL z0
       go_wp2_with fail
       exact HE.out
      ·have p1 : ¬ (ee = 56):=z1
       by_cases z2 : ee = 52
       ·subst z2
        have HA : Hid (mendG og (gs.drop (k + 1)) (k + 1) m 52 V2 = mendG og gs 0 0 0 V):=hid (by rw [<- HAL.out,if_neg z0,if_neg z1,if_pos rfl])
        clear HAL z0 z1
        go_wp2_with fail
        go_roundg g1
        case measure=>omega
        case rel=>exact ⟨k + 1,V2,m,52,by omega,by first | rfl | simp,rfl,rfl,by omega,hid ⟨HW9.out,HX9.out,HG9.out,HK9.out,HO9.out,HA.out⟩⟩
       ·have p2 : ¬ (ee = 52):=z2
        by_cases z3 : wo = 0
        ·subst z3
         have HA : Hid (mendG og (gs.drop (k + 1)) (k + 1) m 53 V2 = mendG og gs 0 0 0 V):=hid (by rw [<- HAL.out,if_neg z0,if_neg z1,if_neg z2,if_pos rfl])
         clear HAL z0 z1 z2
         go_wp2_with fail
         go_roundg g1
         case measure=>omega
         case rel=>exact ⟨k + 1,V2,m,53,by omega,by first | rfl | simp,rfl,rfl,by omega,hid ⟨HW9.out,HX9.out,HG9.out,HK9.out,HO9.out,HA.out⟩⟩
        ·have p3 : ¬ (wo = 0):=z3
         have HA : Hid (mendG og (gs.drop (k + 1)) (k + 1) m wo V2 = mendG og gs 0 0 0 V):=hid (by rw [<- HAL.out,if_neg z0,if_neg z1,if_neg z2,if_neg z3])
         clear HAL z0 z1 z2 z3
         go_wp2_with fail
         go_roundg g1
         case measure=>omega
         case rel=>exact ⟨k + 1,V2,m,wo,by omega,by first | rfl | simp,rfl,rfl,by omega,hid ⟨HW9.out,HX9.out,HG9.out,HK9.out,HO9.out,HA.out⟩⟩
    ·have pe : ¬ (xe = 0):=he
     by_cases he5 : xe = 5
     ·subst he5
      have HAL:=hid ((mendG_cons og ⟨5,false,xp⟩ (gs.drop (k + 1)) k m wo V1 rfl (if_pos (.inr rfl))).symm.trans HJ6.out)
      clear HJ6
      rw [hwb] at e0 e1 e2
      clear he pe
      have HAG : ∀ Q',(∀ w',WT w0 w' b (againG V1 k (og k)).2 T -> Kpt T wb w' -> Q' (.returned (.int .i64 (againG V1 k (og k)).1)) w') -> Calls Tryz.prog 40 #[.int .i64 (k : Int),.pointer (some ⟨cb,0,none⟩),.pointer (some ⟨hb,0,none⟩),.pointer (some ⟨pb,0,none⟩),.pointer (some ⟨db,0,none⟩),.pointer (some ⟨wx,0,none⟩)] wb Q':=fun Q' hq'=>again_any HWb.out HXb.out HL.out HFS.out HFI.out HJO.out (by omega) k (og k) (fun p er hr=>HOB.out k (by omega) p er hr) Q' hq'
      have HOA:=hid (HJO.out.again k (og k))
      generalize againG V1 k (og k) = ar at *
      obtain ⟨ee,V2⟩:=ar
      simp only at HAG HAL HOA
      rw [hwb] at HAG
      go_wp2_with fail
      refine HAG _ ?_
      clear HAG e0 e1 e2
      intro w9 h9 k9
      rw [<- hwb] at k9
      have HW9:=hid h9
      have HK9:=hid (HKb.out.trans k9)
      have HX9:=hid (HXb.out.kept k9)
      have HG9:=hid (k9.has hTg HGb.out)
      have HO9:=hid (show Ok (M + 2 * (k + 1)) nn V2 from HOA.out.more (by omega))
      clear h9 k9 hwb HWb HKb HXb HGb
      by_cases z0 : ee = 0
      ·subst z0
       have HA : Hid (mendG og (gs.drop (k + 1)) (k + 1) (m + 1) wo V2 = mendG og gs 0 0 0 V):=hid (by rw [<- HAL.out,if_pos rfl])
       clear HAL
       go_wp2_with fail
       go_roundg g1
       case measure=>omega
       case rel=>exact ⟨k + 1,V2,m + 1,wo,by omega,by first | rfl | simp,by first | rfl | simp,rfl,by omega,hid ⟨HW9.out,HX9.out,HG9.out,HK9.out,HO9.out,HA.out⟩⟩
      ·have p0 : ¬ (ee = 0):=z0
       by_cases z1 : ee = 56
       ·subst z1
        have HE : Hid (Q (.returned (.tuple #[.int .i64 (m : Int),.int .i64 56])) w9):=hid (by
         have:=HQ.out w9
         rw [<- HAL.out,if_neg z0,if_pos rfl] at this
         exact this HW9.out HK9.out)
        clear HAL z0
        go_wp2_with fail
        exact HE.out
       ·have p1 : ¬ (ee = 56):=z1
        by_cases z2 : ee = 52
        ·subst z2
         have HA : Hid (mendG og (gs.drop (k + 1)) (k + 1) m 52 V2 = mendG og gs 0 0 0 V):=hid (by rw [<- HAL.out,if_neg z0,if_neg z1,if_pos rfl])
         clear HAL z0 z1
         go_wp2_with fail
         go_roundg g1
         case measure=>omega
         case rel=>exact ⟨k + 1,V2,m,52,by omega,by first | rfl | simp,rfl,rfl,by omega,hid ⟨HW9.out,HX9.out,HG9.out,HK9.out,HO9.out,HA.out⟩⟩
        ·have p2 : ¬ (ee = 52):=z2
         by_cases z3 : wo = 0
         ·subst z3
          have HA : Hid (mendG og (gs.drop (k + 1)) (k + 1) m 53 V2 = mendG og gs 0 0 0 V):=hid (by rw [<- HAL.out,if_neg z0,if_neg z1,if_neg z2,if_pos rfl])
          clear HAL z0 z1 z2
          go_wp2_with fail
          go_roundg g1
          case measure=>omega
          case rel=>exact ⟨k + 1,V2,m,53,by omega,by first | rfl | simp,rfl,rfl,by omega,hid ⟨HW9.out,HX9.out,HG9.out,HK9.out,HO9.out,HA.out⟩⟩
         ·have p3 : ¬ (wo = 0):=z3
          have HA : Hid (mendG og (gs.drop (k + 1)) (k + 1) m wo V2 = mendG og gs 0 0 0 V):=hid (by rw [<- HAL.out,if_neg z0,if_neg z1,if_neg z2,if_neg z3])
          clear HAL z0 z1 z2 z3
          go_wp2_with fail
          go_roundg g1
          case measure=>omega
          case rel=>exact ⟨k + 1,V2,m,wo,by omega,by first | rfl | simp,rfl,rfl,by omega,hid ⟨HW9.out,HX9.out,HG9.out,HK9.out,HO9.out,HA.out⟩⟩
     ·have pe5 : ¬ (xe = 5):=he5
      have HAL:=hid ((mendG_cons og ⟨xe,false,xp⟩ (gs.drop (k + 1)) k m wo V1 rfl (if_neg (fun h=>h.elim he he5))).symm.trans HJ6.out)
      clear HJ6
      rw [hwb] at e0 e1 e2
      simp only at HAL
      obtain ⟨ee,hee⟩ : ∃ ee,ee = xe:=⟨_,rfl⟩
      obtain ⟨V2,hV2⟩ : ∃ V2,V2 = V1:=⟨_,rfl⟩
      have HO9 : Hid (Ok (M + 2 * (k + 1)) nn V2):=hid (by rw [hV2]; exact HJO.out.more (by omega))
      rw [hwb,<- hV2] at HWb
      rw [hwb] at HKb HXb HGb
      rw [<- hV2,<- hee] at HAL
      rw [<- hee] at y0 e0 e1 e2 HWb HKb HXb HGb pe pe5
      have HW9:=HWb
      have HK9:=HKb
      have HX9:=HXb
      have HG9:=HGb
      clear hee hV2 hwb HWb HKb HXb HGb HJO he he5
      have pb0 : (ee == 0) = false:=beq_eq_false_iff_ne.2 pe
      have pb5 : (ee == 5) = false:=beq_eq_false_iff_ne.2 pe5
      by_cases z0 : ee = 0
      ·exact absurd z0 pe
      ·have p0 : ¬ (ee = 0):=z0
       by_cases z1 : ee = 56
       ·subst z1
        have HE : Hid (Q (.returned (.tuple #[.int .i64 (m : Int),.int .i64 56])) (wr.alloc (.cells #[.int .i64 56,.bool false,.string xp] 144))):=hid (by
         have:=HQ.out (wr.alloc (.cells #[.int .i64 56,.bool false,.string xp] 144))
         rw [<- HAL.out,if_neg z0,if_pos rfl] at this
         exact this HW9.out HK9.out)
        clear HAL z0 pe pe5 pb0 pb5 p0
        go_wp2_with fail
        exact HE.out
       ·have p1 : ¬ (ee = 56):=z1
        by_cases z2 : ee = 52
        ·subst z2
         have HA : Hid (mendG og (gs.drop (k + 1)) (k + 1) m 52 V2 = mendG og gs 0 0 0 V):=hid (by rw [<- HAL.out,if_neg z0,if_neg z1,if_pos rfl])
         clear HAL z0 z1
         go_wp2_with fail
         go_roundg g1
         case measure=>omega
         case rel=>exact ⟨k + 1,V2,m,52,by omega,by first | rfl | simp,rfl,rfl,by omega,hid ⟨HW9.out,HX9.out,HG9.out,HK9.out,HO9.out,HA.out⟩⟩
        ·have p2 : ¬ (ee = 52):=z2
         by_cases z3 : wo = 0
         ·subst z3
          have HA : Hid (mendG og (gs.drop (k + 1)) (k + 1) m 53 V2 = mendG og gs 0 0 0 V):=hid (by rw [<- HAL.out,if_neg z0,if_neg z1,if_neg z2,if_pos rfl])
          clear HAL z0 z1 z2
          go_wp2_with fail
          go_roundg g1
          case measure=>omega
          case rel=>exact ⟨k + 1,V2,m,53,by omega,by first | rfl | simp,rfl,rfl,by omega,hid ⟨HW9.out,HX9.out,HG9.out,HK9.out,HO9.out,HA.out⟩⟩
         ·have p3 : ¬ (wo = 0):=z3
          have HA : Hid (mendG og (gs.drop (k + 1)) (k + 1) m wo V2 = mendG og gs 0 0 0 V):=hid (by rw [<- HAL.out,if_neg z0,if_neg z1,if_neg z2,if_neg z3])
          clear HAL z0 z1 z2 z3
          go_wp2_with fail
          go_roundg g1
          case measure=>omega
          case rel=>exact ⟨k + 1,V2,m,wo,by omega,by first | rfl | simp,rfl,rfl,by omega,hid ⟨HW9.out,HX9.out,HG9.out,HK9.out,HO9.out,HA.out⟩⟩
end Go.Proofs.YteapbbaollmniaaGreatDoor
