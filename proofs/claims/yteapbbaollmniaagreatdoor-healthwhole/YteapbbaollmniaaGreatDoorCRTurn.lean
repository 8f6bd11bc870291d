/- The program's solved, over either of its closures. -/
import Derived.Test.YteapbbaollmniaaGreatDoorCRMay
namespace Go.Proofs.YteapbbaollmniaaGreatDoor.C
open Go.RowKit
set_option maxRecDepth 20000 in
set_option maxHeartbeats 1000000 in
theorem solved54_any (v : Value) (m : List (List Nat)) (bx e : Nat) (ex : Nat -> List Nat) (F : El.M) (w : World) (h : Mat w v m) (hm : mayM m = true) (hsq : (m.getD 0 []).length = m.length) (he : 0 < e) (he2 : e <= 255) (hF : El.Byt F)
  (hF1 : ∀ i,i < m.length -> ∀ j,j < m.length -> F i j = at2 m i j) (hex : ∀ i,i < m.length -> (ex i).length = e /\ (∀ x ∈ ex i,x < 256) /\ ∀ j,j < e -> F i (m.length + j) = (ex i).getD j 0)
  (hcall : ∀ i,i < m.length -> ∀ W,Below w.heap.size w W -> Calls Tryz.prog 196 #[.int .i64 (i : Int),.pointer (some ⟨bx,0,none⟩)] W fun e w'=>∃ r,e = .returned r /\ Row8 w' r (ex i) /\ Below W.heap.size W w') :
  Calls Tryz.prog 195 #[v,.func (.func 196) #[] #[.pointer (some ⟨bx,0,none⟩)]] w fun er w'=>Below w.heap.size w w' /\
   if (El.steps m.length F m.length).2 < m.length then er = .returned (.tuple #[.slice none 0 0,.int .i64 5])
   else er = .returned (.tuple #[.slice (some ⟨w.heap.size,0,none⟩) m.length m.length,.int .i64 0]) /\ MW w.heap.size w'.heap.size w.heap.size m.length (fun _=>e) (fun i j=>(El.steps m.length F m.length).1 i (m.length + j)) w':=by
 obtain ⟨f1,f2,f3,f4,f5⟩:=mayM_facts hm
 obtain ⟨g,o,cap,rfl,hg,_,hrows⟩:=h.first hm
 have HX : Hid (∀ i x,x ∈ m.getD i [] -> x < 256):=h.rows
 have F5 : Hid (∀ j,j < m.length -> (m.getD j []).length = m.length):=fun j hj=>(f5 j hj).trans hsq
 have RW : Hid (∀ j,j < m.length -> ∃ r,w.cell? ⟨g,o + j,none⟩ = some r /\ Row8 w r (m.getD j [])):=hrows
 have HA : Hid (∀ i j,at2 m i j = (m.getD i []).getD j 0):=fun _ _=>rfl
 have HF1:=hid hF1
 have HEX:=hid hex
 have HC:=hid hcall
 have HFB:=hid hF
 clear f5 hrows h hF1 hex hcall hsq f3 f4 hF
 generalize hn : m.length = n at *
 have hmk:=makes_rows n (by omega)
 go_enter Tryz.func195,Tryz.ntmps195
 go_wp2_with fail
 go_loopw [18] (fun vi wr=>∃ k : Nat,k <= n /\ vi = .int .i64 (k : Int) /\ Hid (∃ top,MW w.heap.size top w.heap.size n (upTo k (n + e)) F wr) /\ Below w.heap.size w wr) (fun vi _=>n - (intOf vi).toNat)
 case atStart=>exact ⟨0,by omega,rfl,⟨_,(MW.start F).congr (fun i _=>by unfold upTo; rw [if_neg (by omega)]) (fun _ _ _ _=>rfl)⟩,(Below.refl _ _).alloc (Nat.le_refl _) _⟩
 case round =>
  obtain ⟨k,hk,rfl,hM,hb⟩:=hrel
  clear hmk
  by_cases hlt : k < n
  ·obtain ⟨r,c,hr⟩:=RW.out k hlt
   have c1:=cell_below hb hg c
   have hr1:=hid (hr.below hb)
   have hl:=F5.out k hlt
   have d0 : (k : Int) < (n : Int):=by omega
   clear c hr
   go_wp2_with fail
   refine (HC.out k hlt wr hb).mono ?_
   rintro er w1 ⟨r1,rfl,hR1,b1⟩
   obtain ⟨x1,x2,x3⟩:=HEX.out k hlt
   obtain ⟨ar,cr,hrf0,_⟩:=hr1.out
   have hR1':=hR1
   obtain ⟨ar1,cr1,hrf1,_⟩:=hR1'
   rw [hl] at hrf0
   rw [x1] at hrf1
   have X2:=hid x2
   have X3:=hid x3
   clear x2 x3
   have hcat : Hid (Mat (w1.alloc (.cells #[r,r1] 136)) (.slice (some ⟨w1.heap.size,0,none⟩) 2 2) [m.getD k [],ex k]):=by
    have hH:=Has.new w1 w1.heap.size #[r,r1] 136 rfl
    have bA : Below w1.heap.size w1 (w1.alloc (.cells #[r,r1] 136)):=(Below.refl _ _).alloc (Nat.le_refl _) _
    refine ⟨_,_,rfl,by simp,fun _=>⟨w1.heap.size,0,rfl,hH.lt,fun j hj=>?_⟩⟩
    have hj2 : j < 2:=hj
    by_cases hj0 : j = 0
    ·subst hj0; exact ⟨r,hH.cell 0,(hr1.out.below b1).below bA⟩
    ·obtain rfl : j = 1:=by omega
     exact ⟨r1,hH.cell 1,hR1.below bA⟩
   have hfl : flat [m.getD k [],ex k] = m.getD k [] ++ ex k:=by simp [flat]
   have hcc:=concat_any _ _ _ hcat.out (by rw [hfl,List.length_append,hl,x1]; omega)
   rw [hfl] at hcc
   obtain ⟨top,hM'⟩:=hM.out
   have HP : Hid (∀ r2 w2,Owns 5 (w1.heap.size + 1) r2 (U8s (m.getD k [] ++ ex k)).toList w2 -> Below (w1.heap.size + 1) (w1.alloc (.cells #[r,r1] 136)) w2 -> (w.heap.size < w2.heap.size /\ (∃ x,w2.cell? ⟨w.heap.size,k,none⟩ = some x) /\ w2.frozen? ⟨w.heap.size,k,none⟩ = false /\ (∃ ax cx,r2 = .slice ax (n + e) cx)) /\ (∃ top,MW w.heap.size top w.heap.size n (upTo (k + 1) (n + e)) F (w2.setCell ⟨w.heap.size,k,none⟩ r2)) /\ Below w.heap.size w (w2.setCell ⟨w.heap.size,k,none⟩ r2)):=fun r2 w2 ho b2=>by
    have hbA : Below wr.heap.size wr w2:=(b1.alloc b1.size _).trans (b2.mono (Nat.le_trans b1.size (Nat.le_succ _)))
    have hxx : ∀ x ∈ m.getD k [] ++ ex k,x < 256:=fun x hx=>by
     rcases List.mem_append.1 hx with hx | hx
     ·exact HX.out k x hx
     ·exact X2.out x hx
    have hlen : (m.getD k [] ++ ex k).length = n + e:=by rw [List.length_append,hl,x1]
    obtain ⟨t1,t2,t3⟩:=(hM'.below hbA).top k hlt
    obtain ⟨ax,cx,hf,_⟩:=ho.form hxx
    refine ⟨⟨t1,t2,t3,ax,cx,by rw [hf,hlen]⟩,⟨_,hM'.put hbA k hlt (ho.mono (Nat.le_trans b1.size (Nat.le_succ _))) hxx (by rw [hlen]; omega) (by rw [hlen]; unfold upTo; rw [if_pos (by omega)]) (fun j hj=>?_) (fun i hi hik=>⟨?_,fun j _=>rfl⟩)⟩,(belowCall hb hbA).setCell (Nat.le_refl _) _⟩
    ·rw [hlen] at hj
     by_cases hjn : j < n
     ·rw [HF1.out k hlt j hjn,HA.out,getD_left _ _ _ _ (by omega)]
     ·have:=X3.out (j - n) (by omega)
      rw [show n + (j - n) = j by omega] at this
      rw [this,getD_right _ _ _ _ (by omega),hl]
    ·unfold upTo
     by_cases h1 : i < k
     ·rw [if_pos h1,if_pos (by omega)]
     ·rw [if_neg h1,if_neg (by omega)]
   clear hM hM' c1 hR1 hcat hfl
   subst hrf0 hrf1
   go_wp2_with fail
   refine hcc.mono ?_
   rintro er w2 ⟨r2,rfl,ho,b2⟩
   rw [show ∀ o : Obj,(w1.alloc o).heap.size = w1.heap.size + 1 from fun o=>by simp] at ho b2
   obtain ⟨⟨t1,⟨x,t2⟩,t3,ax,cx,hrf⟩,p2,p3⟩:=HP.out r2 w2 ho b2
   have P2:=hid p2
   clear HP hcc ho p2
   subst hrf
   go_wp2_with fail
   exact ⟨⟨k + 1,by omega,rfl,P2,p3⟩,by simp [intOf]; omega⟩
  ·obtain rfl : k = n:=by omega
   obtain ⟨top,hM'⟩:=hM.out
   have HE : Hid (MW w.heap.size wr.heap.size w.heap.size k (fun _=>k + e) F wr):=(hM'.mono hM'.2.2.1 (Nat.le_refl _)).congr (fun i hi=>by unfold upTo; rw [if_pos hi]) (fun _ _ _ _=>rfl)
   obtain ⟨wo,hwo⟩ : ∃ wo,wo = wr:=⟨_,rfl⟩
   subst hwo
   clear hM hM'
   go_wp2_with fail
   refine (stepDown_any _ _ k (k + e) k F wo HE.out HFB.out (by omega) (by omega) (by omega)).mono ?_
   rintro er w2 ⟨rfl,hM2,b2⟩
   have hB2:=hb.trans b2
   have HM2:=hid hM2
   clear HE hM2
   by_cases hrk : (El.steps k F k).2 < k
   ·have e0 : decide ((((El.steps k F k).2 : Nat) : Int) < (k : Int)) = true:=by simp; omega
    have HR:=hid hrk
    go_wp2_with fail
    go_ret2
    exact ⟨hB2,rfl⟩
   ·have e0 : decide ((((El.steps k F k).2 : Nat) : Int) < (k : Int)) = false:=by simp; omega
    have HR:=hid hrk
    have hSE : ∃ S,Hid (El.steps k F k = S):=⟨_,rfl⟩
    obtain ⟨S,hS⟩:=hSE
    rw [hS.out] at HM2
    go_wp2_with fail
    go_loopw [40] (fun vi W=>∃ j : Nat,j <= k /\ vi = .int .i64 (j : Int) /\ Hid (∃ top,MW w.heap.size top w.heap.size k (fun i=>if i < j then e else k + e) (fun i x=>if i < j then S.1 i (k + x) else S.1 i x) W) /\ Below w.heap.size w W) (fun vi _=>k - (intOf vi).toNat)
    case atStart=>exact ⟨0,by omega,rfl,⟨_,HM2.out.congr (fun i _=>by rw [if_neg (by omega)]) (fun i _ x _=>by rw [if_neg (by omega)])⟩,hB2⟩
    case round =>
     obtain ⟨j,hj,rfl,hM,hbW⟩:=hrel
     clear HM2 hB2
     by_cases hjl : j < k
     ·obtain ⟨top,hM'⟩:=hM.out
      obtain ⟨g3,cp3,r1,r2,r3,r4,r5,r6,_⟩:=hM'.row j hjl (by show 0 < if j < j then e else k + e; rw [if_neg (by omega)]; omega)
      obtain ⟨rc1,rc2⟩:=hM'.cap j hjl r1
      simp only [if_neg (Nat.lt_irrefl j)] at r1 r5 r6 rc1
      have hrow : Hid (Row8 wr (.slice (some ⟨g3,k,none⟩) e (cp3 - k)) ((List.range e).map fun x=>S.1 j (k + x))):=by
       refine ⟨some ⟨g3,k,none⟩,cp3 - k,by simp,by simp; omega,fun x hx=>?_,fun _=>⟨g3,k,rfl,rowW_lt r5 (by omega),fun x hx=>?_⟩⟩
       ·simp only [List.mem_map,List.mem_range] at hx
        obtain ⟨y,hy,rfl⟩:=hx
        exact (r5 (k + y) (by omega)).2.2
       ·simp only [List.length_map,List.length_range] at hx
        rw [range_getD _ _ _ hx]; exact (r5 (k + x) (by omega)).1
      have d0 : (j : Int) < (k : Int):=by omega
      have d1 : (k : Int) <= ((k + e : Nat) : Int):=by omega
      have ee : k + e - k = e:=by omega
      clear r5
      go_wp2_with fail
      (try rw [ee])
      refine (clone_any _ _ wr hrow.out (by simp; omega) (by simp; omega)).mono ?_
      rintro er w3 ⟨q,rfl,ho,b3⟩
      have hxx : ∀ x ∈ (List.range e).map fun x=>S.1 j (k + x),x < 256:=hrow.out.choose_spec.choose_spec.2.2.1
      obtain ⟨t1,⟨y,t2⟩,t3⟩:=(hM'.below b3).top j hjl
      obtain ⟨ax,cx,hf,_⟩:=ho.form hxx
      rw [List.length_map,List.length_range] at hf
      have HP : Hid (∃ top,MW w.heap.size top w.heap.size k (fun i=>if i < j + 1 then e else k + e) (fun i x=>if i < j + 1 then S.1 i (k + x) else S.1 i x) (w3.setCell ⟨w.heap.size,j,none⟩ q)):=by
       refine ⟨_,hM'.put b3 j hjl ho hxx (by simp; omega) (by rw [if_pos (by omega)]; simp) (fun x hx=>?_) (fun i hi hij=>?_)⟩
       ·simp only [List.length_map,List.length_range] at hx
        rw [if_pos (by omega),range_getD _ _ _ hx]
       ·by_cases h1 : i < j
        ·rw [if_pos h1,if_pos (by omega)]
         exact ⟨rfl,fun x _=>by rw [if_pos h1,if_pos (by omega)]⟩
        ·rw [if_neg h1,if_neg (by omega)]
         exact ⟨rfl,fun x _=>by rw [if_neg h1,if_neg (by omega)]⟩
      have hfin : Below w.heap.size w (w3.setCell ⟨w.heap.size,j,none⟩ q):=(belowCall hbW b3).setCell (Nat.le_refl _) _
      clear hM hM' ho r1 hrow hxx
      subst hf
      go_wp2_with fail
      exact ⟨⟨j + 1,by omega,rfl,HP,hfin⟩,by simp [intOf]; omega⟩
     ·obtain rfl : j = k:=by omega
      obtain ⟨top,hM'⟩:=hM.out
      have HE : Hid (MW w.heap.size wr.heap.size w.heap.size j (fun _=>e) (fun i x=>S.1 i (j + x)) wr):=(hM'.mono hM'.2.2.1 (Nat.le_refl _)).congr (fun i hi=>by rw [if_pos hi]) (fun i hi x _=>by rw [if_pos hi])
      clear hM hM'
      go_wp2_with fail
      go_ret2
      exact ⟨hbW,rfl,by rw [hS.out]; exact HE.out⟩
end Go.Proofs.YteapbbaollmniaaGreatDoor.C
/- The program's Turn and Solve. -/
namespace Go.Proofs.YteapbbaollmniaaGreatDoor.C
open Go.RowKit
theorem MW.base {base base' top T R : Nat} {Wd : Nat -> Nat} {f : El.M} {w : World} (h : MW base top T R Wd f w) (hb : base' <= base) : MW base' top T R Wd f w:=by
 obtain ⟨h1,h2,h3,B,h4⟩:=h
 refine ⟨by omega,h2,h3,B,fun i hi=>?_⟩
 obtain ⟨k1,k2,a,cap,k3,kc,k4⟩:=h4 i hi
 refine ⟨k1,k2,a,cap,k3,kc,fun hp=>?_⟩
 obtain ⟨r1,r2,r3⟩:=k4 hp
 exact ⟨r1,by omega,r3⟩
def unitR (n i : Nat) : List Nat:=(List.replicate n 0).set i 1
theorem unitR_length (n i : Nat) : (unitR n i).length = n:=by simp [unitR]
theorem unitR_lt (n i : Nat) : ∀ x ∈ unitR n i,x < 256:=fun x hx=>by
 rcases List.mem_or_eq_of_mem_set hx with hx | rfl
 ·rw [List.eq_of_mem_replicate hx]; decide
 ·decide
theorem unitR_get (n i j : Nat) (hj : j < n) : (unitR n i).getD j 0 = if j = i then 1 else 0:=by
 unfold unitR
 rw [List.getD_eq_getElem?_getD,List.getElem?_set]
 by_cases h : i = j
 ·subst h; simp [hj]
 ·rw [if_neg h,if_neg (by omega)]; simp [hj]
set_option maxRecDepth 20000 in
theorem turn1_any (bx n i cap : Nat) (a : Option Addr) (w : World) (hx : Has w bx #[.slice a n cap] 166) (hi : i < n) (hn : n <= 1000000) :
  Calls Tryz.prog 196 #[.int .i64 (i : Int),.pointer (some ⟨bx,0,none⟩)] w fun e w'=>∃ r,e = .returned r /\ Row8 w' r (unitR n i) /\ Below w.heap.size w w':=by
 have hmk:=makes_u8 n hn
 have c0 : w.cell? ⟨bx,0,none⟩ = some (.slice a n cap):=hx.cell 0
 have d0 : (i : Int) < (n : Int):=by omega
 have hH:=Has.new w w.heap.size (U8s (List.replicate n 0)) 5 rfl
 have k1:=(hH.cell i).trans (U8s_get _ i (by simp; exact hi))
 have k2:=hH.frozen i
 have hS:=hH.set i (.int .u8 ((1 : Nat) : Int))
 rw [U8s_set] at hS
 have HE : Hid (Row8 ((w.alloc (.cells (U8s (List.replicate n 0)) 5)).setCell ⟨w.heap.size,i,none⟩ (.int .u8 ((1 : Nat) : Int))) (.slice (some ⟨w.heap.size,0,none⟩) n n) (unitR n i) /\ Below w.heap.size w ((w.alloc (.cells (U8s (List.replicate n 0)) 5)).setCell ⟨w.heap.size,i,none⟩ (.int .u8 ((1 : Nat) : Int)))):=by
  refine ⟨⟨_,_,by rw [unitR_length],by rw [unitR_length]; omega,unitR_lt n i,fun _=>⟨w.heap.size,0,rfl,hS.lt,fun j hj=>?_⟩⟩,((Below.refl _ _).alloc (Nat.le_refl _) _).setCell (Nat.le_refl _) _⟩
  rw [Nat.zero_add,hS.cell]; exact U8s_get (unitR n i) j hj
 have e1 : ((1 : Nat) : Int) = 1:=rfl
 rw [e1] at HE
 clear hH hS e1
 go_enter Tryz.func196,Tryz.ntmps196
 go_wp2_with fail
 go_ret
 have HE':=HE.out
 rw [World.setCell_alloc_at _ _ _ _ _ rfl] at HE'
 exact ⟨_,rfl,HE'.1,HE'.2⟩
def rankM (m : List (List Nat)) : Nat:=El.rank m.length m.length (at2 m)
def okT (m : List (List Nat)) : Bool:=sqM m && decide (rankM m = m.length)
def ansT (m : List (List Nat)) : List (List Nat):=if okT m then rowsOf m.length (fun _=>m.length) (El.inve m.length (at2 m)) else []
def errT (m : List (List Nat)) : Int:=if sqM m then (if rankM m = m.length then 0 else 5) else 4
theorem rank_le (n : Nat) (m : El.M) (h : El.Byt m) : El.rank n n m <= n:=(El.inv_steps n m h n).le
theorem rowsOf_len (n : Nat) (W : Nat -> Nat) (f : El.M) : (rowsOf n W f).length = n:=rowsOf_length _ _ _
set_option maxRecDepth 20000 in
theorem turn_any (v : Value) (m : List (List Nat)) (w : World) (h : Mat w v m) :
  Calls Tryz.prog 170 #[v] w fun e w'=>∃ r,e = .returned (.tuple #[r,.int .i64 (errT m)]) /\ NewM w.heap.size w'.heap.size w' r (ansT m) /\ Below w.heap.size w w':=by
 have hM:=h
 obtain ⟨a,cap,hv,_⟩:=h
 subst hv
 have hmf : ∀ (fn : Fn) (first cap : Array Value) (w : World),(Instr.makeFunc fn first cap).run Tryz.prog w = .ok (.func fn first cap) w:=fun _ _ _ _=>rfl
 have bA : Below w.heap.size w (w.alloc (.cells #[.slice a m.length cap] 166)):=(Below.refl _ _).alloc (Nat.le_refl _) _
 have hMA:=hM.below bA
 have hmq:=maySquare_any _ m _ hMA
 have k0 : (w.alloc (.cells #[.slice a m.length cap] 166)).cell? ⟨w.heap.size,0,none⟩ = some (.slice a m.length cap):=(Has.new w w.heap.size _ 166 rfl).cell 0
 cases hs : sqM m with
 | false =>
  have e1 : Hid (errT m = 4 /\ ansT m = []):=by unfold Hid errT ansT okT; rw [hs]; exact ⟨rfl,rfl⟩
  go_enter Tryz.func170,Tryz.ntmps170
  go_wp2_with fail
  refine hmq.mono ?_
  rintro e w1 ⟨rfl,rfl⟩
  rw [hs]
  go_wp2_with fail
  go_ret2
  exact ⟨_,by rw [e1.out.1]; rfl,by rw [e1.out.2]; exact NewM.nil _ _ _,bA⟩
 | true =>
  have hs':=hs
  unfold sqM at hs'
  simp only [Bool.and_eq_true,decide_eq_true_eq] at hs'
  obtain ⟨hm,hsq⟩:=hs'
  obtain ⟨f1,f2,_⟩:=mayM_facts hm
  have hby:=hM.byt
  have hsv:=solved54_any _ m w.heap.size m.length (unitR m.length) (El.wide m.length (at2 m)) _ hMA hm hsq.symm (by omega) (by omega) (El.byt_wide _ hby)
   (fun i hi j hj=>by unfold El.wide; rw [if_pos hj]) (fun i hi=>⟨unitR_length _ _,unitR_lt _ _,fun j hj=>by
    unfold El.wide; rw [if_neg (by omega),unitR_get _ _ _ hj]
    by_cases hji : j = i
    ·rw [if_pos hji,if_pos (by omega)]
    ·rw [if_neg hji,if_neg (by omega)]⟩)
   (fun i hi W hW=>turn1_any w.heap.size m.length i cap a W ((Has.new w w.heap.size _ 166 rfl).below hW (by simp)) hi (by omega))
  rw [El.rank_wide _ _ hby] at hsv
  have HSV:=hid hsv
  clear hsv hsq
  go_enter Tryz.func170,Tryz.ntmps170
  go_wp2_with fail
  refine hmq.mono ?_
  rintro e w1 ⟨rfl,rfl⟩
  rw [hs]
  go_wp2_with fail
  refine HSV.out.mono ?_
  rintro e w2 ⟨b2,hh⟩
  rw [show ∀ o : Obj,(w.alloc o).heap.size = w.heap.size + 1 from fun o=>by simp] at b2 hh
  have B2 : Below w.heap.size w w2:=bA.trans (b2.mono (Nat.le_succ _))
  by_cases hr : El.rank m.length m.length (at2 m) < m.length
  ·rw [if_pos hr] at hh
   subst hh
   have e1 : Hid (errT m = 5 /\ ansT m = []):=by
    unfold Hid errT ansT okT rankM; rw [hs,if_pos rfl,if_neg (by omega),decide_eq_false (by omega)]; exact ⟨rfl,rfl⟩
   go_wp2_with fail
   go_ret2
   exact ⟨_,by rw [e1.out.1]; rfl,by rw [e1.out.2]; exact NewM.nil _ _ _,B2⟩
  ·rw [if_neg hr] at hh
   obtain ⟨rfl,hW⟩:=hh
   have HW:=hid hW
   clear hW
   have hre : El.rank m.length m.length (at2 m) = m.length:=by
    have:=rank_le m.length (at2 m) hby; omega
   have e1 : Hid (errT m = 0 /\ ansT m = rowsOf m.length (fun _=>m.length) (El.inve m.length (at2 m))):=by
    unfold Hid errT ansT okT rankM; rw [hs,if_pos rfl,if_pos hre,decide_eq_true hre]; exact ⟨rfl,rfl⟩
   go_wp2_with fail
   go_ret2
   refine ⟨_,by rw [e1.out.1]; rfl,?_,B2⟩
   rw [e1.out.2]
   refine ⟨by rw [rowsOf_len]; omega,.inr ⟨_,_,fun _=>m.length,El.inve m.length (at2 m),by rw [rowsOf_len]; rfl,by rw [rowsOf_len],?_⟩⟩
   rw [rowsOf_len]
   exact HW.out.base (Nat.le_succ _)
end Go.Proofs.YteapbbaollmniaaGreatDoor.C
/- The document's Down, Rank and Turn. -/
namespace Go.Proofs.YteapbbaollmniaaGreatDoor.C
open Go.RowKit
end Go.Proofs.YteapbbaollmniaaGreatDoor.C
/- The document's Turn. -/
namespace Go.Proofs.YteapbbaollmniaaGreatDoor.C
open Go.RowKit
end Go.Proofs.YteapbbaollmniaaGreatDoor.C
