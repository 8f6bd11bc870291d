/- Rows of the program: what it tells, and how it is refused. -/
import Derived.Test.YteapbbaollmniaaGreatDoorCXBase
import Derived.Laws.IdiomCopy
import Derived.Deep.RegionLaw
namespace Go.Proofs.YteapbbaollmniaaGreatDoor.C.Mx
open Go.RowKit
/-- v reads as the list of ints zs -/
def Ints (w : World) (v : Value) (zs : List Int) : Prop:=∃ a cap,v = .slice a zs.length cap /\ zs.length <= 9223372036854775807 /\ (0 < zs.length -> ∃ g o,a = some ⟨g,o,none⟩ /\ g < w.heap.size /\ ∀ j,j < zs.length -> w.cell? ⟨g,o + j,none⟩ = some (.int .i64 (zs.getD j 0)))
theorem Ints.below {w w' : World} {v : Value} {zs : List Int} (h : Ints w v zs) (hb : Below w.heap.size w w') : Ints w' v zs:=by
 obtain ⟨a,cap,h1,h2,h4⟩:=h
 refine ⟨a,cap,h1,h2,fun hp=>?_⟩
 obtain ⟨g,o,e,hg,hc⟩:=h4 hp
 exact ⟨g,o,e,Nat.lt_of_lt_of_le hg hb.size,fun j hj=>cell_below hb hg (hc j hj)⟩
theorem step_copy8 {ops : Array Oper} {o : Oper} {a : Act} {w : World} {K : Act -> World -> Prop} {Q : Exit -> Act -> World -> Prop} {E : Prop} (hgd : o.guard = none) (d s : Operand)
  (ho : o.op = .call { callee:=.builtin .copy,args:=#[d,s],argTypes:=#[136,136] }) (g gs q cs c : Nat) (l0 l : List Nat)
  (hd : a.eval d = .slice (some ⟨g,0,none⟩) c c) (hs : a.eval s = .slice (some ⟨gs,q,none⟩) c cs) (hg : Has w g (U8s l0) 5) (hl0 : l0.length = c) (hl : l.length = c)
  (hsrc : ∀ j,j < c -> w.cell? ⟨gs,q + j,none⟩ = some (.int .u8 ((l.getD j 0 : Nat) : Int)))
  (h : ∀ W,Has W g (U8s l) 5 -> (∀ b,b ≠ g -> W.heap[b]? = w.heap[b]?) -> (∀ B,B <= g -> Below B w W) -> K (a.put o.dst (goInt c)) W) :
  if Region.wanted o (yielded ops a.tmps) = true then Oper.wp Tryz.prog o a w K Q else E:=by
 have hw : Region.wanted o (yielded ops a.tmps) = true:=by simp [Region.wanted,hgd]
 rw [if_pos hw]
 have hlc : (U8s l).toList.length = c:=by rw [U8s_toList_length,hl]
 have hrun:=run_copy_cells (P:=Tryz.prog) w 136 136 o.type 5 g 0 c c ⟨gs,q,none⟩ c cs (U8s l).toList Tryz.underlying136 (by kernel_rfl) (by rw [hlc]; simp)
  (fun j v hv=>by
   have hj : j < c:=by rw [<- hlc]; exact (List.getElem?_eq_some_iff.1 hv).1
   rw [Addr.add_mid,hsrc j hj,<- hv]
   rw [Array.getElem?_toList,U8s_get _ _ (by omega)])
  (fun j hj=>by rw [Nat.zero_add,hg.cell,U8s_get _ _ (by omega)]; rfl)
  (fun j hj=>by rw [Nat.zero_add]; exact hg.frozen j) (by intro v hv; simp [U8s] at hv; obtain ⟨x,_,rfl⟩:=hv; rfl)
 rw [hlc] at hrun
 unfold Oper.wp
 simp [execOp,ho,resolve,invoke,builtin,hd,hs,hrun,Result.andThen]
 refine h _ (has_setRow hg (by rw [U8s_size,U8s_size]; omega)) (fun b hb=>?_) (fun B hB=>below_setCells hB _ _ (Below.refl _ _))
 have : ∀ (vs : List Value) (o : Nat) (w : World),(w.setCells g o vs).heap[b]? = w.heap[b]?:=fun vs=>by
  induction vs with
  | nil=>intro o w; rfl
  | cons v vs ih=>intro o w; rw [World.setCells,ih,Below.heap_setCell _ _ _ _ hb]
 exact this _ _ _
def goodR (m : List (List Nat)) (zs : List Int) : Bool:=decide (1 <= zs.length /\ zs.length <= 12 /\ ∀ j,j < zs.length -> 0 <= zs.getD j 0 /\ zs.getD j 0 < (m.length : Int))
def rowsM (m : List (List Nat)) (zs : List Int) : List (List Nat):=zs.map fun z=>m.getD z.toNat []
def errR (m : List (List Nat)) (zs : List Int) : Int:=if mayM m then (if goodR m zs then 0 else 1) else 4
def ansR (m : List (List Nat)) (zs : List Int) : List (List Nat):=if mayM m && goodR m zs then rowsM m zs else []
/-- what stands behind k rounds -/
def rowsAt (m : List (List Nat)) (zs : List Int) (c k : Nat) : List (List Nat):=(List.range zs.length).map fun i=>if i < k then m.getD (zs.getD i 0).toNat [] else List.replicate c 0
theorem rowsAt_length (m : List (List Nat)) (zs : List Int) (c k : Nat) : (rowsAt m zs c k).length = zs.length:=by simp [rowsAt]
theorem rowsAt_get (m : List (List Nat)) (zs : List Int) (c k i : Nat) (hi : i < zs.length) : (rowsAt m zs c k).getD i [] = if i < k then m.getD (zs.getD i 0).toNat [] else List.replicate c 0:=by
 rw [List.getD_eq_getElem?_getD]
 simp only [rowsAt,List.getElem?_map,List.getElem?_range hi]; rfl
theorem rowsAt_set (m : List (List Nat)) (zs : List Int) (c k : Nat) (hk : k < zs.length) : (rowsAt m zs c k).set k (m.getD (zs.getD k 0).toNat []) = rowsAt m zs c (k + 1):=by
 apply ext_getD []
 ·simp [rowsAt]
 ·intro i hi
  rw [List.length_set,rowsAt_length] at hi
  rw [rowsAt_get _ _ _ _ _ hi]
  by_cases he : i = k
  ·subst he; rw [getD_set_same _ _ _ _ (by rw [rowsAt_length]; exact hi),if_pos (by omega)]
  ·rw [getD_set_other _ _ _ _ _ he,rowsAt_get _ _ _ _ _ hi]
   by_cases h2 : i < k
   ·rw [if_pos h2,if_pos (by omega)]
   ·rw [if_neg h2,if_neg (by omega)]
theorem rowsAt_zero (m : List (List Nat)) (zs : List Int) (c : Nat) : rowsAt m zs c 0 = List.replicate zs.length (List.replicate c 0):=by
 unfold rowsAt
 simp only [Nat.not_lt_zero,if_false]
 rw [List.map_const']; simp
theorem rowsAt_end (m : List (List Nat)) (zs : List Int) (c : Nat) : rowsAt m zs c zs.length = rowsM m zs:=by
 apply ext_getD []
 ·simp [rowsAt,rowsM]
 ·intro i hi
  rw [rowsAt_length] at hi
  rw [rowsAt_get _ _ _ _ _ hi,if_pos hi]
  simp [rowsM,List.getD_eq_getElem?_getD,hi]
set_option maxRecDepth 20000 in
set_option maxHeartbeats 1000000 in
theorem rows_t (v vz : Value) (m : List (List Nat)) (zs : List Int) (w : World) (h1 : Mat w v m) (h2 : Ints w vz zs) (hm : mayM m = true) (hgd : goodR m zs = true) :
  Calls Tryz.prog 169 #[v,vz] w fun e w'=>∃ r,e = .returned (.tuple #[r,.int .i64 0]) /\ NewMat w.heap.size w' r (rowsM m zs) /\ Below w.heap.size w w':=by
 have hM:=h1
 obtain ⟨f1,f2,f3,f4,f5⟩:=mayM_facts hm
 obtain ⟨z1,z2,z3⟩ : 1 <= zs.length /\ zs.length <= 12 /\ ∀ j,j < zs.length -> 0 <= zs.getD j 0 /\ zs.getD j 0 < (m.length : Int):=of_decide_eq_true hgd
 obtain ⟨g,o,cap,rfl,hg,hrows⟩:=h1.may hm
 obtain ⟨g0,o0,c0,hg0,k0,_⟩:=hrows 0 (by omega)
 simp only [Nat.add_zero] at k0
 obtain ⟨az,capz,rfl,hzl,hzc⟩:=h2
 obtain ⟨gz,oz,rfl,hgz,hzd⟩:=hzc (by omega)
 have HZ : Hid (rowsAt m zs (m.getD 0 []).length 0 = List.replicate zs.length (List.replicate (m.getD 0 []).length 0)):=rowsAt_zero m zs _
 have HE : Hid (rowsAt m zs (m.getD 0 []).length zs.length = rowsM m zs):=rowsAt_end m zs _
 have HS : Hid (∀ k,k < zs.length -> (rowsAt m zs (m.getD 0 []).length k).set k (m.getD (zs.getD k 0).toNat []) = rowsAt m zs (m.getD 0 []).length (k + 1)):=fun k hk=>rowsAt_set m zs _ k hk
 have HL : Hid (∀ k,(rowsAt m zs (m.getD 0 []).length k).length = zs.length):=fun k=>rowsAt_length m zs _ k
 have HG : Hid (∀ k,k < zs.length -> (rowsAt m zs (m.getD 0 []).length k).getD k [] = List.replicate (m.getD 0 []).length 0):=fun k hk=>by rw [rowsAt_get _ _ _ _ _ hk,if_neg (by omega)]
 have HX : Hid (∀ k,k < m.length -> ∀ x ∈ m.getD k [],x < 256):=fun k hk=>by
  obtain ⟨_,_,_,_,_,_,kk⟩:=hM.some (by omega)
  obtain ⟨r,_,hr⟩:=kk k hk
  exact hr.choose_spec.choose_spec.2.2.1
 have HML : Hid (∀ i,i < zs.length -> ((rowsM m zs).getD i []).length <= 1000000):=fun i hi=>by
  have e : (rowsM m zs).getD i [] = m.getD (zs.getD i 0).toNat []:=by simp [rowsM,List.getD_eq_getElem?_getD,hi]
  rw [e,f5 _ (by have:=z3 i hi; omega)]; omega
 have HMZ : Hid ((rowsM m zs).length = zs.length):=by simp [Hid,rowsM]
 generalize hcc : (m.getD 0 []).length = c at *
 generalize hn : m.length = n at *
 generalize hnz : zs.length = nz at *
 have bn : (0 : Int) < (n : Int):=by omega
 have Z3 : Hid (∀ j,j < nz -> 0 <= zs.getD j 0 /\ zs.getD j 0 < (n : Int)):=z3
 have ZD : Hid (∀ j,j < nz -> w.cell? ⟨gz,oz + j,none⟩ = some (.int .i64 (zs.getD j 0))):=hzd
 have F5 : Hid (∀ j,j < n -> (m.getD j []).length = c):=f5
 have RW : Hid (∀ j,j < n -> ∃ gr q cr,gr < w.heap.size /\ w.cell? ⟨g,o + j,none⟩ = some (.slice (some ⟨gr,q,none⟩) c cr) /\ ∀ i,i < c -> w.cell? ⟨gr,q + i,none⟩ = some (.int .u8 (((m.getD j []).getD i 0 : Nat) : Int)) /\ (m.getD j []).getD i 0 < 256):=hrows
 clear z3 hzd f5 hrows hzc h1 hnz hcc hn
 go_enter Tryz.func169,Tryz.ntmps169
 go_wp2_with fail
 refine (may_any _ m w hM).mono ?_
 rintro e w1 ⟨rfl,rfl⟩
 rw [hm]
 go_wp2_with fail
 refine (maySize_t _ (by omega) (by omega) _).mono ?_
 rintro e w1 ⟨rfl,rfl⟩
 go_wp2_with fail
 go_loopw [20] (fun vi wr=>wr = w1 /\ ∃ k : Nat,k <= nz /\ vi = .int .i64 (k : Int)) (fun vi _=>nz - (intOf vi).toNat)
 case atStart=>exact ⟨rfl,0,by omega,rfl⟩
 case round =>
  obtain ⟨rfl,k,hk,rfl⟩:=hrel
  by_cases hlt : k < nz
  ·have q1:=ZD.out k hlt
   obtain ⟨q2,q3⟩:=Z3.out k hlt
   generalize zs.getD k 0 = z at *
   have d0 : (k : Int) < (nz : Int):=by omega
   have d1 : decide (z < 0) = false:=by simp; omega
   have d2 : decide ((n : Int) <= z) = false:=by simp; omega
   go_wp2_with fail
   exact ⟨⟨by simp,k + 1,by omega,rfl⟩,by simp [intOf]; omega⟩
  ·obtain rfl : k = nz:=by omega
   go_wp2_with fail
   refine (noughts_any k c (by omega) (by omega) _).mono ?_
   rintro e w2 ⟨rfl,hR,b2⟩
   rw [<- HZ.out] at hR
   go_wp2_with fail
   generalize hTT : wr.heap.size = T at *
   go_loopw [42] (fun vi W=>∃ j : Nat,j <= k /\ vi = .int .i64 (j : Int) /\ Hid (RowsAt T T k W (rowsAt m zs c j)) /\ Below T wr W) (fun vi _=>k - (intOf vi).toNat)
   case atStart=>exact ⟨0,by omega,rfl,hR,b2⟩
   case round =>
    obtain ⟨j,hj,rfl,hW,hbW⟩:=hrel
    clear hR b2
    by_cases hjl : j < k
    ·have q1:=cell_below hbW (hTT ▸ hgz) (ZD.out j hjl)
     obtain ⟨q2,q3⟩:=Z3.out j hjl
     have HSj : Hid _:=HS.out j hjl
     have HGj : Hid _:=HG.out j hjl
     obtain ⟨x,hx⟩ : ∃ x : Nat,zs.getD j 0 = (x : Int):=⟨(zs.getD j 0).toNat,by omega⟩
     rw [hx] at q1 q2 q3 HSj
     rw [Int.toNat_natCast] at HSj
     have hxn : x < n:=by omega
     obtain ⟨gr,qr,cr,hgr,kr,hcells⟩:=RW.out x hxn
     have r1:=cell_below hbW (hTT ▸ hg) kr
     have r2 : Hid (∀ i,i < c -> wr.cell? ⟨gr,qr + i,none⟩ = some (.int .u8 (((m.getD x []).getD i 0 : Nat) : Int))):=fun i hi=>cell_below hbW (hTT ▸ hgr) (hcells i hi).1
     obtain ⟨gw,a1,a2,a3,a4,a5,a6⟩:=hW.out.row j (by rw [HL.out]; exact hjl)
     rw [HGj.out,List.length_replicate] at a1
     rw [HGj.out] at a4
     have A4 : Hid (Has wr gw (U8s (List.replicate c 0)) 5):=a4
     have A6 : Hid (∀ W,Has W gw (U8s (m.getD x [])) 5 -> (∀ b,b ≠ gw -> W.heap[b]? = wr.heap[b]?) -> RowsAt T T k W (rowsAt m zs c (j + 1))):=fun W h1 h2=>by
      have:=a6 W _ h1 (by rw [HGj.out,List.length_replicate]; exact F5.out x hxn) (HX.out x hxn) h2
      rw [HSj.out] at this; exact this
     clear a4 a5 a6 kr hcells hx
     have d0 : (j : Int) < (k : Int):=by omega
     have d1 : (x : Int) < (n : Int):=by omega
     go_wp2_with fail
     go_region_law (refine step_copy8 rfl (.tmp 50) (.tmp 54) rfl gw gr qr cr c (List.replicate c 0) (m.getD x []) rfl rfl (by exact A4.out) (by simp) (F5.out x hxn) (by exact r2.out) ?_; intro W hW1 hW2 hW3)
     all_goals
      go_wp2_with fail
      exact ⟨⟨j + 1,by omega,rfl,A6.out W hW1 hW2,by first | exact hbW.drew.trans (hW3 T a2) | exact hbW.trans (hW3 T a2) | exact hbW.drew.drew.trans (hW3 T a2)⟩,by simp [intOf]; omega⟩
    ·obtain rfl : j = k:=by omega
     go_wp2_with fail
     go_ret2
     have hW':=hW.out
     rw [HE.out] at hW'
     exact ⟨_,rfl,⟨by rw [HMZ.out]; omega,fun i hi=>HML.out i (by rw [<- HMZ.out]; exact hi),.inr ⟨T,by rw [HMZ.out]; rfl,by rw [HMZ.out,hTT]; exact hW'⟩⟩,by rw [hTT]; exact hbW⟩
theorem rows_f1 (v vz : Value) (m : List (List Nat)) (w : World) (h1 : Mat w v m) (hm : mayM m = false) :
  Calls Tryz.prog 169 #[v,vz] w fun e w'=>e = .returned (.tuple #[.slice none 0 0,.int .i64 4]) /\ Below w.heap.size w w':=by
 go_enter Tryz.func169,Tryz.ntmps169
 go_wp2_with fail
 refine (may_any _ m w h1).mono ?_
 rintro e w1 ⟨rfl,rfl⟩
 rw [hm]
 go_wp2_with fail
 go_ret2
 exact ⟨rfl,Below.refl _ _⟩
theorem rows_f2 (v vz : Value) (m : List (List Nat)) (zs : List Int) (w : World) (h1 : Mat w v m) (h2 : Ints w vz zs) (hm : mayM m = true) (hgd : goodR m zs = false) :
  Calls Tryz.prog 169 #[v,vz] w fun e w'=>e = .returned (.tuple #[.slice none 0 0,.int .i64 1]) /\ Below w.heap.size w w':=by
 have hM:=h1
 obtain ⟨f1,f2,f3,f4,f5⟩:=mayM_facts hm
 obtain ⟨g,o,cap,rfl,hg,_⟩:=h1.may hm
 obtain ⟨az,capz,rfl,hzl,hzc⟩:=h2
 by_cases hzn : ¬ (1 <= zs.length /\ zs.length <= 12)
 ·go_enter Tryz.func169,Tryz.ntmps169
  go_wp2_with fail
  refine (may_any _ m w hM).mono ?_
  rintro e w1 ⟨rfl,rfl⟩
  rw [hm]
  go_wp2_with fail
  refine (maySize_f _ (by omega) _).mono ?_
  rintro e w1 ⟨rfl,rfl⟩
  go_wp2_with fail
  go_ret2
  exact ⟨rfl,Below.refl _ _⟩
 have HB : Hid (¬ ∀ j,j < zs.length -> 0 <= zs.getD j 0 /\ zs.getD j 0 < (m.length : Int)):=fun hh=>by
  have:=of_decide_eq_false hgd
  exact this ⟨by omega,by omega,hh⟩
 obtain ⟨gz,oz,rfl,hgz,hzd⟩:=hzc (by omega)
 have ZD : Hid (∀ j,j < zs.length -> w.cell? ⟨gz,oz + j,none⟩ = some (.int .i64 (zs.getD j 0))):=hzd
 clear hzd hzc hgd f5
 generalize hn : m.length = n at *
 generalize hnz : zs.length = nz at *
 have bn : (0 : Int) < (n : Int):=by omega
 go_enter Tryz.func169,Tryz.ntmps169
 go_wp2_with fail
 refine (may_any _ m w hM).mono ?_
 rintro e w1 ⟨rfl,rfl⟩
 rw [hm]
 go_wp2_with fail
 refine (maySize_t _ (by omega) (by omega) _).mono ?_
 rintro e w1 ⟨rfl,rfl⟩
 go_wp2_with fail
 go_loopw [20] (fun vi wr=>wr = w1 /\ ∃ k : Nat,k <= nz /\ vi = .int .i64 (k : Int) /\ Hid (∀ j,j < k -> 0 <= zs.getD j 0 /\ zs.getD j 0 < (n : Int))) (fun vi _=>nz - (intOf vi).toNat)
 case atStart=>exact ⟨rfl,0,by omega,rfl,fun j hj=>absurd hj (by omega)⟩
 case round =>
  obtain ⟨rfl,k,hk,rfl,hA⟩:=hrel
  by_cases hlt : k < nz
  ·have q1:=ZD.out k hlt
   have d0 : (k : Int) < (nz : Int):=by omega
   by_cases hz : 0 <= zs.getD k 0 /\ zs.getD k 0 < (n : Int)
   ·have HA' : Hid (∀ j,j < k + 1 -> 0 <= zs.getD j 0 /\ zs.getD j 0 < (n : Int)):=fun j hj=>by
     by_cases hjk : j < k
     ·exact hA.out j hjk
     ·obtain rfl : j = k:=by omega
      exact hz
    obtain ⟨q2,q3⟩:=hz
    generalize zs.getD k 0 = z at *
    have d1 : decide (z < 0) = false:=by simp; omega
    have d2 : decide ((n : Int) <= z) = false:=by simp; omega
    go_wp2_with fail
    exact ⟨⟨by simp,k + 1,by omega,rfl,HA'⟩,by simp [intOf]; omega⟩
   ·generalize zs.getD k 0 = z at *
    by_cases hz0 : z < 0
    ·have d1 : decide (z < 0) = true:=by simp; omega
     go_wp2_with fail
     go_ret2
     exact ⟨rfl,Below.refl _ _⟩
    ·have d1 : decide (z < 0) = false:=by simp; omega
     have d2 : decide ((n : Int) <= z) = true:=by simp; omega
     go_wp2_with fail
     go_ret2
     exact ⟨rfl,Below.refl _ _⟩
  ·obtain rfl : k = nz:=by omega
   exact absurd hA.out HB.out
theorem rows_any (v vz : Value) (m : List (List Nat)) (zs : List Int) (w : World) (h1 : Mat w v m) (h2 : Ints w vz zs) :
  Calls Tryz.prog 169 #[v,vz] w fun e w'=>∃ r,e = .returned (.tuple #[r,.int .i64 (errR m zs)]) /\ NewMat w.heap.size w' r (ansR m zs) /\ Below w.heap.size w w':=by
 cases hm : mayM m
 ·refine (rows_f1 v vz m w h1 hm).mono ?_
  rintro e w1 ⟨rfl,b1⟩
  exact ⟨.slice none 0 0,by simp [errR,hm],by simpa [ansR,hm] using NewMat.nil _ w1,b1⟩
 cases hg : goodR m zs
 ·refine (rows_f2 v vz m zs w h1 h2 hm hg).mono ?_
  rintro e w1 ⟨rfl,b1⟩
  exact ⟨.slice none 0 0,by simp [errR,hm,hg],by simpa [ansR,hm,hg] using NewMat.nil _ w1,b1⟩
 ·refine (rows_t v vz m zs w h1 h2 hm hg).mono ?_
  rintro e w1 ⟨r,rfl,hr,b1⟩
  exact ⟨r,by simp [errR,hm,hg],by simpa [ansR,hm,hg] using hr,b1⟩
end Go.Proofs.YteapbbaollmniaaGreatDoor.C.Mx
