/- Health: what faults forge: the document's New and Forged. Printed in part by gen_g16.py. -/
import Derived.Test.YteapbbaollmniaaGreatDoorHSRRead
namespace Go.Proofs.YteapbbaollmniaaGreatDoor
open Go.RowKit Go.Maps
open W
set_option linter.unusedVariables false
variable {w0 w w' : World} {b : Nat} {V V' : Wd} {T : Nat -> Prop}
/-- a list of objects that can be read -/
def RdO (w : World) (v : Value) (O : List Ob) : Prop:=∃ A c,v = .slice A O.length c /\ ∀ (j : Nat) (p : Ob),O[j]? = some p -> ∃ g,A = some ⟨g,0,none⟩ /\ g < w.heap.size /\ w.cell? ⟨g,j * 2,none⟩ = some (.string p.1) /\ w.cell? ⟨g,j * 2 + 1,none⟩ = some (.string p.2)
theorem RdO.of {B : Nat} {v : Value} {O : List Ob} (h : w.ownsRow B 101 2 v O.length (objCells O)) : RdO w v O:=by
 obtain ⟨A,c,rfl⟩:=row_slice h
 refine ⟨A,c,rfl,fun j p hp=>?_⟩
 obtain ⟨g,c',e,hg,hc⟩:=row_objs (w':=w) h (by have:=(List.getElem?_eq_some_iff.1 hp).1; omega)
 cases e
 exact ⟨g,rfl,hg,hc j p hp⟩
theorem RdO.below {v : Value} {O : List Ob} (h : RdO w v O) (hb : Below w.heap.size w w') : RdO w' v O:=by
 obtain ⟨A,c,e,h⟩:=h
 refine ⟨A,c,e,fun j p hp=>?_⟩
 obtain ⟨g,h1,h2,h3,h4⟩:=h j p hp
 exact ⟨g,h1,Nat.lt_of_lt_of_le h2 hb.size,by rw [hb.cell (p:=⟨g,j * 2,none⟩) h2]; exact h3,by rw [hb.cell (p:=⟨g,j * 2 + 1,none⟩) h2]; exact h4⟩
/-- those that were not there -/
def newO (O4 O5 : List Ob) : List Ob:=O5.filter fun p=>!inB p O4
theorem newO_len (O4 O5 : List Ob) : (newO O4 O5).length <= O5.length:=List.length_filter_le _ _
theorem newO_snoc (O4 O5 : List Ob) (p : Ob) : newO O4 (O5 ++ [p]) = newO O4 O5 ++ if inB p O4 then [] else [p]:=by
 unfold newO
 rw [List.filter_append]
 cases h : inB p O4 <;> simp [h]
/-- whether one of them is a sound shard -/
def forgedB (O4 O5 : List Ob) : Bool:=(newO O4 O5).any fun p=>H.rdOk p.1 p.2
def ndF (va vb : Value) (ga gb j k : Nat) (p q : Ob) (i : Nat) (v : Value) (_ : World) : Prop:=match i with
 | 21=>v = .bool false | 22=>v = .bool false | 23=>v = va | 24=>v = .int .i64 (j : Int) | 25=>v = .pointer (some ⟨ga,j * 2,none⟩) | 26=>v = .agg #[.string p.1,.string p.2]
 | 27=>v = vb | 28=>v = .int .i64 (k : Int) | 29=>v = .pointer (some ⟨gb,k * 2,none⟩) | 30=>v = .agg #[.string q.1,.string q.2] | 31=>v = .bool (decide ((p.1,p.2) = (q.1,q.2))) | 32=>v = .bool (decide ((p.1,p.2) = (q.1,q.2)))
 | _=>True
def ndT (i : Nat) (v : Value) (_ : World) : Prop:=match i with
 | 21=>v = .bool true | 22=>v = .bool true | 32=>v = .bool true
 | _=>True
set_option maxHeartbeats 8000000 in
set_option maxRecDepth 20000 in
theorem refNew_any {v4 v5 : Value} {O4 O5 : List Ob} (h4 : RdO w v4 O4) (h5 : RdO w v5 O5) (hn4 : O4.length <= 1000000) (hn5 : O5.length <= 1000000) :
  Calls Tryz.prog 64 #[v4,v5] w fun e w'=>∃ v,e = .returned v /\ w'.ownsRow w.heap.size 101 2 v (newO O4 O5).length (objCells (newO O4 O5)) /\ Below w.heap.size w w':=by
 obtain ⟨A4,e4,rfl,hc4⟩:=h4
 obtain ⟨A5,e5,rfl,hc5⟩:=h5
 have HC4:=hid hc4
 have HC5:=hid hc5
 obtain ⟨n4,hm4⟩ : ∃ n4,n4 = O4.length:=⟨_,rfl⟩
 obtain ⟨n5,hm5⟩ : ∃ n5,n5 = O5.length:=⟨_,rfl⟩
 have HN4:=hid hm4
 have HN5:=hid hm5
 rw [<- hm4] at hn4 ⊢
 rw [<- hm5] at hn5 ⊢
 clear hc4 hc5 hm4 hm5
 go_enter Tryz.func64,Tryz.ntmps64
 go_wp2_with fail
 go_loopg [5,6,7,8] n5 (fun gk s5 s6 s7 s8 wx=>∃ k : Nat,k + gk = n5 /\ s6 = .int .i64 (k : Int) /\ Hid (Below w.heap.size w wx) /\ Hid (wx.ownsRow w.heap.size 101 2 s5 (newO O4 (O5.take k)).length (objCells (newO O4 (O5.take k)))))
 case atStart=>exact ⟨0,by omega,rfl,hid (Below.refl _ _),hid (by simpa [newO,objCells] using World.ownsRow_nil _ _ _ _)⟩
 case round =>
  obtain ⟨k,hk,rfl,HBX,HOW⟩:=hrel
  cases gk with
  | zero =>
   have q1 : ¬ ((k : Int) < (n5 : Int)):=by omega
   have HE : Hid (wr.ownsRow w.heap.size 101 2 u5 (newO O4 O5).length (objCells (newO O4 O5))):=hid (by
    have:=HOW.out
    rw [List.take_of_length_le (by have:=HN5.out; omega)] at this
    exact this)
   clear HOW
   go_wp2_with fail
   go_ret
   exact ⟨_,rfl,HE.out,HBX.out⟩
  | succ g1 =>
   have q1 : (k : Int) < (n5 : Int):=by omega
   have hk5 : k < n5:=by omega
   have wk : IntKind.i64.wrap ((k : Int) + 1) = ((k + 1 : Nat) : Int):=wrapN (b:=1) (by omega)
   obtain ⟨p,hp⟩ : ∃ p,O5[k]? = some p:=⟨_,List.getElem?_eq_getElem (by have:=HN5.out; omega)⟩
   obtain ⟨g5,rfl,hg5,hx0,hx1⟩:=HC5.out k p hp
   have HD0 : Hid (∀ W,Below w.heap.size w W -> W.cell? ⟨g5,k * 2,none⟩ = some (.string p.1)):=hid fun W hW=>by rw [hW.cell (p:=⟨g5,k * 2,none⟩) hg5]; exact hx0
   have HD1 : Hid (∀ W,Below w.heap.size w W -> W.cell? ⟨g5,k * 2 + 1,none⟩ = some (.string p.2)):=hid fun W hW=>by rw [hW.cell (p:=⟨g5,k * 2 + 1,none⟩) hg5]; exact hx1
   have HP:=hid hp
   have HS : Hid (newO O4 (O5.take (k + 1)) = newO O4 (O5.take k) ++ if inB p O4 then [] else [p]):=hid (by rw [List.take_add_one,hp,<- newO_snoc]; rfl)
   have HLN : Hid ((newO O4 (O5.take k)).length <= 1000000):=hid (Nat.le_trans (newO_len _ _) (by rw [List.length_take]; have:=HN5.out; omega))
   clear hp hx0 hx1
   obtain ⟨wo,hwo⟩ : ∃ wo,wo = wr:=⟨_,rfl⟩
   subst hwo
   go_wp2_with fail
   go_loopg [7,8] n4 (fun gj s7 s8 wy=>∃ j : Nat,j + gj = n4 /\ s8 = .int .i64 (j : Int) /\ s7 = .bool (inB p (O4.take j)) /\ Hid (Below wo.heap.size wo wy))
   case atStart=>exact ⟨0,by omega,rfl,rfl,hid (Below.refl _ _)⟩
   case round =>
    obtain ⟨j,hj,rfl,rfl,HBY⟩:=hrel
    have HBW : Hid (Below w.heap.size w wr):=hid (HBX.out.trans (HBY.out.mono HBX.out.size))
    cases gk with
    | zero =>
     have q2 : ¬ ((j : Int) < (n4 : Int)):=by omega
     have htk : O4.take j = O4:=List.take_of_length_le (by have:=HN4.out; omega)
     rw [htk]
     have HOR:=hid (row_below HOW.out HBY.out)
     cases hm : inB p O4 with
     | true =>
      have HO2 : Hid (wr.ownsRow w.heap.size 101 2 u5 (newO O4 (O5.take (k + 1))).length (objCells (newO O4 (O5.take (k + 1))))):=hid (by rw [HS.out,hm,if_pos rfl,List.append_nil]; exact HOR.out)
      clear hm htk HOW HOR HS HLN
      go_wp2_with fail
      go_roundg g1
      case measure=>omega
      case rel=>exact ⟨k + 1,by omega,by first | rfl | simp,HBW,HO2⟩
     | false =>
      have HS2 : Hid (newO O4 (O5.take (k + 1)) = newO O4 (O5.take k) ++ [p]):=hid (by rw [HS.out,hm]; rfl)
      have d0:=HD0.out _ HBW.out
      have d1:=HD1.out _ HBW.out
      obtain ⟨L,hL⟩ : ∃ L,L = newO O4 (O5.take k):=⟨_,rfl⟩
      rw [<- hL] at HOR HS2 HLN
      clear hm htk HOW HS hL
      obtain ⟨m,hmm⟩ : ∃ m,m = L.length:=⟨_,rfl⟩
      have HMM:=hid hmm
      have hml : m <= 1000000:=by rw [hmm]; exact HLN.out
      rw [<- hmm] at HOR
      clear hmm HLN
      have hsz : w.heap.size <= wr.heap.size:=HBW.out.size
      go_wp2_with (at_builtin; refine wpList_app el28 rfl _ _ rfl w.heap.size _ m _ rfl (row_below HOR.out (boxed wr _)) ⟨wr.heap.size,0,none⟩ 1 1 [.string p.1,.string p.2] rfl (by decide) rfl (new_cells wr [.string p.1,.string p.2] 101) (by simp [Value.oneCell']) (by omega) (by simp; omega) ?_; intro g3 cap3 w3 hr3 hg3; have HG3:=hid hg3; have HR3:=hid hr3; clear hr3 hg3)
      have HB3 : Hid (Below w.heap.size w w3):=hid (grown_below (HBW.out.trans ((boxed wr _).mono HBW.out.size)) (row_below HOR.out (boxed wr _)) HG3.out (Nat.le_refl _) (by simp; omega))
      have HO2 : Hid (w3.ownsRow w.heap.size 101 2 (.slice (some ⟨g3,0,none⟩) (m + 1) cap3) (newO O4 (O5.take (k + 1))).length (objCells (newO O4 (O5.take (k + 1))))):=hid (by
       rw [HS2.out,objCells_snoc,List.length_append,<- HMM.out]
       exact HR3.out)
      clear HG3 HR3 HOR d0 d1
      go_roundg g1
      case measure=>omega
      case rel=>exact ⟨k + 1,by omega,by first | rfl | simp,HB3,HO2⟩
    | succ g2 =>
     have q2 : (j : Int) < (n4 : Int):=by omega
     have hj4 : j < n4:=by omega
     have wj : IntKind.i64.wrap ((j : Int) + 1) = ((j + 1 : Nat) : Int):=wrapN (b:=1) (by omega)
     obtain ⟨p4,hp4⟩ : ∃ p4,O4[j]? = some p4:=⟨_,List.getElem?_eq_getElem (by have:=HN4.out; omega)⟩
     obtain ⟨g4,rfl,hg4,hy0,hy1⟩:=HC4.out j p4 hp4
     have HP4:=hid hp4
     have HJ4 : Hid (j < n4):=hid hj4
     have HK5' : Hid (k < n5):=hid hk5
     have HY0 : Hid (∀ W,Below w.heap.size w W -> W.cell? ⟨g4,j * 2,none⟩ = some (.string p4.1)):=hid fun W hW=>by rw [hW.cell (p:=⟨g4,j * 2,none⟩) hg4]; exact hy0
     have HY1 : Hid (∀ W,Below w.heap.size w W -> W.cell? ⟨g4,j * 2 + 1,none⟩ = some (.string p4.2)):=hid fun W hW=>by rw [hW.cell (p:=⟨g4,j * 2 + 1,none⟩) hg4]; exact hy1
     clear hy0 hy1 hp4
     cases hm : inB p (O4.take j) with
     | true =>
      have HMM:=hid (show inB p (O4.take (j + 1)) = true from by rw [inB_succ HP4.out,hm]; rfl)
      clear hm
      go_wp2_with fail
      refine Tl.wp_mix_lit (by kernel_rfl) 12 [21,22,23,24,25,26,27,28,29,30,31,32] 43 rfl (by kernel_rfl) (BelW wr) ndT ((Below.refl _ _).drew)
       ⟨fun a' W' hC hF=>?_,fun a' W' hC hF=>?_,fun a' W' hC hF=>?_,fun a' W' hC hF=>?_,fun a' W' hC hF=>?_,fun a' W' hC hF=>?_,fun a' W' hC hF=>?_,fun a' W' hC hF=>?_,fun a' W' hC hF=>?_,fun a' W' hC hF=>?_,fun a' W' hC hF=>?_,fun a' W' hC hF=>?_,trivial⟩ ?_
      ·exact Tl.sm_v 21 _ rfl (Tl.wanted_none rfl) hC rfl (rn_move rfl ((hF 7 (by decide +kernel)).2 (by decide)))
      ·exact Tl.sm_v 22 _ rfl (Tl.wanted_none rfl) hC rfl (rn_move rfl ((hF 21 (by decide +kernel)).1 (by decide)))
      iterate 9 exact Tl.sm_skip (Tl.wanted_not rfl rfl ((hF 22 (by decide +kernel)).1 (by decide))) (fun d hd=>by cases hd; trivial)
      ·exact Tl.sm_v 32 _ rfl (Tl.wanted_none rfl) hC rfl (rn_pickT rfl ((hF 22 (by decide +kernel)).1 (by decide)) rfl)
      intro v wB hw hv
      have v32 : v 32 = .bool true:=hv 32 (by decide)
      have HBB:=hid (HBY.out.trans ((show Below wr.heap.size wr wB from hw).mono HBY.out.size))
      clear hv hw
      simp only [Tl.fill,List.drop_succ_cons,List.drop_zero,wpList]
      rw [if_pos (Tl.wanted_none rfl)]
      simp only [Act.put,List.setIfInBounds_toArray,List.set_cons_succ,List.set_cons_zero,v32]
      clear v32
      refine .inl (wp_assign (x:=.tmp 32) (d:=7) (v:=.bool true) ?_ ?_ ?_ ?_)
      ·rfl
      ·rfl
      ·rfl
      simp only [Act.put,List.setIfInBounds_toArray,List.set_cons_succ,List.set_cons_zero]
      go_wp2_with fail
      go_roundg g2
      case measure=>omega
      case rel=>exact ⟨j + 1,by omega,by first | rfl | simp,by rw [HMM.out],HBB⟩
     | false =>
      have HMM:=hid (show inB p (O4.take (j + 1)) = decide ((p4.1,p4.2) = (p.1,p.2)) from by rw [inB_succ HP4.out,hm]; rfl)
      clear hm
      go_wp2_with fail
      refine Tl.wp_mix_lit (by kernel_rfl) 12 [21,22,23,24,25,26,27,28,29,30,31,32] 43 rfl (by kernel_rfl) (BelW wr) (ndF (.slice (some ⟨g4,0,none⟩) n4 e4) (.slice (some ⟨g5,0,none⟩) n5 e5) g4 g5 j k p4 p) ((Below.refl _ _).drew)
       ⟨fun a' W' hC hF=>?_,fun a' W' hC hF=>?_,fun a' W' hC hF=>?_,fun a' W' hC hF=>?_,fun a' W' hC hF=>?_,fun a' W' hC hF=>?_,fun a' W' hC hF=>?_,fun a' W' hC hF=>?_,fun a' W' hC hF=>?_,fun a' W' hC hF=>?_,fun a' W' hC hF=>?_,fun a' W' hC hF=>?_,trivial⟩ ?_
      ·exact Tl.sm_v 21 _ rfl (Tl.wanted_none rfl) hC rfl (rn_move rfl ((hF 7 (by decide +kernel)).2 (by decide)))
      ·exact Tl.sm_v 22 _ rfl (Tl.wanted_none rfl) hC rfl (rn_move rfl ((hF 21 (by decide +kernel)).1 (by decide)))
      ·exact Tl.sm_v 23 _ rfl (Tl.wanted_is rfl rfl ((hF 22 (by decide +kernel)).1 (by decide))) hC rfl (rn_move rfl ((hF 0 (by decide +kernel)).2 (by decide)))
      ·exact Tl.sm_v 24 _ rfl (Tl.wanted_is rfl rfl ((hF 22 (by decide +kernel)).1 (by decide))) hC rfl (rn_move rfl ((hF 8 (by decide +kernel)).2 (by decide)))
      ·exact Tl.sm_v 25 _ rfl (Tl.wanted_is rfl rfl ((hF 22 (by decide +kernel)).1 (by decide))) hC rfl (rn_ix55 rfl ((hF 23 (by decide +kernel)).1 (by decide)) ((hF 24 (by decide +kernel)).1 (by decide)) HJ4.out)
      ·exact Tl.sm_v 26 _ rfl (Tl.wanted_is rfl rfl ((hF 22 (by decide +kernel)).1 (by decide))) hC rfl (rn_load28 rfl ((hF 25 (by decide +kernel)).1 (by decide)) (HY0.out W' (HBW.out.trans (Below.mono hC HBW.out.size))) (HY1.out W' (HBW.out.trans (Below.mono hC HBW.out.size))))
      ·exact Tl.sm_v 27 _ rfl (Tl.wanted_is rfl rfl ((hF 22 (by decide +kernel)).1 (by decide))) hC rfl (rn_move rfl ((hF 1 (by decide +kernel)).2 (by decide)))
      ·exact Tl.sm_v 28 _ rfl (Tl.wanted_is rfl rfl ((hF 22 (by decide +kernel)).1 (by decide))) hC rfl (rn_move rfl ((hF 6 (by decide +kernel)).2 (by decide)))
      ·exact Tl.sm_v 29 _ rfl (Tl.wanted_is rfl rfl ((hF 22 (by decide +kernel)).1 (by decide))) hC rfl (rn_ix55 rfl ((hF 27 (by decide +kernel)).1 (by decide)) ((hF 28 (by decide +kernel)).1 (by decide)) HK5'.out)
      ·exact Tl.sm_v 30 _ rfl (Tl.wanted_is rfl rfl ((hF 22 (by decide +kernel)).1 (by decide))) hC rfl (rn_load28 rfl ((hF 29 (by decide +kernel)).1 (by decide)) (HD0.out W' (HBW.out.trans (Below.mono hC HBW.out.size))) (HD1.out W' (HBW.out.trans (Below.mono hC HBW.out.size))))
      ·exact Tl.sm_v 31 _ rfl (Tl.wanted_is rfl rfl ((hF 22 (by decide +kernel)).1 (by decide))) hC rfl (rn_eql64 rfl ((hF 26 (by decide +kernel)).1 (by decide)) ((hF 30 (by decide +kernel)).1 (by decide)))
      ·exact Tl.sm_v 32 _ rfl (Tl.wanted_none rfl) hC rfl (rn_pickF rfl ((hF 22 (by decide +kernel)).1 (by decide)) ((hF 31 (by decide +kernel)).1 (by decide)))
      intro v wB hw hv
      have v32 : v 32 = .bool (decide ((p4.1,p4.2) = (p.1,p.2))):=hv 32 (by decide)
      have HBB:=hid (HBY.out.trans ((show Below wr.heap.size wr wB from hw).mono HBY.out.size))
      clear hv hw
      obtain ⟨nx,hnx⟩ : ∃ nx,decide ((p4.1,p4.2) = (p.1,p.2)) = nx:=⟨_,rfl⟩
      rw [hnx] at v32
      have HNX:=hid (HMM.out.trans hnx)
      clear hnx HMM
      simp only [Tl.fill,List.drop_succ_cons,List.drop_zero,wpList]
      rw [if_pos (Tl.wanted_none rfl)]
      simp only [Act.put,List.setIfInBounds_toArray,List.set_cons_succ,List.set_cons_zero,v32]
      clear v32
      refine .inl (wp_assign (x:=.tmp 32) (d:=7) (v:=.bool nx) ?_ ?_ ?_ ?_)
      ·rfl
      ·rfl
      ·rfl
      simp only [Act.put,List.setIfInBounds_toArray,List.set_cons_succ,List.set_cons_zero]
      go_wp2_with fail
      go_roundg g2
      case measure=>omega
      case rel=>exact ⟨j + 1,by omega,by first | rfl | simp,by rw [HNX.out],HBB⟩
set_option maxHeartbeats 8000000 in
set_option maxRecDepth 20000 in
theorem forged_any {v4 v5 : Value} {O4 O5 : List Ob} (h4 : RdO w v4 O4) (h5 : RdO w v5 O5) (hn4 : O4.length <= 1000000) (hn5 : O5.length <= 1000000) (hsz : ∀ p ∈ O5,p.2.size <= 1000000) :
  Calls Tryz.prog 25 #[v4,v5] w fun e w'=>e = .returned (.bool (forgedB O4 O5)) /\ Below w.heap.size w w':=by
 have HN:=refNew_any h4 h5 hn4 hn5
 obtain ⟨A4,e4,rfl,_⟩:=h4
 obtain ⟨A5,e5,rfl,_⟩:=h5
 have HLN : Hid ((newO O4 O5).length <= 1000000):=hid (Nat.le_trans (newO_len _ _) hn5)
 have HSZ : Hid (∀ p ∈ newO O4 O5,p.2.size <= 1000000):=hid fun p hp=>hsz p (List.mem_filter.1 hp).1
 have HFB : Hid (forgedB O4 O5 = (newO O4 O5).any fun p=>H.rdOk p.1 p.2):=hid rfl
 rw [HFB.out]
 clear hsz HFB
 generalize newO O4 O5 = L at *
 generalize O4.length = n4 at *
 generalize O5.length = n5 at *
 go_enter Tryz.func25,Tryz.ntmps25
 go_wp2_with fail
 refine HN.mono ?_
 rintro _ w1 ⟨v,rfl,hr,hb⟩
 obtain ⟨A,c,rfl,hc⟩:=RdO.of hr
 have HC:=hid hc
 have HB:=hid hb
 obtain ⟨m,hm⟩ : ∃ m,m = L.length:=⟨_,rfl⟩
 have HM:=hid hm
 have hml : m <= 1000000:=by rw [hm]; exact HLN.out
 rw [<- hm]
 clear hr hc hb hm HLN HN
 go_wp2_with fail
 go_loopg [6,7,8] m (fun gk s6 s7 s8 wx=>∃ k : Nat,k + gk = m /\ s6 = .int .i64 (k : Int) /\ Hid (Below w1.heap.size w1 wx) /\ Hid ((L.take k).any (fun p=>H.rdOk p.1 p.2) = false))
 case atStart=>exact ⟨0,by omega,rfl,hid (Below.refl _ _),hid rfl⟩
 case round =>
  obtain ⟨k,hk,rfl,HBX,HNO⟩:=hrel
  cases gk with
  | zero =>
   have q1 : ¬ ((k : Int) < (m : Int)):=by omega
   have HE : Hid (L.any (fun p=>H.rdOk p.1 p.2) = false):=hid (by
    have:=HNO.out
    rw [List.take_of_length_le (by have:=HM.out; omega)] at this
    exact this)
   clear HNO
   go_wp2_with fail
   go_ret
   exact ⟨by rw [HE.out]; rfl,HB.out.trans (HBX.out.mono HB.out.size)⟩
  | succ g1 =>
   have q1 : (k : Int) < (m : Int):=by omega
   have wk : IntKind.i64.wrap ((k : Int) + 1) = ((k + 1 : Nat) : Int):=wrapN (b:=1) (by omega)
   obtain ⟨p,hp⟩ : ∃ p,L[k]? = some p:=⟨_,List.getElem?_eq_getElem (by have:=HM.out; omega)⟩
   obtain ⟨g,rfl,hg,hx0,hx1⟩:=HC.out k p hp
   have d0 : wr.cell? ⟨g,k * 2,none⟩ = some (.string p.1):=by rw [HBX.out.cell (p:=⟨g,k * 2,none⟩) hg]; exact hx0
   have d1 : wr.cell? ⟨g,k * 2 + 1,none⟩ = some (.string p.2):=by rw [HBX.out.cell (p:=⟨g,k * 2 + 1,none⟩) hg]; exact hx1
   have HP:=hid hp
   have HTK : Hid ((L.take (k + 1)).any (fun p=>H.rdOk p.1 p.2) = H.rdOk p.1 p.2):=hid (by
    rw [List.take_add_one,hp,List.any_append,HNO.out]
    simp)
   have HAL : Hid (H.rdOk p.1 p.2 = true -> L.any (fun p=>H.rdOk p.1 p.2) = true):=hid fun h=>List.any_eq_true.2 ⟨p,List.mem_of_getElem? hp,h⟩
   have HRD:=H.refRead_any p.1 p.2 (HSZ.out p (List.mem_of_getElem? hp)) wr
   obtain ⟨a0,a1,a3,z,a2,a4,hrd,hz⟩:=rd_form p.1 p.2
   have HZ:=hid hz
   rw [hrd] at HRD
   unfold H.obv at HRD
   clear hp hx0 hx1 hrd hz HNO
   go_wp2_with fail
   refine HRD.mono ?_
   clear HRD d0 d1
   rintro _ w6 ⟨rfl,hb6⟩
   have HB6:=hid (HBX.out.trans (hb6.mono HBX.out.size))
   have HB7:=hid (HB6.out.trans ((boxed w6 (.cells #[.int .i64 a0,.int .i64 a1,.string a2,.int .i64 a3,.string a4] 111)).mono HB6.out.size))
   clear hb6 HB6
   rcases HZ.out with ⟨rfl,hr⟩ | ⟨rfl,hr⟩
   ·have HE:=hid (HAL.out hr)
    clear hr HZ
    go_wp2_with fail
    go_ret
    exact ⟨by rw [HE.out]; rfl,HB.out.trans (HB7.out.mono HB.out.size)⟩
   ·have HE : Hid ((L.take (k + 1)).any (fun p=>H.rdOk p.1 p.2) = false):=hid (by rw [HTK.out]; exact hr)
    clear hr HZ
    go_wp2_with fail
    go_roundg g1
    case measure=>omega
    case rel=>exact ⟨k + 1,by omega,by first | rfl | simp,HB7,HE⟩
end Go.Proofs.YteapbbaollmniaaGreatDoor
/- Health: what HealthWhole asks of faults and of Mend. No program but Mend's own contract. -/
namespace Go.Proofs.YteapbbaollmniaaGreatDoor
open Go.RowKit Go.Maps
open W
set_option linter.unusedVariables false
variable {w0 w w' : World} {b : Nat} {V V' : Wd} {T : Nat -> Prop} {K N : Int} {bl : List Nat} {n : Nat}
theorem strikeS_room (s : St) {k n a c : Int} (hk : k ≠ 7) : (strikeS s k n a c).2.room = s.room:=by
 unfold strikeS
 by_cases hb : badF k n a c = true
 ·rw [if_pos hb]
 ·rw [if_neg hb]
  have hb' : badF k n a c = false:=by simpa using hb
  unfold badF at hb'
  simp only [Bool.or_eq_false_iff,decide_eq_false_iff_not] at hb'
  have h1 : k = 1 \/ k = 2 \/ k = 3 \/ k = 4 \/ k = 5 \/ k = 6:=by omega
  rcases h1 with rfl | rfl | rfl | rfl | rfl | rfl
  ·rfl
  ·rfl
  ·show (bendS s n.toNat a.toNat c.toNat).room = s.room
   unfold bendS
   split
   ·rfl
   ·split <;> rfl
  ·rfl
  ·rfl
  ·rfl
theorem strikeS_refuse (s : St) {k n a c : Int} (hk : k ≠ 6) : (strikeS s k n a c).2.refuse = s.refuse:=by
 unfold strikeS
 by_cases hb : badF k n a c = true
 ·rw [if_pos hb]
 ·rw [if_neg hb]
  have hb' : badF k n a c = false:=by simpa using hb
  unfold badF at hb'
  simp only [Bool.or_eq_false_iff,decide_eq_false_iff_not] at hb'
  have h1 : k = 1 \/ k = 2 \/ k = 3 \/ k = 4 \/ k = 5 \/ k = 7:=by omega
  rcases h1 with rfl | rfl | rfl | rfl | rfl | rfl
  ·rfl
  ·rfl
  ·show (bendS s n.toNat a.toNat c.toNat).refuse = s.refuse
   unfold bendS
   split
   ·rfl
   ·split <;> rfl
  ·rfl
  ·rfl
  ·rfl
theorem strikeW_all {P : St -> Prop} {k t n a c : Int} (hP : ∀ s,P s -> P (strikeS s k n a c).2) (h : ∀ x ∈ V.l,P x.st) : ∀ x ∈ (strikeW V k t n a c).2.l,P x.st:=by
 unfold strikeW
 split
 ·cases hx : V.l[t.toNat]? with
  | none=>exact h
  | some y =>
   intro x hx'
   rcases List.mem_or_eq_of_mem_set hx' with h1 | rfl
   ·exact h x h1
   ·exact hP _ (h y (List.mem_of_getElem? hx))
 ·exact h
/-- where a store that is struck has all that it had, nothing was forged -/
theorem forged_fair {k t n' a c : Int} (h : forgedB (objsW V t) (objsW (strikeW V k t n' a c).2 t) = false) : Fair V k t n' a c:=by
 intro p hp hr
 unfold forgedB at h
 rw [List.any_eq_false] at h
 by_cases hi : inB p (objsW V t) = true
 ·exact inB_mem.1 hi
 ·exact absurd hr (h p (List.mem_filter.2 ⟨hp,by simpa using hi⟩))
/-- what Mend comes to -/
structure Mnd (K : Int) (bl : List Nat) (V : Wd) (m : Nat) (e : Int) (V' : Wd) : Prop where
 left : LeftW K 3 bl 3 V'
 calls : V'.calls <= V.calls + 9
 cnt : m + cntT (sdL K 3 (dig bl) V.l) = cntT (sdL K 3 (dig bl) V'.l)
 ok : e = 0 ↔ cntT (sdL K 3 (dig bl) V'.l) = 3
 kept : ∀ i,(sdL K 3 (dig bl) V.l).getD i false = true -> (sdL K 3 (dig bl) V'.l).getD i false = true
 lost : (cntT (sdL K 3 (dig bl) V.l) : Int) < K -> e = 54 /\ m = 0
 errs : ¬ (cntT (sdL K 3 (dig bl) V.l) : Int) < K -> e = 0 \/ e = 52 \/ e = 53
 free : ¬ (cntT (sdL K 3 (dig bl) V.l) : Int) < K -> (∀ x ∈ V.l,Free x.st) -> e = 0
theorem sdL_sndN (l : List Kp) : cntT (sdL K N (dig bl) l) = sndN K N bl 0 l:=sdL_cnt l
theorem sdL_getD {l : List Kp} {i : Nat} (h : (sdL K N (dig bl) l).getD i false = true) : ∃ x,l[i]? = some x /\ okAt K N bl i x.st = true:=by
 rw [List.getD_eq_getElem?_getD] at h
 cases hx : l[i]? with
 | none =>
  rw [List.getElem?_eq_none (by rw [sdL_len]; exact List.getElem?_eq_none_iff.1 hx)] at h
  cases h
 | some x =>
  rw [sdL_at hx] at h
  exact ⟨x,rfl,h⟩
theorem sdL_getD_of {l : List Kp} {i : Nat} {x : Kp} (hx : l[i]? = some x) (h : okAt K N bl i x.st = true) : (sdL K N (dig bl) l).getD i false = true:=by
 rw [List.getD_eq_getElem?_getD,sdL_at hx]
 exact h
theorem mnd_same (hW : LeftW K 3 bl 3 V) (hc : V.calls <= 50) {e : Int} (hw : (sndN K 3 bl 0 V.l = 3 /\ e = 0 /\ ¬ (sndN K 3 bl 0 V.l : Int) < K) \/ ((sndN K 3 bl 0 V.l : Int) < K /\ e = 54 /\ sndN K 3 bl 0 V.l ≠ 3)) : Mnd K bl V 0 e { V with calls:=V.calls + 3 }:=by
 refine ⟨hW.more (by omega),by show V.calls + 3 <= _; omega,by simp,?_,fun i h=>h,?_,?_,?_⟩
 ·show e = 0 ↔ cntT (sdL K 3 (dig bl) V.l) = 3
  rw [sdL_sndN]
  rcases hw with ⟨h1,rfl,_⟩ | ⟨_,rfl,h3⟩
  ·simp [h1]
  ·simp [h3]
 ·intro h
  rw [sdL_sndN] at h
  rcases hw with ⟨_,_,h3⟩ | ⟨_,rfl,_⟩
  ·exact absurd h h3
  ·exact ⟨rfl,rfl⟩
 ·intro h
  rw [sdL_sndN] at h
  rcases hw with ⟨_,rfl,_⟩ | ⟨h1,_,_⟩
  ·exact .inl rfl
  ·exact absurd h1 h
 ·intro h _
  rw [sdL_sndN] at h
  rcases hw with ⟨_,rfl,_⟩ | ⟨h1,_,_⟩
  ·rfl
  ·exact absurd h1 h
theorem mend_all (h : WT w0 w b V T) (hl : H.Lay w0) (hW : LeftW K 3 bl 3 V) (hc : V.calls <= 50) (hm : C.Mx.mayC K 3 = true) (hb : bl.length <= 32768) (hlt : ∀ x ∈ bl,x < 256) (Q : Ending -> World -> Prop)
  (hq : ∀ (m : Nat) (e : Int) (V' : Wd) (w' : World),Mnd K bl V m e V' -> WT w0 w' b V' T -> Kpt T w w' -> Q (.returned (.tuple #[.int .i64 (m : Int),.int .i64 e])) w') :
  Calls Tryz.prog 13 #[.pointer (some ⟨b,0,none⟩),.agg #[.int .i64 K,.int .i64 3],.string (dig bl)] w Q:=by
 have hK3 : 1 <= K /\ K <= 3:=by have:=may_of hm; omega
 refine mend_n (n:=3) h hl hW hm rfl hb hlt Q (fun h1 w' a1 a2=>?_) (fun h1 w' a1 a2=>?_) (fun h1 h2 R hR w' a1 a2=>?_)
 ·exact hq 0 0 _ w' (mnd_same hW hc (.inl ⟨h1,rfl,by omega⟩)) a1 a2
 ·exact hq 0 54 _ w' (mnd_same hW hc (.inr ⟨h1,rfl,by omega⟩)) a1 a2
 ·have hle:=sndN_le (K:=K) (N:=3) (bl:=bl) 0 V.l
  have hlen:=hW.len
  have hlit : Lit { V with calls:=V.calls + V.l.length }:=hW.lit
  have hML:=mend_left (K:=K) (N:=3) (bl:=bl) (n:=3) hm hb rfl 3 0 0 0 { V with calls:=V.calls + V.l.length } hlit hlen rfl (fun p x hx=>hW.st p x hx)
  have e0 : List.drop 0 ({ V with calls:=V.calls + V.l.length } : Wd).l = V.l:=rfl
  rw [e0,hR] at hML
  have hcnt:=hML.cnt
  have hzero:=hML.zero
  have hcl:=hML.calls
  have hfree:=hML.free
  have hworst:=hML.worst (.inl rfl)
  simp only [List.drop_zero] at hcnt hzero hfree
  have hRl:=hML.len
  refine hq R.1.1 R.1.2 R.2 w' ⟨⟨hML.lit,hML.len,hML.all,?_,?_⟩,?_,?_,?_,?_,?_,?_,?_⟩ a1 a2
  ·have : ({ V with calls:=V.calls + V.l.length } : Wd).calls = V.calls + 3:=by show V.calls + V.l.length = _; rw [hlen]
   omega
  ·rw [hML.left]; exact hW.left
  ·have : ({ V with calls:=V.calls + V.l.length } : Wd).calls = V.calls + 3:=by show V.calls + V.l.length = _; rw [hlen]
   omega
  ·rw [sdL_sndN,sdL_sndN]
   have e1 : ({ V with calls:=V.calls + V.l.length } : Wd).l = V.l:=rfl
   rw [e1] at hcnt
   omega
  ·rw [sdL_sndN,hzero]
   simp
  ·intro i hi
   obtain ⟨x,hx,ho⟩:=sdL_getD hi
   exact sdL_getD_of (hML.kept i x hx ho) ho
  ·intro h
   rw [sdL_sndN] at h
   omega
  ·intro _
   exact hworst
  ·intro _ hf
   rw [hzero]
   exact ⟨trivial,hfree fun p x _ hx _=>hf x (List.mem_of_getElem? hx)⟩
end Go.Proofs.YteapbbaollmniaaGreatDoor
