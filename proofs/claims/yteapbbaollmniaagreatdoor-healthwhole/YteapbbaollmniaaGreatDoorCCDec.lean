/- The blob of payloads, with all payloads that it has: the program's Decode and Rebuild. -/
import Derived.Test.YteapbbaollmniaaGreatDoorCCSolved
namespace Go.Proofs.YteapbbaollmniaaGreatDoor.C
open Go.RowKit
/-- all that are handed in are this blob's -/
def IsOf (K : Nat) (zs : List Int) (ps : List (List Nat)) (b : List Nat) : Prop:=b.length <= 32768 /\ (∀ x ∈ b,x < 256) /\ ∀ i,i < zs.length -> ps.getD i [] = payL K b (zs.getD i 0).toNat
theorem sz_mono (K : Nat) {a b : Nat} (h : a <= b) : sz K a <= sz K b:=by unfold sz; exact Nat.div_le_div_right (by omega)
/-- K places of those handed in, and what numbers stand there -/
structure Chosen (K N : Nat) (zs : List Int) (q s : Nat -> Nat) : Prop where
 lt : ∀ i,i < K -> q i < zs.length
 is : ∀ i,i < K -> zs.getD (q i) 0 = ((s i : Nat) : Int)
 inj : ∀ i,i < K -> ∀ j,j < K -> s i = s j -> i = j
 bd : ∀ i,i < K -> s i < N
theorem isOf_data {K N z : Nat} {zs : List Int} {ps : List (List Nat)} {q s : Nat -> Nat} {b : List Nat} (h1 : 1 <= K) (hK : K <= 12) (hN : N <= 12) (hc : Chosen K N zs q s) (hz : ∀ i,i < K -> (ps.getD (q i) []).length = z) (hb : IsOf K zs ps b) :
  z = sz K b.length /\ (∀ n,n < K * z -> flatD K z s (fun i t=>(ps.getD (q i) []).getD t 0) n = pad b n):=by
 obtain ⟨b1,b2,b3⟩:=hb
 have hp : ∀ i,i < K -> ps.getD (q i) [] = payL K b (s i):=fun i hi=>by
  rw [b3 (q i) (hc.lt i hi),hc.is i hi]; rfl
 have hzs : z = sz K b.length:=by
  rw [<- hz 0 (by omega),hp 0 (by omega),payL_length]
 refine ⟨hzs,fun n hn=>?_⟩
 subst hzs
 refine flatD_is b2 (by omega) hc.inj (fun i hi=>by have:=hc.bd i hi; omega) (fun k hk t ht=>?_) hn
 show (ps.getD (q k) []).getD t 0 = _
 rw [hp k hk]
 exact rowN_get _ _ _ ht
/-- what the data say of the blob -/
theorem isOf_blob {K N z : Nat} {zs : List Int} {ps : List (List Nat)} {q s : Nat -> Nat} {b : List Nat} {D : Nat -> Nat} (h1 : 1 <= K) (hK : K <= 12) (hN : N <= 12) (hc : Chosen K N zs q s) (hz : ∀ i,i < K -> (ps.getD (q i) []).length = z) (hb : IsOf K zs ps b) (hD : D = flatD K z s (fun i t=>(ps.getD (q i) []).getD t 0)) :
  num D 8 = b.length /\ 8 + b.length <= K * z /\ rowN (num D 8) (fun i=>D (8 + i)) = b:=by
 obtain ⟨e1,e2⟩:=isOf_data h1 hK hN hc hz hb
 have hf:=sz_facts K b.length h1
 rw [<- e1] at hf
 have e3 : num D 8 = b.length:=by
  rw [<- pad_len hb.1]
  exact num_congr 8 fun k hk=>by rw [hD]; exact e2 k (by omega)
 refine ⟨e3,hf.1,?_⟩
 rw [e3]
 conv=>rhs; rw [<- pad_blob b]
 exact rowN_congr fun j hj=>by rw [hD]; exact e2 _ (by omega)
theorem chosen_first {K N : Nat} {zs : List Int} (hg : goodZ (N : Int) zs) (hK : K <= zs.length) : Chosen K N zs (fun i=>i) (fun i=>(zs.getD i 0).toNat) :=
 ⟨fun i hi=>by omega,fun i hi=>by have:=(hg i (by omega)).1; omega,fun i hi j hj e=>goodZ_inj hg (by omega) (by omega) (by have:=(hg i (by omega)).1; have:=(hg j (by omega)).1; omega),fun i hi=>by have:=(hg i (by omega)).1; omega⟩
theorem IsOf.one {K N : Nat} {zs : List Int} {ps : List (List Nat)} {b b' : List Nat} (h1 : 1 <= K) (hK : K <= 12) (hN : N <= 12) (hg : goodZ (N : Int) zs) (hl : K <= zs.length) (h : IsOf K zs ps b) (h' : IsOf K zs ps b') : b = b':=by
 have hc:=chosen_first hg hl
 exact pay_inj h.2.1 h'.2.1 h.1 h'.1 h1 (by omega) hc.inj (fun i hi=>by have:=hc.bd i hi; omega) (fun k hk=>by
  rw [<- h.2.2 k (by omega),<- h'.2.2 k (by omega)])
/-- may these be asked? -/
def PreD (K N : Int) (zs : List Int) (ps : List (List Nat)) : Prop:=Mx.mayC K N = true /\ zs.length = ps.length /\ goodZ N zs
/-- what Decode answers -/
def DecIs (K N : Int) (zs : List Int) (ps : List (List Nat)) (s : List Nat) (er : Int) : Prop :=
 (¬ PreD K N zs ps /\ s = [] /\ er = 1) \/ (PreD K N zs ps /\ (zs.length : Int) < K /\ s = [] /\ er = 54) \/ (PreD K N zs ps /\ ¬ (zs.length : Int) < K /\ ((IsOf K.toNat zs ps s /\ er = 0) \/ ((¬ ∃ b,IsOf K.toNat zs ps b) /\ s = [] /\ er = 4)))
theorem DecIs.one {K N : Int} {zs : List Int} {ps : List (List Nat)} {s s' : List Nat} {er er' : Int} (h : DecIs K N zs ps s er) (h' : DecIs K N zs ps s' er') : s = s' /\ er = er':=by
 rcases h with ⟨a,rfl,rfl⟩ | ⟨a,b,rfl,rfl⟩ | ⟨a,b,c⟩
 ·rcases h' with ⟨a',rfl,rfl⟩ | ⟨a',_⟩ | ⟨a',_⟩
  ·exact ⟨rfl,rfl⟩
  ·exact absurd a' a
  ·exact absurd a' a
 ·rcases h' with ⟨a',_⟩ | ⟨a',b',rfl,rfl⟩ | ⟨a',b',_⟩
  ·exact absurd a a'
  ·exact ⟨rfl,rfl⟩
  ·exact absurd b b'
 ·rcases h' with ⟨a',_⟩ | ⟨a',b',_⟩ | ⟨a',b',c'⟩
  ·exact absurd a a'
  ·exact absurd b' b
  ·obtain ⟨k,n,rfl,rfl,h1,h2,h3⟩:=mayC_facts a.1
   rcases c with ⟨c,rfl⟩ | ⟨c,rfl,rfl⟩
   ·rcases c' with ⟨c',rfl⟩ | ⟨c',_⟩
    ·exact ⟨IsOf.one h1 (by omega) h3 a.2.2 (by omega) c c',rfl⟩
    ·exact absurd ⟨_,c⟩ c'
   ·rcases c' with ⟨c',rfl⟩ | ⟨c',rfl,rfl⟩
    ·exact absurd ⟨_,c'⟩ c
    ·exact ⟨rfl,rfl⟩
theorem mayL_facts {K : Nat} {ps : List (List Nat)} (h : mayL K ps = true) : sz K 0 <= (ps.getD 0 []).length /\ (ps.getD 0 []).length <= sz K 32768 /\ ∀ j,j < ps.length -> (ps.getD j []).length = (ps.getD 0 []).length:=of_decide_eq_true h
theorem mayL_of {K : Nat} {zs : List Int} {ps : List (List Nat)} {b : List Nat} (h : IsOf K zs ps b) (hl : zs.length = ps.length) (hp : 0 < zs.length) : mayL K ps = true:=by
 have hj : ∀ j,j < ps.length -> (ps.getD j []).length = sz K b.length:=fun j hj=>by rw [h.2.2 j (by omega),payL_length]
 unfold mayL
 rw [decide_eq_true_iff,hj 0 (by omega)]
 exact ⟨sz_mono K (Nat.zero_le _),sz_mono K h.1,fun j hjj=>hj j hjj⟩
theorem low_chosen {K N : Nat} {zs : List Int} (hg : goodZ (N : Int) zs) (hK : K <= zs.length) : ∃ q,Chosen K N zs q (fun i=>(low zs K N).getD i 0):=by
 have hLl:=low_length hg hK
 have hm : ∀ i,i < K -> (low zs K N).getD i 0 ∈ low zs K N:=fun i hi=>by
  rw [List.getD_eq_getElem?_getD,List.getElem?_eq_getElem (by omega)]; exact List.getElem_mem _
 have h' : ∀ i,∃ j,i < K -> j < zs.length /\ zs.getD j 0 = (((low zs K N).getD i 0 : Nat) : Int):=fun i=>by
  by_cases hi : i < K
  ·have:=(low_mem (hm i hi)).2
   unfold inZ at this
   obtain ⟨j,hj⟩:=of_decide_eq_true this
   exact ⟨j,fun _=>hj⟩
  ·exact ⟨0,fun h=>absurd h hi⟩
 obtain ⟨q,hq⟩:=Classical.axiomOfChoice h'
 refine ⟨q,fun i hi=>(hq i hi).1,fun i hi=>(hq i hi).2,fun i hi j hj e=>?_,fun i hi=>(low_mem (hm i hi)).1⟩
 have e' : (low zs K N).getD i 0 = (low zs K N).getD j 0:=e
 rw [List.getD_eq_getElem?_getD,List.getD_eq_getElem?_getD,List.getElem?_eq_getElem (by omega),List.getElem?_eq_getElem (by omega)] at e'
 simp only [Option.getD_some] at e'
 exact (List.getElem_inj (low_nodup zs K N)).1 e'
end Go.Proofs.YteapbbaollmniaaGreatDoor.C
/- The program's Decode and Rebuild. -/
namespace Go.Proofs.YteapbbaollmniaaGreatDoor.C
open Go.RowKit
theorem beq_nat' (m n : Nat) (h : m ≠ n) : ((m : Int) != (n : Int)) = true:=by simp; omega
/-- what whole answers -/
def WholeIs (K N : Int) (zs : List Int) (ps : List (List Nat)) (w w' : World) (e : Ending) : Prop:=∃ s r er,e = .returned (.tuple #[.string (ofBs s),r,.int .i64 er]) /\ DecIs K N zs ps s er /\ (er = 0 -> Strs w' r (encL K.toNat N.toNat s)) /\ Below w.heap.size w w'
theorem WholeIs.refused {K N : Int} {zs : List Int} {ps : List (List Nat)} {w w' : World} {e : Ending} {er : Int} (he : e = .returned (.tuple #[.string ⟨#[]⟩,.slice none 0 0,.int .i64 er])) (hd : DecIs K N zs ps [] er) (h0 : er ≠ 0) (hb : Below w.heap.size w w') : WholeIs K N zs ps w w' e :=
 ⟨[],_,er,he,hd,fun h=>absurd h h0,hb⟩
set_option maxRecDepth 20000 in
set_option maxHeartbeats 2000000 in
theorem whole_no (K N : Int) (vz vp : Value) (zs : List Int) (ps : List (List Nat)) (w : World) (hz : Ints64 w vz zs) (hp : Strs w vp ps) (hno : ¬ PreD K N zs ps) :
  Calls Tryz.prog 79 #[cv K N,vz,vp] w fun e w'=>WholeIs K N zs ps w w' e:=by
 have bA : Below w.heap.size w (w.alloc (.cells #[.int .i64 K,.int .i64 N] 23)):=(Below.refl _ _).alloc (Nat.le_refl _) _
 have hbox : Has (w.alloc (.cells #[.int .i64 K,.int .i64 N] 23)) w.heap.size #[.int .i64 K,.int .i64 N] 23:=Has.new w w.heap.size _ 23 rfl
 have hmc:=Mx.mayCode_any K N (w.alloc (.cells #[.int .i64 K,.int .i64 N] 23))
 have hd : DecIs K N zs ps [] 1:=.inl ⟨hno,rfl,rfl⟩
 have HAt : Hid (∀ W,Below w.heap.size w W -> _):=fun W hW=>atHand_any K N vz zs W ⟨hz.1.below hW,hz.2⟩
 have HD:=hid hd
 have HNo:=hid hno
 obtain ⟨⟨az,cz,hvz,_⟩,_⟩:=hz
 obtain ⟨ap,cp,hvp,_⟩:=hp
 subst hvz
 subst hvp
 clear hd hno
 unfold cv at HAt ⊢
 cases hm : Mx.mayC K N with
 | false =>
  go_enter Tryz.func79,Tryz.ntmps79
  go_wp2_with fail
  refine hmc.mono ?_
  rintro e w1 ⟨rfl,b1⟩
  rw [hm]
  go_wp2_with fail
  go_ret3
  exact WholeIs.refused rfl HD.out (by decide) (belowCall bA b1)
 | true =>
  by_cases hl : zs.length = ps.length
  ·have hng : ¬ goodZ N zs:=fun hg=>HNo.out ⟨hm,hl,hg⟩
   have e0 : ((zs.length : Int) != (ps.length : Int)) = false:=by rw [hl]; simp
   clear hl
   go_enter Tryz.func79,Tryz.ntmps79
   go_wp2_with fail
   refine hmc.mono ?_
   rintro e w1 ⟨rfl,b1⟩
   rw [hm]
   have B1:=belowCall bA b1
   have hb1:=hbox.below b1 (by simp)
   have c0 : w1.cell? ⟨w.heap.size,0,none⟩ = some (.int .i64 K):=hb1.cell 0
   have c1 : w1.cell? ⟨w.heap.size,1,none⟩ = some (.int .i64 N):=hb1.cell 1
   clear b1
   go_wp2_with fail
   refine (HAt.out w1 B1).mono ?_
   rintro e w2 ⟨b2,he⟩
   rw [if_neg hng] at he
   subst he
   go_wp2_with fail
   go_ret3
   exact WholeIs.refused rfl HD.out (by decide) (belowCall B1 b2)
  ·have e0:=beq_nat' _ _ hl
   go_enter Tryz.func79,Tryz.ntmps79
   go_wp2_with fail
   refine hmc.mono ?_
   rintro e w1 ⟨rfl,b1⟩
   rw [hm]
   go_wp2_with fail
   go_ret3
   exact WholeIs.refused rfl HD.out (by decide) (belowCall bA b1)
set_option maxRecDepth 20000 in
set_option maxHeartbeats 4000000 in
theorem whole_pre (K N : Nat) (vz vp : Value) (zs : List Int) (ps : List (List Nat)) (w : World) (h1 : 1 <= K) (h2 : K <= N) (h3 : N <= 12) (hz : Ints64 w vz zs) (hp : Strs w vp ps) (hpre : PreD K N zs ps) :
  Calls Tryz.prog 79 #[cv K N,vz,vp] w fun e w'=>WholeIs K N zs ps w w' e:=by
 obtain ⟨hm,hl,hg⟩:=hpre
 have bA : Below w.heap.size w (w.alloc (.cells #[.int .i64 (K : Int),.int .i64 (N : Int)] 23)):=(Below.refl _ _).alloc (Nat.le_refl _) _
 have hbox : Has (w.alloc (.cells #[.int .i64 (K : Int),.int .i64 (N : Int)] 23)) w.heap.size #[.int .i64 (K : Int),.int .i64 (N : Int)] 23:=Has.new w w.heap.size _ 23 rfl
 have hmc:=Mx.mayCode_any K N (w.alloc (.cells #[.int .i64 (K : Int),.int .i64 (N : Int)] 23))
 have HAt : Hid (∀ W,Below w.heap.size w W -> _):=fun W hW=>atHand_any K N vz zs W ⟨hz.1.below hW,hz.2⟩
 have HPs:=hid hp
 have HPre : Hid (PreD K N zs ps):=⟨hm,hl,hg⟩
 obtain ⟨⟨az,cz,hvz,hzl,hcz⟩,_⟩:=hz
 obtain ⟨ap,cp,hvp,hpl,_⟩:=hp
 subst hvz
 subst hvp
 have HCz:=hid hcz
 have HG:=hid hg
 have e0 : ((zs.length : Int) != (ps.length : Int)) = false:=by rw [hl]; simp
 have HL:=hid hl
 clear hcz hg hl
 unfold cv at HAt ⊢
 go_enter Tryz.func79,Tryz.ntmps79
 go_wp2_with fail
 refine hmc.mono ?_
 rintro e w1 ⟨rfl,b1⟩
 rw [hm]
 have B1:=belowCall bA b1
 have hb1:=hbox.below b1 (by simp)
 have hbl1:=hb1.lt
 have c0 : w1.cell? ⟨w.heap.size,0,none⟩ = some (.int .i64 (K : Int)):=hb1.cell 0
 have c1 : w1.cell? ⟨w.heap.size,1,none⟩ = some (.int .i64 (N : Int)):=hb1.cell 1
 clear b1 hmc
 go_wp2_with fail
 refine (HAt.out w1 B1).mono ?_
 rintro e w2 ⟨b2,he⟩
 rw [if_pos HG.out] at he
 obtain ⟨b,rfl,hPm⟩:=he
 have HPm:=hid hPm
 have B2:=belowCall B1 b2
 have hb2:=hb1.below b2 hbl1
 have hbl2:=hb2.lt
 clear c0 c1 hPm b2 hb1 HAt
 have c0 : w2.cell? ⟨w.heap.size,0,none⟩ = some (.int .i64 (K : Int)):=hb2.cell 0
 have c1 : w2.cell? ⟨w.heap.size,1,none⟩ = some (.int .i64 (N : Int)):=hb2.cell 1
 by_cases hfew : zs.length < K
 ·have d1 : (zs.length : Int) < (K : Int):=by omega
  have HD : Hid (DecIs K N zs ps [] 54):=.inr (.inl ⟨HPre.out,d1,rfl,rfl⟩)
  go_wp2_with fail
  go_ret3
  exact WholeIs.refused rfl HD.out (by decide) B2
 ·have d1 : ¬ (zs.length : Int) < (K : Int):=by omega
  have HD4 : Hid ((¬ ∃ b,IsOf K zs ps b) -> DecIs K N zs ps [] 4):=fun h=>.inr (.inr ⟨HPre.out,d1,.inr ⟨h,rfl,rfl⟩⟩)
  have HD0 : Hid (∀ bb,IsOf K zs ps bb -> DecIs K N zs ps bb 0):=fun bb h=>.inr (.inr ⟨HPre.out,d1,.inl ⟨h,rfl⟩⟩)
  have hKl : K <= zs.length:=by omega
  go_wp2_with fail
  refine (mayLengths_any K N _ ps w2 h1 h2 h3 (HPs.out.below B2) (by rw [<- HL.out]; omega)).mono ?_
  rintro e w3 ⟨rfl,b3⟩
  have B3:=belowCall B2 b3
  have hb3:=hb2.below b3 hbl2
  have hbl3:=hb3.lt
  have HPm3:=hid (HPm.out.below b3)
  clear c0 c1 b3 hb2 HPm
  have c0 : w3.cell? ⟨w.heap.size,0,none⟩ = some (.int .i64 (K : Int)):=hb3.cell 0
  have c1 : w3.cell? ⟨w.heap.size,1,none⟩ = some (.int .i64 (N : Int)):=hb3.cell 1
  cases hml : mayL K ps with
  | false =>
   have HD : Hid (DecIs K N zs ps [] 4):=HD4.out fun ⟨bb,hbb⟩=>by
    rw [mayL_of hbb HL.out (by omega)] at hml; cases hml
   go_wp2_with fail
   go_ret3
   exact WholeIs.refused rfl HD.out (by decide) B3
  | true =>
   obtain ⟨z1,z2,z3⟩:=mayL_facts hml
   obtain ⟨q,hq⟩:=low_chosen HG.out hKl
   obtain ⟨z,hz⟩ : ∃ z,Hid (z = (ps.getD 0 []).length):=⟨_,rfl⟩
   rw [<- hz.out] at z1 z2 z3
   have s0:=(sz_facts K 0 h1)
   have s1:=sz_le K 32768 h1
   have hzp : 0 < z:=by omega
   have hKz8 : 8 <= K * z:=by
    have:=Nat.mul_le_mul_left K z1; omega
   have hKz7 : K * z <= 12 * z:=Nat.mul_le_mul_right _ (by omega)
   have hKz6 : K * z <= 1000000:=by omega
   have hsv:=solved_any K N b z zs (.slice ap ps.length cp) ps q w3 h1 h2 h3 HPm3.out (HPs.out.below B3) HG.out HL.out.symm hKl hzp (by omega) z3 (fun i hi=>⟨hq.lt i hi,hq.is i hi⟩)
   obtain ⟨D,hD⟩ : ∃ D,Hid (D = flatD K z (fun i=>(low zs K N).getD i 0) (fun i t=>(ps.getD (q i) []).getD t 0)):=⟨_,rfl⟩
   rw [<- hD.out] at hsv
   have HSv:=hid hsv
   have HDb : Hid (∀ i,D i < 256):=fun i=>by rw [hD.out]; exact dat_lt _ _ _ _ _
   have HIs : Hid (∀ bb,IsOf K zs ps bb -> num D 8 = bb.length /\ 8 + bb.length <= K * z /\ rowN (num D 8) (fun i=>D (8 + i)) = bb):=fun bb hbb =>
    isOf_blob h1 (by omega) h3 hq (fun i hi=>z3 (q i) (by rw [<- HL.out]; exact hq.lt i hi)) hbb hD.out
   unfold cv at HSv
   clear hsv z1 z2 z3 s0 s1 hml
   obtain ⟨M,hM⟩ : ∃ M,Hid (M = K * z):=⟨_,rfl⟩
   rw [<- hM.out] at HSv HIs hKz8 hKz6
   go_wp2_with fail
   refine HSv.out.mono ?_
   rintro e w4 ⟨g,rfl,hG4,b4⟩
   have HG4:=hid hG4
   have B4:=belowCall B3 b4
   have hb4:=hb3.below b4 hbl3
   have hbl4:=hb4.lt
   clear hG4 b4 hb3 c0 c1 HSv HPm3
   go_wp2_with fail
   refine (blobOf_any g M D w4 HG4.out HDb.out hKz8 (by omega)).mono ?_
   rintro e w5 ⟨rfl,he⟩
   by_cases hfit : num D 8 <= M - 8
   ·rw [if_pos hfit] at he
    subst he
    have c0 : w5.cell? ⟨w.heap.size,0,none⟩ = some (.int .i64 (K : Int)):=hb4.cell 0
    have c1 : w5.cell? ⟨w.heap.size,1,none⟩ = some (.int .i64 (N : Int)):=hb4.cell 1
    obtain ⟨bb,hbb⟩ : ∃ bb,Hid (bb = rowN (num D 8) (fun i=>D (8 + i))):=⟨_,rfl⟩
    have hbb8 : ∀ x ∈ bb,x < 256:=by rw [hbb.out]; exact rowN_lt (fun j=>HDb.out _)
    have HIb : Hid (∀ b',IsOf K zs ps b' -> bb = b'):=fun b' h=>by rw [hbb.out]; exact (HIs.out b' h).2.2
    have hen:=encode_any K N bb w5 hbb8
    have HEn:=hid hen
    rw [<- hbb.out]
    unfold cv at HEn
    clear hen HG4 HIs HDb
    go_wp2_with fail
    refine HEn.out.mono ?_
    rintro e w6 ⟨ra,rfl,hsa,b6⟩
    have B6:=belowCall B4 b6
    by_cases hbl : bb.length <= 32768
    ·have ee : errE K N bb = 0 /\ ansE K N bb = encL K N bb:=by
      unfold errE ansE okE; rw [hm,if_pos rfl,if_pos hbl,decide_eq_true hbl]; exact ⟨rfl,rfl⟩
     rw [ee.1]
     rw [ee.2] at hsa
     have hsl : (encL K N bb).length = N:=encL_length _ _ _
     obtain ⟨ga,oa,ca,hra,_,hga,hca⟩:=hsa.some (by omega)
     rw [hsl] at hra
     subst hra
     have HSa:=hid hsa
     have HCa:=hid hca
     clear HEn ee hsa hca b6 c0 c1
     go_wp2_with fail
     generalize hnz : zs.length = n at *
     go_loopg [72] n (fun g1 s72 wx=>∃ k : Nat,k + g1 = n /\ s72 = .int .i64 (k : Int) /\ Hid (∀ j,j < k -> ps.getD j [] = payL K bb (zs.getD j 0).toNat) /\ Below w6.heap.size w6 wx)
     case atStart=>exact ⟨0,by omega,rfl,fun j hj=>absurd hj (by omega),Below.refl _ _⟩
     case round =>
      obtain ⟨k,hkg,rfl,hj,hbk⟩:=hrel
      have Bk:=belowCall B6 hbk
      cases gk with
      | zero =>
       have hzk : ¬ ((k : Int) < (n : Int)):=by omega
       have hkn : k = n:=by omega
       have hIs : IsOf K zs ps bb:=⟨hbl,hbb8,fun i hi=>hj.out i (by omega)⟩
       have HD:=hid (HD0.out bb hIs)
       have HSr:=hid (HSa.out.below hbk)
       clear hj hIs hkn
       go_wp2_with fail
       go_ret3
       exact ⟨bb,_,0,rfl,HD.out,fun _=>HSr.out,Bk⟩
      | succ g1 =>
       have hzk : (k : Int) < (n : Int):=by omega
       have hk : k < n:=by omega
       obtain ⟨gz,oz,haz,hgz,hdz⟩:=HCz.out (by omega)
       subst haz
       have q0:=cell_below Bk hgz (hdz k hk)
       have hrg:=(HG.out k (by omega)).1
       obtain ⟨x,hx⟩ : ∃ x : Nat,zs.getD k 0 = (x : Int):=⟨(zs.getD k 0).toNat,by omega⟩
       rw [hx] at q0 hrg
       have hxN : x < N:=by omega
       have HSp:=HPs.out.below Bk
       obtain ⟨gp,op,cp',hvp,_,hgp,hcp⟩:=HSp.some (by rw [<- HL.out]; omega)
       simp only [Value.slice.injEq] at hvp
       obtain ⟨rfl,_,rfl⟩:=hvp
       have k1:=cell_below hbk hga (HCa.out x (by omega))
       rw [encL_get _ _ _ _ hxN] at k1
       have k2:=hcp k (by rw [<- HL.out]; exact hk)
       have px:=payL_lt K bb x
       have pp:=HSp.lt k
       obtain ⟨p1,hp1⟩ : ∃ p1,Hid (p1 = payL K bb x):=⟨_,rfl⟩
       obtain ⟨p2,hp2⟩ : ∃ p2,Hid (p2 = ps.getD k []):=⟨_,rfl⟩
       rw [<- hp1.out] at k1 px
       rw [<- hp2.out] at k2 pp
       have PX:=hid px
       have PP:=hid pp
       have hkp : k < ps.length:=by rw [<- HL.out]; exact hk
       have HCs : Hid (∀ W',Below wr.heap.size wr W' -> W'.cell? ⟨ga,oa + x,none⟩ = some (.string (ofBs p1)) /\ W'.cell? ⟨gp,op + k,none⟩ = some (.string (ofBs p2))):=fun W' hW =>
        ⟨cell_below hW (World.block_lt_of_cell? (h:=k1)) k1,cell_below hW (World.block_lt_of_cell? (h:=k2)) k2⟩
       have HNx : Hid (p1 = p2 ↔ ps.getD k [] = payL K bb (zs.getD k 0).toNat):=by
        unfold Hid; rw [hx,hp1.out,hp2.out]
        exact ⟨fun h=>h.symm,fun h=>h.symm⟩
       clear k1 k2 px pp hdz hcp HSp hrg hx
       go_wp2_with fail
       refine wp_region_last_lit (by kernel_rfl) 77 (by kernel_rfl) (by simp) (by simp) (fun W'=>Below wr.heap.size wr W') (vals ([.slice (some ⟨ga,oa,none⟩) N ca,.int .i64 (x : Int),.pointer (some ⟨ga,oa + x,none⟩),.string (ofBs p1),.slice (some ⟨gp,op,none⟩) ps.length cp,.int .i64 (k : Int),.pointer (some ⟨gp,op + k,none⟩),.string (ofBs p2)] : List Value)) (Below.refl _ _).drew
        ⟨fun a' W' hC hF=>st_val 77 _ rfl (rn_move rfl (hF 15 (by decide))) hC,
         fun a' W' hC hF=>st_val 78 _ rfl (rn_move rfl (hF 17 (by decide))) hC,
         fun a' W' hC hF=>st_val 79 _ rfl (rn_at28 rfl (hF 77 (by decide)) (hF 78 (by decide)) hxN) hC,
         fun a' W' hC hF=>st_val 80 _ rfl (rn_load9 rfl (hF 79 (by decide)) (HCs.out W' hC).1) hC,
         fun a' W' hC hF=>st_val 81 _ rfl (rn_move rfl (hF 2 (by decide))) hC,
         fun a' W' hC hF=>st_val 82 _ rfl (rn_move rfl (hF 16 (by decide))) hC,
         fun a' W' hC hF=>st_val 83 _ rfl (rn_at28 rfl (hF 81 (by decide)) (hF 82 (by decide)) hkp) hC,
         fun a' W' hC hF=>st_val 84 _ rfl (rn_load9 rfl (hF 83 (by decide)) (HCs.out W' hC).2) hC,
         ?_⟩
       intro W' hC
       generalize hA : puts _ _ _ _ = A
       have hy1 : A.eval (.tmp 80) = .string (ofBs p1):=by rw [<- hA]; exact ev_puts 8 3 rfl (by simp) (by decide)
       have hy2 : A.eval (.tmp 84) = .string (ofBs p2):=by rw [<- hA]; exact ev_puts 8 7 rfl (by simp) (by decide)
       refine st_valLast _ (rn_neqS rfl hy1 hy2 PX.out PP.out) ?_
       rw [<- hA]
       clear hy1 hy2 hA A
       have hB':=belowCall hbk hC
       have hBw:=belowCall Bk hC
       clear HCs hC
       simp only [List.length_cons,List.length_nil,Nat.reduceAdd,Nat.reduceSub,puts,Act.put,vals,List.setIfInBounds_toArray,List.set_cons_succ,List.set_cons_zero,List.getD_cons_succ,List.getD_cons_zero]
       by_cases he : p1 = p2
       ·have de : decide (p1 = p2) = true:=decide_eq_true he
        rw [de]
        have hj' : Hid (∀ j,j < k + 1 -> ps.getD j [] = payL K bb (zs.getD j 0).toNat):=fun j hjk=>by
         by_cases hlt : j < k
         ·exact hj.out j hlt
         ·obtain rfl : j = k:=by omega
          exact HNx.out.1 he
        clear hj de he
        go_wp2_with fail
        go_roundg g1
        case measure=>omega
        case rel=>exact ⟨k + 1,by omega,by first | rfl | simp,hj',hB'⟩
       ·have de : decide (p1 = p2) = false:=decide_eq_false he
        rw [de]
        have HD : Hid (DecIs K N zs ps [] 4):=HD4.out fun ⟨b',hb'⟩=>he (HNx.out.2 (by
         rw [HIb.out b' hb']; exact hb'.2.2 k (by omega)))
        clear hj de
        go_wp2_with fail
        go_ret3
        exact WholeIs.refused rfl HD.out (by decide) hBw
    ·have ee : errE K N bb = 40:=by unfold errE; rw [hm,if_pos rfl,if_neg hbl]
     rw [ee]
     have HD : Hid (DecIs K N zs ps [] 4):=HD4.out fun ⟨b',hb'⟩=>hbl (by rw [HIb.out b' hb']; exact hb'.1)
     clear HEn hsa
     go_wp2_with fail
     go_ret3
     exact WholeIs.refused rfl HD.out (by decide) B6
   ·rw [if_neg hfit] at he
    subst he
    have HD : Hid (DecIs K N zs ps [] 4):=HD4.out fun ⟨b',hb'⟩=>hfit (by have:=HIs.out b' hb'; omega)
    go_wp2_with fail
    go_ret3
    exact WholeIs.refused rfl HD.out (by decide) B4
theorem whole_any (K N : Int) (vz vp : Value) (zs : List Int) (ps : List (List Nat)) (w : World) (hz : Ints64 w vz zs) (hp : Strs w vp ps) :
  Calls Tryz.prog 79 #[cv K N,vz,vp] w fun e w'=>WholeIs K N zs ps w w' e:=by
 by_cases hpre : PreD K N zs ps
 ·obtain ⟨k,n,rfl,rfl,h1,h2,h3⟩:=mayC_facts hpre.1
  exact whole_pre k n vz vp zs ps w h1 h2 h3 hz hp hpre
 ·exact whole_no K N vz vp zs ps w hz hp hpre
end Go.Proofs.YteapbbaollmniaaGreatDoor.C
