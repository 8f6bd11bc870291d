/- The program's Encode. -/
import Derived.Test.YteapbbaollmniaaGreatDoorCCStr
import Derived.ProofKit
import Derived.OpenShut
import Derived.Lib.SmallJoins
import Derived.Carry
import Derived.SliceStrings
import Derived.Maps.OwnSet
namespace Go.Proofs.YteapbbaollmniaaGreatDoor.C
open Go.RowKit
def okE (K N : Int) (b : List Nat) : Bool:=Mx.mayC K N && decide (b.length <= 32768)
def ansE (K N : Int) (b : List Nat) : List (List Nat):=if okE K N b then encL K.toNat N.toNat b else []
def errE (K N : Int) (b : List Nat) : Int:=if Mx.mayC K N then (if b.length <= 32768 then 0 else 40) else 1
theorem errZ_len (K N : Int) (b : List Nat) : errZ K N (b.length : Int) = errE K N b:=by
 unfold errZ errE
 by_cases h : Mx.mayC K N = true
 ·rw [if_pos ⟨h,by omega⟩,if_pos h]
  by_cases hl : b.length <= 32768
  ·rw [if_pos (by omega),if_pos hl]
  ·rw [if_neg (by omega),if_neg hl]
 ·rw [if_neg (fun hh=>h hh.1),if_neg h]
/-- the length and the blob in the list -/
theorem pad_laid {b : List Nat} {M : Nat} (hM : 8 + b.length <= M) : (rowN M (lenTo (fun _=>0) b.length 8)).take 8 ++ b ++ (rowN M (lenTo (fun _=>0) b.length 8)).drop (8 + b.length) = rowN M (pad b):=by
 apply ext_getD 0
 ·simp [rowN_length]; omega
 ·intro j hj
  have hj' : j < M:=by simp [rowN_length] at hj; omega
  rw [rowN_get _ _ _ hj']
  unfold pad
  have hl8 : ((rowN M (lenTo (fun _=>0) b.length 8)).take 8).length = 8:=by simp [rowN_length]; omega
  by_cases h1 : j < 8
  ·rw [if_pos h1,List.append_assoc,getD_left _ _ _ _ (by rw [hl8]; exact h1),List.getD_eq_getElem?_getD,List.getElem?_take,if_pos h1,<- List.getD_eq_getElem?_getD,rowN_get _ _ _ hj']
   unfold lenTo; rw [if_pos (by omega)]
  ·rw [if_neg h1,List.append_assoc,getD_right _ _ _ _ (by rw [hl8]; omega),hl8]
   by_cases h2 : j - 8 < b.length
   ·rw [getD_left _ _ _ _ h2]
   ·rw [getD_right _ _ _ _ (by omega),List.getD_eq_getElem?_getD,List.getElem?_drop,<- List.getD_eq_getElem?_getD,rowN_get _ _ _ (by omega)]
    unfold lenTo
    rw [if_neg (by omega),List.getD_eq_getElem?_getD,List.getElem?_eq_none (by omega)]; rfl
theorem keeps_setCells {g : Nat} : ∀ (vs : List Value) (o : Nat) {w w' : World},Keeps g (g + 1) w w' -> Keeps g (g + 1) w (w'.setCells g o vs)
 | [],_,_,_,h=>h
 | v :: r,o,_,_,h=>by
  rw [World.setCells]
  exact keeps_setCells r (o + 1) (h.set (Nat.le_refl _) (Nat.lt_succ_self _) v)
theorem pad_zero {b : List Nat} {i : Nat} (h : 8 + b.length <= i) : pad b i = 0:=by
 unfold pad
 rw [if_neg (by omega),List.getD_eq_getElem?_getD,List.getElem?_eq_none (by omega)]; rfl
/-- behind addUp the pieces are the payloads -/
theorem up_pay {K N : Nat} {b : List Nat} {m : List (List Nat)} (hb : ∀ x ∈ b,x < 256) (hK : 1 <= K) (hm : ∀ i,i < N - K -> ∀ j,j < K -> at2 m i j = Mx.ofVal K (K + i) j) {i t : Nat} (hi : i < N) (ht : t < sz K b.length) :
  upF (pad b) (K * sz K b.length) (sz K b.length) K (at2 m) (fun j t=>pad b (j * sz K b.length + t)) (N - K) 0 (i * sz K b.length + t) = pay K b i t:=by
 have hf:=sz_facts K b.length hK
 by_cases h : i < K
 ·rw [upF_low _ _ _ _ _ _ _ _ _ (at_lt h ht),pay_first hb h]
 ·obtain ⟨r,rfl⟩ : ∃ r,i = K + r:=⟨i - K,by omega⟩
  have e1 : (K + r) * sz K b.length + t - K * sz K b.length = r * sz K b.length + t:=by rw [Nat.add_mul]; omega
  have e0 : K * sz K b.length <= (K + r) * sz K b.length + t:=by rw [Nat.add_mul]; omega
  obtain ⟨e2,e3⟩:=at_div (i:=r) ht
  unfold upF
  rw [if_pos e0,e1,e2,e3,if_pos (by omega),pad_zero (by omega),Nat.zero_xor]
  unfold pay
  exact El.xs_congr K fun j hj=>by rw [hm r (by omega) j hj]
theorem drop_row {m : List (List Nat)} (K i : Nat) : (m.drop K).getD i [] = m.getD (K + i) []:=by
 rw [List.getD_eq_getElem?_getD,List.getElem?_drop,<- List.getD_eq_getElem?_getD]
theorem ofM_row (K N i j : Nat) (hi : i < N) (hj : j < K) : at2 (Mx.ofM K N) i j = Mx.ofVal K i j:=by
 unfold at2 Mx.ofM
 rw [Mx.grid_row _ _ _ _ hi,range_getD _ _ _ hj]
theorem enter22 {w : World} (args : Array Value) : (callFunc 112 args).run Tryz.prog w = .ok (.enter 112 args) w:=by kernel_rfl
/-- what addUp leaves of the list -/
def encF (K N : Nat) (b : List Nat) (z : Nat) : Nat -> Nat:=upF (pad b) (K * z) z K (at2 ((Mx.ofM K N).drop K)) (fun j t=>pad b (j * z + t)) (N - K) 0
theorem encF_pay {K N : Nat} {b : List Nat} (hb : ∀ x ∈ b,x < 256) (hK : 1 <= K) {i t : Nat} (hi : i < N) (ht : t < sz K b.length) : encF K N b (sz K b.length) (i * sz K b.length + t) = pay K b i t :=
 up_pay hb hK (fun i hi j hj=>by
  rw [<- ofM_row K N (K + i) j (by omega) hj]
  unfold at2
  rw [drop_row]) hi ht
theorem addUp_enc (g K N M z T Tm : Nat) (b : List Nat) (w2 W : World) (h1 : 1 <= K) (h2 : K <= N) (h3 : N <= 12) (hb : ∀ x ∈ b,x < 256) (hz : 0 < z) (hM : M = N * z) (hM6 : M <= 1000000) (hG : Has W g (U8s (rowN M (pad b))) 5) (hT : Has W T (cutTo g z N N) 136) (hTg : T ≠ g)
  (hm : Mat w2 (.slice (some ⟨Tm,0,none⟩) N N) (Mx.ofM K N)) (hg : w2.heap.size = g) (hB : Below g w2 W) :
  Calls Tryz.prog 112 #[.slice (if N = K then some ⟨T,0,none⟩ else some ⟨T,0 + K,none⟩) (N - K) (N - K),.slice (if N = K then some ⟨Tm,0,none⟩ else some ⟨Tm,0 + K,none⟩) (N - K) (N - K),.slice (some ⟨T,0,none⟩) K N] W fun e w'=>e = .returned (.tuple #[]) /\ Has w' g (U8s (rowN M (encF K N b z))) 5 /\ Keeps g (g + 1) W w':=by
 by_cases he : N = K
 ·rw [if_pos he,if_pos he,show N - K = 0 by omega]
  refine (addUp_none _ _ _ 0 W ⟨_,_,_,rfl⟩ ⟨_,_,_,rfl⟩).mono ?_
  rintro e w' ⟨rfl,hb'⟩
  refine ⟨rfl,?_,Keeps.ofBelow hb' (Nat.le_of_lt hG.lt)⟩
  unfold encF
  rw [show N - K = 0 by omega,upF_zero]
  exact hG.below hb' hG.lt
 ·rw [if_neg he,if_neg he]
  have hlm : (Mx.ofM K N).length = N:=Mx.grid_length _ _ _
  have hsp : K * z + (N - K) * z = N * z:=by rw [<- Nat.add_mul]; congr 1; omega
  have hKz : ∀ j,j < K -> j * z + z <= K * z:=fun j hj=>by
   have:=Nat.mul_le_mul_right z (show j + 1 <= K by omega)
   rw [Nat.succ_mul] at this; exact this
  refine addUp_some g M z (N - K) K (K * z) T (0 + K) (N - K) T 0 N Tm (0 + K) (N - K) (pad b) ((Mx.ofM K N).drop K) (fun _=>g) (fun j=>j * z) (fun _=>z) (fun j t=>pad b (j * z + t)) W w2 hG (pad_lt hb) hM6 hz (by omega) (by omega) (by omega) (by omega) (by omega)
   ⟨hTg,hT.lt,fun i hi=>?_⟩ (hm.drop rfl hlm (by omega) _) (by omega) (by rw [hg]; exact hB) (by rw [List.length_drop,hlm]) (fun i hi=>?_) ⟨hTg,hT.lt,fun j hj=>?_⟩ (fun j hj=>.inr ⟨rfl,hKz j hj,fun _ _=>rfl⟩) (fun j t=>pad_lt hb _)
  ·rw [hT.cell,Nat.zero_add,cutTo_get _ _ _ _ _ (by omega),if_pos (by omega)]; unfold cutV; rw [Nat.add_mul]
  ·rw [drop_row]; exact Mx.grid_row_length _ _ _ _ (by omega)
  ·rw [hT.cell,Nat.zero_add,cutTo_get _ _ _ _ _ (by omega),if_pos (by omega)]; rfl
set_option maxRecDepth 20000 in
set_option maxHeartbeats 4000000 in
theorem encode_ok (K N : Nat) (b : List Nat) (w : World) (h1 : 1 <= K) (h2 : K <= N) (h3 : N <= 12) (hl : b.length <= 32768) (hb : ∀ x ∈ b,x < 256) :
  Calls Tryz.prog 60 #[cv K N,.string (ofBs b)] w fun e w'=>∃ T,e = .returned (.tuple #[.slice (some ⟨T,0,none⟩) N N,.int .i64 0]) /\ Has w' T (strTo N (payL K b) N) 9 /\ w.heap.size <= T /\ Below w.heap.size w w':=by
 have hm : Mx.mayC K N = true:=by unfold Mx.mayC; simp; omega
 have bA : Below w.heap.size w (w.alloc (.cells #[.int .i64 (K : Int),.int .i64 (N : Int)] 23)):=(Below.refl _ _).alloc (Nat.le_refl _) _
 have hcell : Has (w.alloc (.cells #[.int .i64 (K : Int),.int .i64 (N : Int)] 23)) w.heap.size #[.int .i64 (K : Int),.int .i64 (N : Int)] 23:=Has.new w w.heap.size _ 23 rfl
 have hsz:=size_any K N (b.length : Int) (w.alloc (.cells #[.int .i64 (K : Int),.int .i64 (N : Int)] 23))
 have ez : ansZ K N (b.length : Int) = ((sz K b.length : Nat) : Int) /\ errZ K N (b.length : Int) = 0:=by
  unfold ansZ errZ; rw [hm]; simp; omega
 rw [ez.1,ez.2] at hsz
 have hbs : (ofBs b).size = b.length:=ofBs_size b
 obtain ⟨f1,f2,f3⟩:=sz_facts K b.length h1
 have f4:=sz_le K b.length h1
 obtain ⟨z,hzd⟩ : ∃ z,Hid (z = sz K b.length):=⟨_,rfl⟩
 rw [<- hzd.out] at f1 f2 f3 f4 hsz
 have HSZ:=hid hsz
 have f5 : N * z <= 12 * z:=Nat.mul_le_mul_right _ h3
 have f6 : K * z <= N * z:=Nat.mul_le_mul_right _ h2
 have HB:=hid hb
 clear hsz ez hb
 unfold cv at HSZ ⊢
 go_enter Tryz.func60,Tryz.ntmps60
 go_wp2_with fail
 refine HSZ.out.mono ?_
 rintro e w1 ⟨rfl,b1⟩
 have B1:=belowCall bA b1
 have hC1:=hcell.below b1 (by simp)
 have c0 : w1.cell? ⟨w.heap.size,0,none⟩ = some (.int .i64 (K : Int)):=hC1.cell 0
 have c1 : w1.cell? ⟨w.heap.size,1,none⟩ = some (.int .i64 (N : Int)):=hC1.cell 1
 clear b1 HSZ hcell
 go_wp2_with fail
 refine (Mx.of_t K N h1 h2 h3 w1).mono ?_
 rintro e w2 ⟨rm,rfl,hnm,b2⟩
 have hlm : (Mx.ofM K N).length = N:=Mx.grid_length _ _ _
 have HMat : Hid (Mat w2 rm (Mx.ofM K N)):=hnm.mat
 obtain ⟨Tm,hrm⟩ : ∃ Tm,rm = .slice (some ⟨Tm,0,none⟩) N N:=by
  rcases hnm.2.2 with ⟨_,e⟩ | ⟨Tm,e,_⟩
  ·rw [e] at hlm; simp at hlm; omega
  ·rw [hlm] at e; exact ⟨Tm,e⟩
 subst hrm
 have B2:=belowCall B1 b2
 have hcs : w.heap.size < w1.heap.size:=hC1.lt
 have hC2:=hC1.below b2 hcs
 clear hnm b2 c0 c1 hC1
 have c0 : w2.cell? ⟨w.heap.size,0,none⟩ = some (.int .i64 (K : Int)):=hC2.cell 0
 have c1 : w2.cell? ⟨w.heap.size,1,none⟩ = some (.int .i64 (N : Int)):=hC2.cell 1
 obtain ⟨M,hM⟩ : ∃ M,Hid (M = N * z):=⟨_,rfl⟩
 have hM':=hM.out
 have m0 : (N : Int) * (z : Int) = (M : Int):=by rw [hM.out]; simp
 have hM6 : M <= 1000000:=by omega
 have hM8 : 8 + b.length <= M:=by omega
 have hmk:=makes_u8 M hM6
 have HH2 : Hid (Has (w2.alloc (.cells (U8s (List.replicate M 0)) 5)) w2.heap.size (U8s (rowN M fun _=>0)) 5):=by
  unfold Hid; rw [<- rowN_zero]; exact Has.new w2 _ _ 5 rfl
 have bA2 : Below w2.heap.size w2 (w2.alloc (.cells (U8s (List.replicate M 0)) 5)):=(Below.refl _ _).alloc (Nat.le_refl _) _
 have hcs2 : w.heap.size < w2.heap.size:=hC2.lt
 clear hM'
 go_wp2_with fail
 refine (putLength_any w2.heap.size M M b.length (fun _=>0) _ HH2.out (by omega) hM6 hl).mono ?_
 rintro e w3 ⟨rfl,hH3,k3⟩
 have BK3 : Below w2.heap.size w2 w3:=bA2.trans k3.1
 have hC3:=hC2.below BK3 hcs2
 have hg3:=hH3.lt
 clear c0 c1 bA2 HH2 hmk k3
 generalize hgs : w2.heap.size = g at *
 obtain ⟨o',ho'⟩ : ∃ o' : Nat,Hid (o' = if M = 8 then 0 else 8):=⟨if M = 8 then 0 else 8,hid rfl⟩
 have hif : (if M = 8 then some (⟨g,0,none⟩ : Addr) else some ⟨g,8,none⟩) = some ⟨g,o',none⟩:=by
  rw [ho'.out]; split <;> rfl
 have hfit : o' + b.length <= (U8s (rowN M (lenTo (fun _=>0) b.length 8))).size:=by
  rw [U8s_size,rowN_length,ho'.out]; split <;> omega
 have hmin : b.length = Nat.min (ofBs b).size (M - 8):=by
  rw [hbs]; exact (Nat.min_eq_left (by omega)).symm
 have HBB : Hid ((bs (ofBs b)).take b.length = b):=by
  unfold Hid; rw [bs_ofBs b HB.out]; exact List.take_of_length_le (Nat.le_refl _)
 have H4 : Hid (Has (w3.setCells g o' (U8s b).toList) g (U8s (rowN M (pad b))) 5):=by
  unfold Hid
  by_cases h8 : M = 8
  ·have hb0 : b = []:=List.eq_nil_of_length_eq_zero (by omega)
   subst hb0
   have e : rowN M (pad []) = rowN M (lenTo (fun _=>0) 0 8):=rowN_congr fun i hi=>by
    unfold pad lenTo; rw [if_pos (by omega),if_pos (by omega)]; rfl
   rw [e]; exact hH3
  ·have:=has_bytes_mid hH3 8 (vs:=b) (by rw [rowN_length]; omega)
   rw [pad_laid hM8] at this
   rw [ho'.out,if_neg h8]; exact this
 have hH3':=hid hH3
 have HMN:=hid hmin
 have HFT:=hid hfit
 have d8 : (8 : Int) <= (M : Int):=by omega
 have K4 : Keeps g (g + 1) w3 (w3.setCells g o' (U8s b).toList):=keeps_setCells _ _ (Keeps.refl _ _ _)
 obtain ⟨w4,hw4⟩ : ∃ w4,Hid (w4 = w3.setCells g o' (U8s b).toList):=⟨_,hid rfl⟩
 rw [<- hw4.out] at H4 K4
 have hC4:=K4.hasNe hC3 (by omega)
 have B4 : Below g w2 w4:=BK3.trans K4.1
 have hg4:=H4.out.lt
 have c0 : w4.cell? ⟨w.heap.size,0,none⟩ = some (.int .i64 (K : Int)):=hC4.cell 0
 have c1 : w4.cell? ⟨w.heap.size,1,none⟩ = some (.int .i64 (N : Int)):=hC4.cell 1
 clear hH3 hmin hfit K4 BK3 hC3 hg3
 go_wp2_with (refine wpList_copy_str rfl (.tmp 42) (.tmp 43) 136 9 rfl 5 Tryz.underlying136 (by kernel_rfl) g o' (M - 8) (M - 8) b.length (ofBs b) _ 5 rfl rfl hH3'.out HMN.out HFT.out ?_; rw [HBB.out,<- hw4.out])
 refine (cut_any g M M N z w4 (by omega) (by omega) (by omega) hM.out (Nat.le_refl _) hM6).mono ?_
 rintro e w5 ⟨rfl,hT5,b5⟩
 have hC5:=hC4.below b5 (by omega)
 have H5:=hid (H4.out.below b5 hg4)
 have B5 : Below g w2 w5:=B4.trans (b5.mono (by omega))
 have hTg : w4.heap.size ≠ g:=by omega
 have hT4:=hT5.lt
 clear c0 c1 hif HMN HFT HBB hw4 H4 hH3' b5 B4 hC4 ho'
 generalize hT : w4.heap.size = T at *
 have HCall : Hid (∀ W,Below w5.heap.size w5 W -> W.cell? ⟨w.heap.size,0,none⟩ = some (.int .i64 (K : Int)) /\ Calls Tryz.prog 112 #[.slice (if N = K then some ⟨T,0,none⟩ else some ⟨T,0 + K,none⟩) (N - K) (N - K),.slice (if N = K then some ⟨Tm,0,none⟩ else some ⟨Tm,0 + K,none⟩) (N - K) (N - K),.slice (some ⟨T,0,none⟩) K N] W fun e w'=>e = .returned (.tuple #[]) /\ Has w' g (U8s (rowN M (encF K N b z))) 5 /\ Keeps g (g + 1) W w'):=fun W hW =>
  ⟨(hC5.below hW hC5.lt).cell 0,addUp_enc g K N M z T Tm b w2 W h1 h2 h3 HB.out (by omega) hM.out hM6 (H5.out.below hW H5.out.lt) (hT5.below hW hT4) hTg HMat.out hgs (B5.trans (hW.mono (by omega)))⟩
 have hN0 : 0 < N:=by omega
 go_wp2_with fail
 refine wp_region_last_lit (by kernel_rfl) 49 (by kernel_rfl) (by simp) (by simp) (fun W'=>Below w5.heap.size w5 W') (vals ([.slice (some ⟨T,0,none⟩) N N,.pointer (some ⟨w.heap.size,0,none⟩),.int .i64 (K : Int),.slice (if N = K then some ⟨T,0,none⟩ else some ⟨T,0 + K,none⟩) (N - K) (N - K),.slice (some ⟨Tm,0,none⟩) N N,.pointer (some ⟨w.heap.size,0,none⟩),.int .i64 (K : Int),.slice (if N = K then some ⟨Tm,0,none⟩ else some ⟨Tm,0 + K,none⟩) (N - K) (N - K),.slice (some ⟨T,0,none⟩) N N,.pointer (some ⟨w.heap.size,0,none⟩),.int .i64 (K : Int),.slice (some ⟨T,0,none⟩) K N] : List Value)) (Below.refl _ _).drew
  ⟨fun a' W' hC hF=>st_val 49 _ rfl (rn_move rfl (hF 10 (by decide))) hC,
   fun a' W' hC hF=>st_val 50 _ rfl (rn_field24 rfl (by decide) (hF 2 (by decide))) hC,
   fun a' W' hC hF=>st_val 51 _ rfl (rn_load3 rfl (hF 50 (by decide)) (HCall.out W' hC).1) hC,
   fun a' W' hC hF=>st_val 52 _ rfl (rn_rest46 rfl (hF 49 (by decide)) (hF 51 (by decide)) h2) hC,
   fun a' W' hC hF=>st_val 53 _ rfl (rn_move rfl (hF 8 (by decide))) hC,
   fun a' W' hC hF=>st_val 54 _ rfl (rn_field24 rfl (by decide) (hF 2 (by decide))) hC,
   fun a' W' hC hF=>st_val 55 _ rfl (rn_load3 rfl (hF 54 (by decide)) (HCall.out W' hC).1) hC,
   fun a' W' hC hF=>st_val 56 _ rfl (rn_rest46 rfl (hF 53 (by decide)) (hF 55 (by decide)) h2) hC,
   fun a' W' hC hF=>st_val 57 _ rfl (rn_move rfl (hF 10 (by decide))) hC,
   fun a' W' hC hF=>st_val 58 _ rfl (rn_field24 rfl (by decide) (hF 2 (by decide))) hC,
   fun a' W' hC hF=>st_val 59 _ rfl (rn_load3 rfl (hF 58 (by decide)) (HCall.out W' hC).1) hC,
   fun a' W' hC hF=>st_val 60 _ rfl (rn_to46 rfl (hF 57 (by decide)) (hF 59 (by decide)) h2 hN0) hC,
   ?_⟩
 intro W' hC
 generalize hA : puts _ _ _ _ = A
 have hx1:=(show A.eval (.tmp 52) = .slice (if N = K then some ⟨T,0,none⟩ else some ⟨T,0 + K,none⟩) (N - K) (N - K) by rw [<- hA]; exact ev_puts 12 3 rfl (by simp) (by decide))
 have hx2:=(show A.eval (.tmp 56) = .slice (if N = K then some ⟨Tm,0,none⟩ else some ⟨Tm,0 + K,none⟩) (N - K) (N - K) by rw [<- hA]; exact ev_puts 12 7 rfl (by simp) (by decide))
 have hx3:=(show A.eval (.tmp 60) = .slice (some ⟨T,0,none⟩) K N by rw [<- hA]; exact ev_puts 12 11 rfl (by simp) (by decide))
 refine st_callLast 112 _ (rn_call3 rfl rfl hx1 hx2 hx3 (enter22 _)) ?_
 refine (HCall.out W' hC).2.mono ?_
 rintro e w6 ⟨rfl,hG6,k6⟩
 refine ⟨_,rfl,?_⟩
 rw [<- hA]
 clear hx1 hx2 hx3 hA A
 have hCW:=hC5.below hC hC5.lt
 have hTW:=hT5.below hC hT4
 have hC6:=k6.hasNe hCW (by omega)
 have hT6:=k6.hasNe hTW hTg
 have B6 : Below g w2 w6:=(B5.trans (hC.mono (by omega))).trans k6.1
 have HG6:=hid hG6
 clear HCall hCW hTW hC5 hT5 H5 B5 hC k6 hG6 hT4
 generalize hv1 : Value.slice (if N = K then some ⟨T,0,none⟩ else some ⟨T,0 + K,none⟩) (N - K) (N - K) = v1
 generalize hv2 : Value.slice (if N = K then some ⟨Tm,0,none⟩ else some ⟨Tm,0 + K,none⟩) (N - K) (N - K) = v2
 clear hv1 hv2
 simp only [List.length_cons,List.length_nil,Nat.reduceAdd,Nat.reduceSub,puts,Act.put,vals,List.setIfInBounds_toArray,List.set_cons_succ,List.set_cons_zero,List.getD_cons_succ,List.getD_cons_zero]
 have c1 : w6.cell? ⟨w.heap.size,1,none⟩ = some (.int .i64 (N : Int)):=hC6.cell 1
 have hmk:=makes_strs N (payL K b) (by omega)
 have hP : Hid (Has (w6.alloc (.cells (strTo N (payL K b) 0) 9)) w6.heap.size (strTo N (payL K b) 0) 9):=Has.new w6 _ _ 9 rfl
 have HPay : Hid (∀ i,i < N -> ∀ t,t < z -> encF K N b z (i * z + t) = pay K b i t):=fun i hi t ht=>by
  rw [hzd.out] at ht ⊢; exact encF_pay HB.out h1 hi ht
 have HRow : Hid (∀ i,payL K b i = rowN z (pay K b i)):=fun i=>by rw [hzd.out]; rfl
 have HMi : Hid (∀ i,i < N -> i * z + z <= M):=fun i hi=>by
  rw [hM.out]
  have:=Nat.mul_le_mul_right z (show i + 1 <= N by omega)
  rw [Nat.succ_mul] at this; exact this
 have hgs6 : g < w6.heap.size:=HG6.out.lt
 have hB26 : Below w.heap.size w w6:=B2.trans (B6.mono (by omega))
 clear B6
 go_wp2_with fail
 go_loopw [67] (fun vi wr=>∃ k : Nat,k <= N /\ vi = .int .i64 (k : Int) /\ Hid (Has wr w6.heap.size (strTo N (payL K b) k) 9) /\ Below w6.heap.size w6 wr) (fun vi _=>N - (intOf vi).toNat)
 case atStart=>exact ⟨0,by omega,rfl,hP,(Below.refl _ _).alloc (Nat.le_refl _) _⟩
 case round =>
  obtain ⟨k,hk,rfl,hH,hb⟩:=hrel
  clear hP hmk c1
  by_cases hlt : k < N
  ·have d1 : (k : Int) < (N : Int):=by omega
   have hTr:=hT6.below hb hT6.lt
   have hGr:=HG6.out.below hb hgs6
   have q0 : wr.cell? ⟨T,k,none⟩ = some (cutV g z k):=by
    rw [hTr.cell,cutTo_get _ _ _ _ _ hlt,if_pos hlt]
   unfold cutV at q0
   have hfit:=HMi.out k hlt
   have hpk:=HPay.out k hlt
   have hcv : ∀ W,Below wr.heap.size wr W -> (convert 136 9 (.slice (some ⟨g,k * z,none⟩) z z)).run Tryz.prog W = .ok (.string (ofBs (payL K b k))) W:=fun W hW=>by
    refine conv_row (Row8.below (w:=wr) ⟨_,z,by rw [HRow.out,rowN_length],by rw [HRow.out,rowN_length]; omega,payL_lt K b k,fun _=>⟨g,k * z,rfl,hGr.lt,fun t ht=>?_⟩⟩ hW)
    rw [HRow.out,rowN_length] at ht
    rw [hGr.cell,U8s_get _ _ (by rw [rowN_length]; omega),rowN_get _ _ _ (by omega),hpk t ht,HRow.out,rowN_get _ _ _ ht]
   have hcv':=hcv wr (Below.refl _ _)
   have q1:=(hH.out.cell k).trans (strTo_get N (payL K b) k k hlt)
   rw [if_neg (Nat.lt_irrefl k)] at q1
   have q2:=hH.out.frozen k
   have hS:=hH.out.set k (.string (ofBs (payL K b k)))
   rw [strTo_set] at hS
   have HS:=hid hS
   have B7 : Below w6.heap.size w6 (wr.setCell ⟨w6.heap.size,k,none⟩ (.string (ofBs (payL K b k)))):=hb.setCell (Nat.le_refl _) _
   generalize ofBs (payL K b k) = sk at *
   generalize k * z = kz at *
   clear hcv hH hS hGr hTr hpk hfit
   go_wp2_with fail
   exact ⟨⟨k + 1,by omega,by simp,HS,B7⟩,by simp [intOf]; omega⟩
  ·obtain rfl : k = N:=by omega
   go_wp2_with fail
   go_ret2
   exact ⟨_,rfl,hH.out,hB26.size,hB26.trans (hb.mono hB26.size)⟩
theorem encode_any (K N : Int) (b : List Nat) (w : World) (hb : ∀ x ∈ b,x < 256) :
  Calls Tryz.prog 60 #[cv K N,.string (ofBs b)] w fun e w'=>∃ r,e = .returned (.tuple #[r,.int .i64 (errE K N b)]) /\ Strs w' r (ansE K N b) /\ Below w.heap.size w w':=by
 by_cases hok : okE K N b = true
 ·have hok':=hok
  unfold okE at hok'
  rw [Bool.and_eq_true] at hok'
  have hl : b.length <= 32768:=of_decide_eq_true hok'.2
  have e1 : errE K N b = 0 /\ ansE K N b = encL K.toNat N.toNat b:=by
   unfold errE ansE; rw [hok,hok'.1,if_pos rfl,if_pos rfl,if_pos hl]; exact ⟨rfl,rfl⟩
  obtain ⟨k,n,rfl,rfl,h1,h2,h3⟩:=mayC_facts hok'.1
  rw [e1.1,e1.2]
  refine (encode_ok k n b w h1 h2 h3 hl hb).mono ?_
  rintro e w' ⟨T,rfl,hT,_,hB⟩
  exact ⟨_,rfl,strs_of hT (by omega) (payL_lt k b) n,hB⟩
 ·have he : errE K N b ≠ 0 /\ ansE K N b = []:=by
   unfold okE at hok
   unfold errE ansE okE
   cases hm : Mx.mayC K N with
   | false=>simp
   | true =>
    rw [hm] at hok
    have hl : ¬ b.length <= 32768:=by simpa using hok
    simp [hl]
  have HE:=hid he
  have bA : Below w.heap.size w (w.alloc (.cells #[.int .i64 K,.int .i64 N] 23)):=(Below.refl _ _).alloc (Nat.le_refl _) _
  have hsz:=size_any K N (b.length : Int) (w.alloc (.cells #[.int .i64 K,.int .i64 N] 23))
  rw [errZ_len] at hsz
  have hbs : (ofBs b).size = b.length:=ofBs_size b
  have hnz : (errE K N b != 0) = true:=by simp [he.1]
  generalize errE K N b = er at *
  generalize ansZ K N (b.length : Int) = az at *
  clear he hok
  unfold cv at hsz ⊢
  go_enter Tryz.func60,Tryz.ntmps60
  go_wp2_with fail
  refine hsz.mono ?_
  rintro e w1 ⟨rfl,b1⟩
  go_wp2_with fail
  go_ret2
  exact ⟨_,rfl,by rw [HE.out.2]; exact Strs.nil _,belowCall bA b1⟩
end Go.Proofs.YteapbbaollmniaaGreatDoor.C
/- What is appended: a string's bytes to a row, a string to a list of strings. -/
namespace Go.Proofs.YteapbbaollmniaaGreatDoor.C
open Go.RowKit
end Go.Proofs.YteapbbaollmniaaGreatDoor.C
/- The document's One, and its matrix of a code; what is too large. -/
namespace Go.Proofs.YteapbbaollmniaaGreatDoor.C.Mx
open Go.RowKit
end Go.Proofs.YteapbbaollmniaaGreatDoor.C.Mx
/- The document's Encode. -/
namespace Go.Proofs.YteapbbaollmniaaGreatDoor.C
open Go.RowKit
end Go.Proofs.YteapbbaollmniaaGreatDoor.C
/- Lists of strings held against each other; the document's Encode, whatever is handed in. -/
namespace Go.Proofs.YteapbbaollmniaaGreatDoor.C
open Go.RowKit
theorem rn_at28 {ev : Operand -> Value} {o : Oper} {w : World} {x y : Operand} {g q n c k : Nat} (ho : o.op = .indexAddr 80 x y) (hx : ev x = .slice (some ⟨g,q,none⟩) n c) (hy : ev y = .int .i64 (k : Int)) (h : k < n) : (execOp ev o).run Tryz.prog w = .ok (.value (.pointer (some ⟨g,q + k,none⟩))) w:=by
 have h1 : (k : Int) < (n : Int):=by omega
 simp [execOp,ho,hx,hy,go_sem,h1]
theorem rn_load9 {ev : Operand -> Value} {o : Oper} {w : World} {x : Operand} {g k : Nat} {v : Value} (ho : o.op = .load 9 x) (hx : ev x = .pointer (some ⟨g,k,none⟩)) (hc : w.cell? ⟨g,k,none⟩ = some v) : (execOp ev o).run Tryz.prog w = .ok (.value v) w:=by
 simp [execOp,ho,hx,go_sem,hc]
theorem str_beq {a b : List Nat} (ha : ∀ x ∈ a,x < 256) (hb : ∀ x ∈ b,x < 256) : ((ofBs a).toList == (ofBs b).toList) = decide (a = b):=by
 by_cases h : a = b
 ·subst h; rw [decide_eq_true rfl]; exact str_eq _
 ·rw [decide_eq_false h]; exact str_ne ha hb h
theorem rn_neqS {ev : Operand -> Value} {o : Oper} {w : World} {x y : Operand} {a b : List Nat} (ho : o.op = .binOp .neq 9 x y 9) (hx : ev x = .string (ofBs a)) (hy : ev y = .string (ofBs b)) (ha : ∀ x ∈ a,x < 256) (hb : ∀ x ∈ b,x < 256) : (execOp ev o).run Tryz.prog w = .ok (.value (.bool (!decide (a = b)))) w:=by
 have e:=str_beq ha hb
 simp [execOp,ho,hx,hy,go_sem,e]
end Go.Proofs.YteapbbaollmniaaGreatDoor.C
/- What is handed in: codes, lists of numbers, lists of strings, as they are read. -/
namespace Go.Proofs.YteapbbaollmniaaGreatDoor.C
open Go.ChangeShapes Go.WideShapes Go.ChangeAt Go.RowKit Go.Joins Go.WideMaps Go.WideElems
/-- numbers of 64 bits -/
def Ints64 (W : World) (v : Value) (zs : List Int) : Prop:=Mx.Ints W v zs /\ ∀ j,-9223372036854775808 <= zs.getD j 0 /\ zs.getD j 0 <= 9223372036854775807
end Go.Proofs.YteapbbaollmniaaGreatDoor.C
/- A map of numbers to their places, which a call made itself; which numbers may be a payload's; which are at hand. -/
namespace Go.Proofs.YteapbbaollmniaaGreatDoor.C
open Go.RowKit
theorem key3 : Go.Maps.Keyed Tryz.prog 3:=Go.Maps.int_keyed Tryz.underlying3
theorem zero3 (w : World) : (zeroValue 3).run Tryz.prog w = .ok (.int .i64 0) w:=by kernel_rfl
def I64 (z : Int) : Prop:=-9223372036854775808 <= z /\ z <= 9223372036854775807
theorem wf64 {z : Int} (h : I64 z) : (Lit.int .i64 z).wf = true:=by
 obtain ⟨h1,h2⟩:=h
 have e : IntKind.i64.min = -9223372036854775808:=by decide
 simp [Lit.wf]
 exact ⟨by omega,h2⟩
/-- block b is a map that tells of each of the first k numbers at which place it stands -/
def PMap (w : World) (b k : Nat) (zs : List Int) : Prop:=∃ D : DataW Unit,w.ownsMap Tryz.prog 3 (plainElem Tryz.prog 3) b k D /\ Go.Maps.IsMap D /\ ∀ z,I64 z -> (Go.Maps.has D (.int .i64 z) = true ↔ ∃ j,j < k /\ zs.getD j 0 = z) /\ ∀ j,j < k -> zs.getD j 0 = z -> (∀ i,i < k -> zs.getD i 0 = z -> i = j) -> D.atKey (.int .i64 z) (.lit (.int .i64 0)) = .lit (.int .i64 (j : Int))
theorem PMap.lt {w : World} {b k : Nat} {zs : List Int} (h : PMap w b k zs) : b < w.heap.size:=by
 obtain ⟨D,h1,_⟩:=h
 exact h1.lt
theorem PMap.below {w w' : World} {b k : Nat} {zs : List Int} (h : PMap w b k zs) (hb : Below w.heap.size w w') : PMap w' b k zs:=by
 have hl:=h.lt
 obtain ⟨D,⟨es,clock,h1,h2⟩,h3⟩:=h
 exact ⟨D,⟨es,clock,by rw [hb.block b hl]; exact h1,h2⟩,h3⟩
theorem PMap.made (w : World) (zs : List Int) : PMap (w.alloc (.map #[] 0)) w.heap.size 0 zs:=by
 refine ⟨.map [],World.ownsMap_made _ _ _ _,⟨_,rfl⟩,fun z _=>⟨⟨fun h=>(by cases h),fun ⟨j,hj,_⟩=>absurd hj (by omega)⟩,fun j hj=>absurd hj (by omega)⟩⟩
theorem PMap.look {w : World} {b k : Nat} {zs : List Int} (h : PMap w b k zs) {z : Int} (hz : I64 z) : ∃ c : Int,(Instr.lookup 201 (.map (some b)) (.int .i64 z) true).run Tryz.prog w = .ok (.tuple #[.int .i64 c,.bool (decide (∃ j,j < k /\ zs.getD j 0 = z))]) w:=by
 obtain ⟨D,h1,h2,h3⟩:=h
 obtain ⟨v,ps,hrun,hv⟩:=h1.look_ok key3 Tryz.underlying201 (zero3 _) (plainElem_int Tryz.underlying3 (by decide)) (Go.Maps.keyOf_int_mk Tryz.underlying3 (wf64 hz))
 obtain ⟨c,rfl,hc,hwc⟩:=plainElem_int_inv Tryz.underlying3 hv
 refine ⟨c,?_⟩
 have e : Go.Maps.has D (.int .i64 z) = decide (∃ j,j < k /\ zs.getD j 0 = z):=by
  rw [Bool.eq_iff_iff,(h3 z hz).1,decide_eq_true_iff]
 rw [<- e]; exact hrun
theorem PMap.at {w : World} {b k : Nat} {zs : List Int} (h : PMap w b k zs) {z : Int} (hz : I64 z) (j : Nat) (hj : j < k) (he : zs.getD j 0 = z) (hu : ∀ i,i < k -> zs.getD i 0 = z -> i = j) : (Instr.lookup 201 (.map (some b)) (.int .i64 z) false).run Tryz.prog w = .ok (.int .i64 (j : Int)) w:=by
 obtain ⟨D,h1,h2,h3⟩:=h
 obtain ⟨c,hrun,hat,hwc⟩:=h1.lookup_int key3 Tryz.underlying201 Tryz.underlying3 (zero3 _) (Go.Maps.keyOf_int_mk Tryz.underlying3 (wf64 hz))
 have:=(h3 z hz).2 j hj he hu
 rw [this] at hat
 have e : c = (j : Int):=by
  have:=hat
  simp only [DataW.lit.injEq,Lit.int.injEq] at this
  exact this.2.symm
 rw [<- e]; exact hrun
theorem PMap.put {w : World} {b k : Nat} {zs : List Int} (h : PMap w b k zs) (hk : k < maxLen) (hz : I64 (zs.getD k 0)) (hkz : I64 (k : Int)) (hnew : ¬ ∃ j,j < k /\ zs.getD j 0 = zs.getD k 0) : ∃ w',(Instr.mapUpdate 201 (.map (some b)) (.int .i64 (zs.getD k 0)) (.int .i64 (k : Int))).run Tryz.prog w = .ok () w' /\ PMap w' b (k + 1) zs /\ w.grownBy w' (some b):=by
 obtain ⟨D,h1,h2,h3⟩:=h
 obtain ⟨w',hrun,r1,r2⟩:=h1.update key3 Tryz.underlying201 hk (Go.Maps.keyOf_int_mk Tryz.underlying3 (wf64 hz)) (plainElem_int Tryz.underlying3 (wf64 hkz))
 have hkl : WideAt.IsKeyLit (.int .i64 (zs.getD k 0)):=trivial
 refine ⟨w',hrun,⟨_,r1,h2.put _ _,fun z hzz=>?_⟩,r2⟩
 by_cases e : z = zs.getD k 0
 ·subst e
  refine ⟨⟨fun _=>⟨k,by omega,rfl⟩,fun _=>Go.Maps.has_put_same h2 hkl _⟩,fun j hj he hu=>?_⟩
  obtain rfl : k = j:=hu k (by omega) rfl
  exact Go.Maps.atKey_put_same h2 hkl _ _
 ·have hne : (Lit.int .i64 z) ≠ .int .i64 (zs.getD k 0):=fun hh=>e (by simpa using hh)
  rw [Go.Maps.has_put_other hne,Go.Maps.atKey_put_other hne]
  refine ⟨⟨fun hh=>?_,fun ⟨j,hj,he⟩=>?_⟩,fun j hj he hu=>?_⟩
  ·obtain ⟨j,hj,he⟩:=(h3 z hzz).1.1 hh
   exact ⟨j,by omega,he⟩
  ·by_cases hjk : j = k
   ·subst hjk; exact absurd he.symm e
   ·exact (h3 z hzz).1.2 ⟨j,by omega,he⟩
  ·by_cases hjk : j = k
   ·subst hjk; exact absurd he.symm e
   ·exact (h3 z hzz).2 j (by omega) he (fun i hi hei=>hu i (by omega) hei)
theorem mayNumber_any (K N n : Int) (w : World) : Calls Tryz.prog 84 #[cv K N,.int .i64 n] w fun e w'=>e = .returned (.bool (decide (0 <= n /\ n < N))) /\ Below w.heap.size w w':=by
 have bA : Below w.heap.size w (w.alloc (.cells #[.int .i64 K,.int .i64 N] 23)):=(Below.refl _ _).alloc (Nat.le_refl _) _
 have c1 : (w.alloc (.cells #[.int .i64 K,.int .i64 N] 23)).cell? ⟨w.heap.size,1,none⟩ = some (.int .i64 N):=(Has.new w w.heap.size _ 23 rfl).cell 1
 unfold cv
 by_cases h1 : 0 <= n
 ·have d1 : decide ((0 : Int) <= n) = true:=decide_eq_true h1
  have HE : Hid (decide (0 <= n /\ n < N) = decide (n < N)):=by unfold Hid; rw [decide_eq_decide]; exact ⟨fun h=>h.2,fun h=>⟨h1,h⟩⟩
  rw [HE.out]
  go_enter Tryz.func84,Tryz.ntmps84
  go_wp2_with fail
  go_ret
  exact ⟨rfl,bA⟩
 ·have d1 : decide ((0 : Int) <= n) = false:=decide_eq_false h1
  have HE : Hid (decide (0 <= n /\ n < N) = false):=by unfold Hid; rw [decide_eq_false_iff_not]; exact fun h=>h1 h.1
  rw [HE.out]
  go_enter Tryz.func84,Tryz.ntmps84
  go_wp2_with fail
  go_ret
  exact ⟨rfl,bA⟩
/-- numbers that may be payloads', each once -/
def goodZ (N : Int) (zs : List Int) : Prop:=∀ j,j < zs.length -> (0 <= zs.getD j 0 /\ zs.getD j 0 < N) /\ ∀ i,i < j -> zs.getD i 0 ≠ zs.getD j 0
instance (N : Int) (zs : List Int) : Decidable (goodZ N zs):=by unfold goodZ; infer_instance
theorem goodZ_inj {N : Int} {zs : List Int} (h : goodZ N zs) {i j : Nat} (hi : i < zs.length) (hj : j < zs.length) (e : zs.getD i 0 = zs.getD j 0) : i = j:=by
 by_cases h1 : i < j
 ·exact absurd e ((h j hj).2 i h1)
 ·by_cases h2 : j < i
  ·exact absurd e.symm ((h i hi).2 j h2)
  ·omega
set_option maxRecDepth 20000 in
theorem atHand_any (K N : Int) (vz : Value) (zs : List Int) (w : World) (hz : Ints64 w vz zs) :
  Calls Tryz.prog 127 #[cv K N,vz] w fun e w'=>Below w.heap.size w w' /\ if goodZ N zs then ∃ b,e = .returned (.tuple #[.map (some b),.bool true]) /\ PMap w' b zs.length zs else e = .returned (.tuple #[.map none,.bool false]):=by
 obtain ⟨⟨a,cap,rfl,hl,hc⟩,hwf⟩:=hz
 have HW:=hid hwf
 have HC:=hid hc
 have bA : Below w.heap.size w (w.alloc (.cells #[.int .i64 K,.int .i64 N] 23)):=(Below.refl _ _).alloc (Nat.le_refl _) _
 have hbox : Has (w.alloc (.cells #[.int .i64 K,.int .i64 N] 23)) w.heap.size #[.int .i64 K,.int .i64 N] 23:=Has.new w w.heap.size _ 23 rfl
 have hmm:=@run_makeMap Tryz.prog
 have hP0:=hid (PMap.made (w.alloc (.cells #[.int .i64 K,.int .i64 N] 23)) zs)
 have bB : Below (w.heap.size + 1) (w.alloc (.cells #[.int .i64 K,.int .i64 N] 23)) ((w.alloc (.cells #[.int .i64 K,.int .i64 N] 23)).alloc (.map #[] 0)):=(Below.refl _ _).alloc (by simp) _
 have es : (w.alloc (.cells #[.int .i64 K,.int .i64 N] 23)).heap.size = w.heap.size + 1:=by simp
 have HB:=hid hbox
 rw [es] at hP0
 clear hc hwf hbox
 generalize hn : zs.length = n at *
 unfold cv
 go_enter Tryz.func127,Tryz.ntmps127
 go_wp2_with fail
 go_loopg [14] n (fun g1 s14 wx=>∃ k : Nat,k + g1 = n /\ s14 = .int .i64 (k : Int) /\ Hid (PMap wx (w.heap.size + 1) k zs) /\ Hid (∀ j,j < k -> (0 <= zs.getD j 0 /\ zs.getD j 0 < N) /\ ∀ i,i < j -> zs.getD i 0 ≠ zs.getD j 0) /\ Below (w.heap.size + 1) (w.alloc (.cells #[.int .i64 K,.int .i64 N] 23)) wx)
 case atStart=>exact ⟨0,by omega,rfl,hP0,fun j hj=>absurd hj (by omega),bB⟩
 case round =>
  obtain ⟨k,hkg,rfl,hP,hG,hb⟩:=hrel
  clear hP0 bB
  have hBw : Below w.heap.size w wr:=bA.trans (hb.mono (by omega))
  have hbx:=HB.out.below hb (by omega)
  cases gk with
  | zero =>
   have hz1 : ¬ ((k : Int) < (n : Int)):=by omega
   have hkn : k = n:=by omega
   have hgood : goodZ N zs:=fun j hj=>hG.out j (by omega)
   have HP' : Hid (PMap wr (w.heap.size + 1) n zs):=by unfold Hid; rw [<- hkn]; exact hP.out
   clear hP hG hkn
   go_wp2_with fail
   go_ret2
   exact ⟨hBw,⟨_,rfl,HP'.out⟩⟩
  | succ g1 =>
   have hz1 : (k : Int) < (n : Int):=by omega
   have hk : k < n:=by omega
   obtain ⟨g,o,rfl,hg,hd⟩:=HC.out (by omega)
   have q0:=cell_below hBw hg (hd k hk)
   have hzi : I64 (zs.getD k 0):=HW.out k
   obtain ⟨c,hlook⟩:=hP.out.look hzi
   have c0 : wr.cell? ⟨w.heap.size,0,none⟩ = some (.int .i64 K):=hbx.cell 0
   have c1 : wr.cell? ⟨w.heap.size,1,none⟩ = some (.int .i64 N):=hbx.cell 1
   by_cases hin : ∃ j,j < k /\ zs.getD j 0 = zs.getD k 0
   ·rw [decide_eq_true hin] at hlook
    have hbad : ¬ goodZ N zs:=fun hgd=>by
     obtain ⟨j,hj,he⟩:=hin
     exact (hgd k (by omega)).2 j hj he
    generalize zs.getD k 0 = zk at *
    clear hP hG hd
    go_wp2_with fail
    go_ret2
    exact ⟨hBw,rfl⟩
   ·rw [decide_eq_false hin] at hlook
    by_cases hr : 0 <= zs.getD k 0 /\ zs.getD k 0 < N
    ·have HPut : Hid (∀ W,Below wr.heap.size wr W -> ∃ w',(Instr.mapUpdate 201 (.map (some (w.heap.size + 1))) (.int .i64 (zs.getD k 0)) (.int .i64 (k : Int))).run Tryz.prog W = .ok () w' /\ PMap w' (w.heap.size + 1) (k + 1) zs /\ W.grownBy w' (some (w.heap.size + 1))):=fun W hW =>
      (hP.out.below hW).put (by unfold maxLen; omega) hzi ⟨by omega,by omega⟩ hin
     have hG' : Hid (∀ j,j < k + 1 -> (0 <= zs.getD j 0 /\ zs.getD j 0 < N) /\ ∀ i,i < j -> zs.getD i 0 ≠ zs.getD j 0):=fun j hj=>by
      by_cases hjk : j < k
      ·exact hG.out j hjk
      ·obtain rfl : j = k:=by omega
       exact ⟨hr,fun i hi he=>hin ⟨i,hi,he⟩⟩
     generalize zs.getD k 0 = zk at *
     have hml : w.heap.size + 1 < wr.heap.size:=hP.out.lt
     clear hP hG hd
     go_wp2_with fail
     refine (mayNumber_any K N zk wr).mono ?_
     rintro e w2 ⟨rfl,b2⟩
     rw [decide_eq_true hr]
     obtain ⟨w3,hput,hP3,hgr⟩:=HPut.out w2 b2
     have HP3:=hid hP3
     have hb3 : Below (w.heap.size + 1) (w.alloc (.cells #[.int .i64 K,.int .i64 N] 23)) w3:=(hb.trans (b2.mono (by omega))).grown hgr (by have:=b2.size; omega) (fun j hj=>by cases hj; exact Nat.le_refl _)
     clear HPut hP3 hgr hlook
     go_wp2_with fail
     go_roundg g1
     case measure=>omega
     case rel=>exact ⟨k + 1,by omega,by first | rfl | simp,HP3,hG',hb3⟩
    ·have hbad : ¬ goodZ N zs:=fun hgd=>hr (hgd k (by omega)).1
     generalize zs.getD k 0 = zk at *
     clear hP hG hd
     go_wp2_with fail
     refine (mayNumber_any K N zk wr).mono ?_
     rintro e w2 ⟨rfl,b2⟩
     rw [decide_eq_false hr]
     go_wp2_with fail
     go_ret2
     exact ⟨belowCall hBw b2,rfl⟩
end Go.Proofs.YteapbbaollmniaaGreatDoor.C
