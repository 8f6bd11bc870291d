/- The payloads of the numbers below K, told by K of those at hand. -/
import Derived.Test.YteapbbaollmniaaGreatDoorCCBlob
import Derived.Lib.ConvBytes
namespace Go.Proofs.YteapbbaollmniaaGreatDoor.C
open Go.RowKit
/-- a string as a new row -/
theorem conv_bytes (w : World) (l : List Nat) (hl : ∀ x ∈ l,x < 256) : ∃ cap w',(convert 9 136 (.string (ofBs l))).run Tryz.prog w = .ok (.slice (some ⟨w.heap.size,0,none⟩) l.length cap) w' /\ Below w.heap.size w w' /\ w'.heap.size = w.heap.size + 1 /\ ∀ j,j < l.length -> w'.cell? ⟨w.heap.size,j,none⟩ = some (.int .u8 ((l.getD j 0 : Nat) : Int)):=by
 have hr:=Lib.run_convert_string_bytes (P:=Tryz.prog) w 9 136 5 (ofBs l) Tryz.underlying9 Tryz.underlying136 Tryz.underlying5
 rw [ofBs_size] at hr
 refine ⟨_,_,hr,⟨rfl,rfl,rfl,by rw [Lib.bytesWorld_size]; omega,fun b hb=>Lib.bytesWorld_at_old w 5 _ b hb⟩,Lib.bytesWorld_size w 5 _,fun j hj=>?_⟩
 rw [Lib.bytesWorld_cell w 5 _ j (by rw [ofBs_size]; exact hj)]
 have e : ((ofBs l).data.toList.getD j 0).toNat = l.getD j 0:=by
  have h1:=bs_ofBs l hl
  unfold bs at h1
  have h2 : l.getD j 0 = ((ofBs l).data.toList.map (·.toNat)).getD j 0:=by rw [h1]
  rw [h2,List.getD_eq_getElem?_getD,List.getD_eq_getElem?_getD,List.getElem?_map]
  cases (ofBs l).data.toList[j]? with
  | none=>rfl
  | some x=>simp
 rw [e]
theorem inve_congr {n : Nat} {m m' : El.M} (hb : El.Byt m) (h : ∀ i,i < n -> ∀ j,j < n -> m' i j = m i j) : El.rank n n m' = El.rank n n m /\ ∀ i,i < n -> ∀ j,j < n -> El.inve n m' i j = El.inve n m i j:=by
 have a:=El.steps_agree (R:=n) (n:=n) (J:=fun j=>j < n + n) (s:=id) (f:=El.wide n m) (f':=El.wide n m') (fun j hj=>⟨by omega,rfl⟩) (El.byt_wide n hb) (fun i hi j hj=>by
  show El.wide n m' i j = El.wide n m i j
  unfold El.wide
  by_cases hjn : j < n
  ·rw [if_pos hjn,if_pos hjn]; exact h i hi j hjn
  ·rw [if_neg hjn,if_neg hjn]) n (Nat.le_refl _)
 have b:=El.steps_agree (R:=n) (n:=n) (J:=fun j=>j < n) (s:=id) (f:=m) (f':=m') (fun j hj=>⟨hj,rfl⟩) hb (fun i hi j hj=>h i hi j hj) n (Nat.le_refl _)
 exact ⟨b.1,fun i hi j hj=>a.2 i hi (n + j) (by omega)⟩
/-- the first k pieces are laid -/
def Laid (w : World) (T z : Nat) (P : El.M) (k : Nat) : Prop:=∀ i,i < k -> ∃ gi ci,w.cell? ⟨T,i,none⟩ = some (.slice (some ⟨gi,0,none⟩) z ci) /\ gi ≠ T /\ gi < w.heap.size /\ ∀ t,t < z -> w.cell? ⟨gi,t,none⟩ = some (.int .u8 ((P i t : Nat) : Int))
theorem Laid.below {w w' : World} {T z k : Nat} {P : El.M} (h : Laid w T z P k) (hT : T < w.heap.size) (hb : Below w.heap.size w w') : Laid w' T z P k:=fun i hi=>by
 obtain ⟨gi,ci,h1,h2,h3,h4⟩:=h i hi
 exact ⟨gi,ci,cell_below hb hT h1,h2,Nat.lt_of_lt_of_le h3 hb.size,fun t ht=>cell_below hb h3 (h4 t ht)⟩
theorem Laid.put {w w' : World} {T z k c : Nat} {P : El.M} (h : Laid w T z P k) (hT : T < w.heap.size) (hb : Below w.heap.size w w') (hs : w'.heap.size = w.heap.size + 1) (hc : ∀ t,t < z -> w'.cell? ⟨w.heap.size,t,none⟩ = some (.int .u8 ((P k t : Nat) : Int)))
  {old : Value} (ho : w'.cell? ⟨T,k,none⟩ = some old) : Laid (w'.setCell ⟨T,k,none⟩ (.slice (some ⟨w.heap.size,0,none⟩) z c)) T z P (k + 1):=fun i hi=>by
 have hb':=h.below hT hb
 by_cases hik : i = k
 ·subst hik
  refine ⟨w.heap.size,c,World.cell?_setCell_same _ _ _ ho,by omega,by simp [World.setCell,hs],fun t ht=>?_⟩
  rw [World.cell?_setCell_other _ _ _ _ (by simp <;> omega)]; exact hc t ht
 ·obtain ⟨gi,ci,h1,h2,h3,h4⟩:=hb' i (by omega)
  refine ⟨gi,ci,by rw [World.cell?_setCell_other _ _ _ _ (by simp <;> omega)]; exact h1,h2,by simpa [World.setCell] using h3,fun t ht=>?_⟩
  rw [World.cell?_setCell_other _ _ _ _ (by simp <;> omega)]; exact h4 t ht
theorem Laid.fns {w : World} {T z k : Nat} {P : El.M} (h : Laid w T z P k) : ∃ gf cf : Nat -> Nat,∀ i,i < k -> w.cell? ⟨T,i,none⟩ = some (.slice (some ⟨gf i,0,none⟩) z (cf i)) /\ gf i < w.heap.size /\ ∀ t,t < z -> w.cell? ⟨gf i,t,none⟩ = some (.int .u8 ((P i t : Nat) : Int)):=by
 have h' : ∀ i,∃ gc : Nat × Nat,i < k -> w.cell? ⟨T,i,none⟩ = some (.slice (some ⟨gc.1,0,none⟩) z gc.2) /\ gc.1 < w.heap.size /\ ∀ t,t < z -> w.cell? ⟨gc.1,t,none⟩ = some (.int .u8 ((P i t : Nat) : Int)):=fun i=>by
  by_cases hi : i < k
  ·obtain ⟨gi,ci,h1,_,h3,h4⟩:=h i hi
   exact ⟨(gi,ci),fun _=>⟨h1,h3,h4⟩⟩
  ·exact ⟨(0,0),fun hh=>absurd hh hi⟩
 obtain ⟨f,hf⟩:=Classical.axiomOfChoice h'
 exact ⟨fun i=>(f i).1,fun i=>(f i).2,hf⟩
theorem up_flat {K z : Nat} {s : Nat -> Nat} {P f : El.M} {m : List (List Nat)} (hm : m = rowsOf K (fun _=>K) f) (hf : ∀ i,i < K -> ∀ j,j < K -> f i j = El.inve K (fun i j=>Mx.ofVal K (s i) j) i j) :
  rowN (K * z) (upF (fun _=>0) 0 z K (at2 m) P K 0) = rowN (K * z) (flatD K z s P):=rowN_congr fun n hn=>by
 obtain ⟨h1,h2,h3⟩:=of_at hn
 unfold upF flatD dat
 rw [if_pos (Nat.zero_le _),Nat.sub_zero,if_pos h1,Nat.zero_xor]
 refine El.xs_congr K fun l hl=>?_
 have e : at2 m (n / z) l = f (n / z) l:=by
  unfold at2
  rw [hm,rowsOf_row _ _ _ _ h1,range_getD _ _ _ hl]
 rw [e,hf _ h1 l hl]
/-- the rows of a code's matrix that are chosen -/
theorem rows_of (K N : Nat) (S : List Nat) (h1 : 1 <= K) (h2 : K <= N) (h3 : N <= 12) (hl : S.length = K) (hS : ∀ x ∈ S,x < N) :
  Mx.mayM (Mx.ofM K N) = true /\ Mx.goodR (Mx.ofM K N) (S.map fun x : Nat=>(x : Int)) = true /\ (Mx.rowsM (Mx.ofM K N) (S.map fun x : Nat=>(x : Int))).length = K /\ (∀ i,i < K -> ((Mx.rowsM (Mx.ofM K N) (S.map fun x : Nat=>(x : Int))).getD i []).length = K) /\
  ∀ i,i < K -> ∀ j,j < K -> at2 (Mx.rowsM (Mx.ofM K N) (S.map fun x : Nat=>(x : Int))) i j = Mx.ofVal K (S.getD i 0) j:=by
 have hlm : (Mx.ofM K N).length = N:=Mx.grid_length _ _ _
 have hgr : ∀ i,i < N -> ((Mx.ofM K N).getD i []).length = K:=fun i hi=>Mx.grid_row_length _ _ _ _ hi
 have hg : ∀ i,i < K -> (S.map fun x : Nat=>(x : Int)).getD i 0 = ((S.getD i 0 : Nat) : Int) /\ S.getD i 0 < N:=fun i hi=>by
  have hiS : i < S.length:=by omega
  refine ⟨by simp [List.getD_eq_getElem?_getD,List.getElem?_eq_getElem hiS],?_⟩
  rw [List.getD_eq_getElem?_getD,List.getElem?_eq_getElem hiS]
  exact hS _ (List.getElem_mem hiS)
 have hrow : ∀ i,i < K -> (Mx.rowsM (Mx.ofM K N) (S.map fun x : Nat=>(x : Int))).getD i [] = (Mx.ofM K N).getD (S.getD i 0) []:=fun i hi=>by
  have hiS : i < S.length:=by omega
  unfold Mx.rowsM
  rw [List.getD_eq_getElem?_getD,List.getElem?_map,List.getElem?_map,List.getElem?_eq_getElem hiS]
  simp [List.getD_eq_getElem?_getD,List.getElem?_eq_getElem hiS]
 refine ⟨?_,?_,by unfold Mx.rowsM; simp [hl],fun i hi=>by rw [hrow i hi]; exact hgr _ (hg i hi).2,fun i hi j hj=>?_⟩
 ·unfold Mx.mayM
  rw [decide_eq_true_iff,hlm,hgr 0 (by omega)]
  exact ⟨by omega,by omega,by omega,by omega,fun j hj=>hgr j hj⟩
 ·unfold Mx.goodR
  rw [decide_eq_true_iff,List.length_map,hl,hlm]
  exact ⟨by omega,by omega,fun j hj=>by rw [(hg j hj).1]; have:=(hg j hj).2; omega⟩
 ·show ((Mx.rowsM (Mx.ofM K N) (S.map fun x : Nat=>(x : Int))).getD i []).getD j 0 = _
  rw [hrow i hi]
  exact ofM_row K N _ j (hg i hi).2 hj
/-- .. and turned about -/
theorem turn_of (K : Nat) (m : List (List Nat)) (s : Nat -> Nat) (h1 : 1 <= K) (hK : K <= 12) (hl : m.length = K) (hr : ∀ i,i < K -> (m.getD i []).length = K) (hv : ∀ i,i < K -> ∀ j,j < K -> at2 m i j = Mx.ofVal K (s i) j) (hinj : ∀ i,i < K -> ∀ j,j < K -> s i = s j -> i = j) (hs : ∀ i,i < K -> s i < 256) :
  errT m = 0 /\ ∃ f,ansT m = rowsOf K (fun _=>K) f /\ ∀ i,i < K -> ∀ j,j < K -> f i j = El.inve K (fun i j=>Mx.ofVal K (s i) j) i j:=by
 have hc:=inve_congr (n:=K) (m:=fun i j=>Mx.ofVal K (s i) j) (m':=at2 m) (fun _ _=>Mx.ofVal_lt _ _ _) hv
 have hrk:=code_rank K s (by omega) hinj hs
 have hmay : mayM m = true:=by
  unfold mayM
  rw [decide_eq_true_iff,hl,hr 0 (by omega)]
  exact ⟨by omega,by omega,by omega,by omega,fun j hj=>hr j hj⟩
 have hsq : sqM m = true:=by unfold sqM; rw [hmay,hl,hr 0 (by omega),decide_eq_true rfl]; rfl
 have hrank : rankM m = m.length:=by unfold rankM; rw [hl,hc.1]; exact hrk
 refine ⟨by unfold errT; rw [hsq,if_pos rfl,if_pos hrank],El.inve K (at2 m),?_,hc.2⟩
 unfold ansT okT
 rw [hsq,decide_eq_true hrank,hl]; rfl
set_option maxRecDepth 20000 in
set_option maxHeartbeats 4000000 in
theorem solved_any (K N b z : Nat) (zs : List Int) (vp : Value) (ps : List (List Nat)) (q : Nat -> Nat) (w : World) (h1 : 1 <= K) (h2 : K <= N) (h3 : N <= 12) (hP : PMap w b zs.length zs) (hp : Strs w vp ps) (hgd : goodZ (N : Int) zs) (hl : ps.length = zs.length) (hK : K <= zs.length) (hz0 : 0 < z) (hz6 : z <= 40000)
  (hlen : ∀ j,j < ps.length -> (ps.getD j []).length = z) (hq : ∀ i,i < K -> q i < zs.length /\ zs.getD (q i) 0 = (((low zs K N).getD i 0 : Nat) : Int)) :
  Calls Tryz.prog 129 #[cv K N,.map (some b),vp] w fun e w'=>∃ g,e = .returned (.tuple #[.slice (some ⟨g,0,none⟩) (K * z) (K * z),.int .i64 0]) /\ Has w' g (U8s (rowN (K * z) (flatD K z (fun i=>(low zs K N).getD i 0) (fun i t=>(ps.getD (q i) []).getD t 0)))) 5 /\ Below w.heap.size w w':=by
 have hLl:=low_length hgd hK
 have hLm : ∀ x ∈ low zs K N,x < N:=fun x hx=>(low_mem hx).1
 have hLn:=low_nodup zs K N
 obtain ⟨S,hS⟩ : ∃ S,Hid (S = low zs K N):=⟨_,rfl⟩
 have hget : ∀ i,i < K -> S.getD i 0 < N:=fun i hi=>by
  rw [hS.out,List.getD_eq_getElem?_getD,List.getElem?_eq_getElem (by omega)]
  exact hLm _ (List.getElem_mem (by omega))
 have hinj : ∀ i,i < K -> ∀ j,j < K -> S.getD i 0 = S.getD j 0 -> i = j:=fun i hi j hj e=>by
  rw [hS.out,List.getD_eq_getElem?_getD,List.getD_eq_getElem?_getD,List.getElem?_eq_getElem (by omega),List.getElem?_eq_getElem (by omega)] at e
  simp only [Option.getD_some] at e
  exact (List.getElem_inj hLn).1 e
 have hfa:=firstAtHand_any K N b zs
 rw [<- hS.out] at hLl hLm hq
 simp only [<- hS.out] at hfa ⊢
 obtain ⟨P,hPd⟩ : ∃ P : El.M,Hid (P = fun i t=>(ps.getD (q i) []).getD t 0):=⟨_,rfl⟩
 rw [<- hPd.out]
 have HPb : Hid (El.Byt P):=fun i t=>by rw [hPd.out]; exact getD_lt (hp.lt (q i)) t
 have HRW:=hid (rows_of K N S h1 h2 h3 hLl hLm)
 have HQ:=hid hq
 have HGet:=hid hget
 have HInj:=hid hinj
 have HLen:=hid hlen
 have HGd:=hid hgd
 have HPm:=hid hP
 have HPs:=hid hp
 obtain ⟨gp,op,capp,hvp,_,hgp,hcp⟩:=hp.some (by omega)
 subst hvp
 have HCp:=hid hcp
 have HFA:=hid hfa
 have bA : Below w.heap.size w (w.alloc (.cells #[.int .i64 (K : Int),.int .i64 (N : Int)] 23)):=(Below.refl _ _).alloc (Nat.le_refl _) _
 have hbox : Has (w.alloc (.cells #[.int .i64 (K : Int),.int .i64 (N : Int)] 23)) w.heap.size #[.int .i64 (K : Int),.int .i64 (N : Int)] 23:=Has.new w w.heap.size _ 23 rfl
 have HB:=hid hbox
 clear hq hget hinj hlen hgd hP hp hcp hbox hfa hLm hLn
 rw [hl]
 generalize hLz : zs.length = L at *
 unfold cv
 unfold cv at HFA
 go_enter Tryz.func129,Tryz.ntmps129
 go_wp2_with fail
 refine (HFA.out _ h2 h3 (HPm.out.below bA)).mono ?_
 rintro e w1 ⟨r,rfl,hOr,b1⟩
 have B1:=belowCall bA b1
 have hb1:=HB.out.below b1 (by simp)
 have hints:=hOr.ints (by omega)
 obtain ⟨ar,cr,hrv,_,hrc⟩:=hints
 rw [List.length_map,hLl] at hrv hrc
 obtain ⟨gr,or,har,hgr,hcr⟩:=hrc (by omega)
 subst har
 subst hrv
 have HInts : Hid (∀ W,Below w1.heap.size w1 W -> Mx.Ints W (.slice (some ⟨gr,or,none⟩) K cr) (S.map fun x : Nat=>(x : Int))):=fun W hW =>
  Mx.Ints.below ⟨_,cr,by rw [List.length_map,hLl],by rw [List.length_map]; omega,fun _=>⟨gr,or,rfl,hgr,by rw [List.length_map,hLl]; exact hcr⟩⟩ hW
 have HCr : Hid (∀ W,Below w1.heap.size w1 W -> ∀ i,i < K -> W.cell? ⟨gr,or + i,none⟩ = some (.int .i64 ((S.getD i 0 : Nat) : Int))):=fun W hW i hi=>by
  rw [cell_below hW hgr (hcr i hi)]
  have hiS : i < S.length:=by omega
  simp [List.getD_eq_getElem?_getD,List.getElem?_eq_getElem hiS]
 have c0 : w1.cell? ⟨w.heap.size,0,none⟩ = some (.int .i64 (K : Int)):=hb1.cell 0
 have hbl:=hb1.lt
 have hmk:=makes_rows K (by omega)
 have hT0:=Has.new w1 w1.heap.size (noRows K) 136 rfl
 have bT : Below w1.heap.size w1 (w1.alloc (.cells (noRows K) 136)):=(Below.refl _ _).alloc (Nat.le_refl _) _
 have hszT : w1.heap.size < (w1.alloc (.cells (noRows K) 136)).heap.size:=by simp
 have HT0:=hid hT0
 clear b1 hOr hrc hcr hT0
 go_wp2_with fail
 generalize hT : w1.heap.size = T at *
 go_loopg [25] K (fun g1 s25 wx=>∃ k : Nat,k + g1 = K /\ s25 = .int .i64 (k : Int) /\ Hid (Laid wx T z P k) /\ Hid (∀ i,i < K -> (∃ v,wx.cell? ⟨T,i,none⟩ = some v) /\ wx.frozen? ⟨T,i,none⟩ = false) /\ T < wx.heap.size /\ Below T w1 wx)
 case atStart=>exact ⟨0,by omega,rfl,fun i hi=>absurd hi (by omega),fun i hi=>⟨⟨_,by rw [HT0.out.cell]; simp [noRows,hi]; rfl⟩,HT0.out.frozen i⟩,hszT,bT⟩
 case round =>
  obtain ⟨k,hkg,rfl,hLd,hTc,hTl,hb⟩:=hrel
  clear HT0 hszT bT hmk c0
  have hBw : Below w.heap.size w wr:=B1.trans (hb.mono (by rw [<- hT]; exact B1.size))
  cases gk with
  | succ g1 =>
   have hzk : (k : Int) < (K : Int):=by omega
   have hk : k < K:=by omega
   have q0:=HCr.out wr hb k hk
   obtain ⟨hq1,hq2⟩:=HQ.out k hk
   have hSk:=HGet.out k hk
   have hat:=(HPm.out.below hBw).at (z:=((S.getD k 0 : Nat) : Int)) ⟨by omega,by omega⟩ (q k) hq1 hq2 (fun i hi he=>goodZ_inj HGd.out (by omega) (by omega) (he.trans hq2.symm))
   have q1:=cell_below hBw hgp (HCp.out (q k) (by omega))
   have hlk:=HLen.out (q k) (by omega)
   obtain ⟨pk,hpk⟩ : ∃ pk,Hid (pk = ps.getD (q k) []):=⟨_,rfl⟩
   rw [<- hpk.out] at q1 hlk
   have hpkl : ∀ x ∈ pk,x < 256:=by rw [hpk.out]; exact HPs.out.lt (q k)
   obtain ⟨cap,w2,hcv,b2,hs2,hc2⟩:=conv_bytes wr pk hpkl
   rw [hlk] at hcv hc2
   obtain ⟨⟨old,ho⟩,hf⟩:=hTc.out k hk
   have ho2:=cell_below b2 hTl ho
   have hf2 : w2.frozen? ⟨T,k,none⟩ = false:=by rw [frozen_of (b2.block T hTl)]; exact hf
   have hLd2:=hid (hLd.out.put (c:=cap) hTl b2 hs2 (fun t ht=>by rw [hc2 t ht,hpk.out,hPd.out]) ho2)
   have hTc2 : Hid (∀ i,i < K -> (∃ v,(w2.setCell ⟨T,k,none⟩ (.slice (some ⟨wr.heap.size,0,none⟩) z cap)).cell? ⟨T,i,none⟩ = some v) /\ (w2.setCell ⟨T,k,none⟩ (.slice (some ⟨wr.heap.size,0,none⟩) z cap)).frozen? ⟨T,i,none⟩ = false):=fun i hi=>by
    obtain ⟨⟨v,hv⟩,hfi⟩:=hTc.out i hi
    have hv2:=cell_below b2 hTl hv
    refine ⟨?_,by rw [World.frozen?_setCell,frozen_of (b2.block T hTl)]; exact hfi⟩
    by_cases hik : i = k
    ·subst hik; exact ⟨_,World.cell?_setCell_same _ _ _ ho2⟩
    ·exact ⟨v,by rw [World.cell?_setCell_other _ _ _ _ (by simp <;> omega)]; exact hv2⟩
   have hTl2 : T < (w2.setCell ⟨T,k,none⟩ (.slice (some ⟨wr.heap.size,0,none⟩) z cap)).heap.size:=by simp [World.setCell]; omega
   have hb2 : Below T w1 (w2.setCell ⟨T,k,none⟩ (.slice (some ⟨wr.heap.size,0,none⟩) z cap)):=(hb.trans (b2.mono (by omega))).setCell (Nat.le_refl _) _
   have hqi : (q k : Int) < (L : Int):=by omega
   generalize S.getD k 0 = sk at *
   generalize q k = qk at *
   generalize ofBs pk = sp at *
   clear hLd hTc hq2 hc2 hpkl
   go_wp2_with fail
   go_roundg g1
   case measure=>omega
   case rel=>exact ⟨k + 1,by omega,by first | rfl | simp,hLd2,hTc2,hTl2,hb2⟩
  | zero =>
   have hzk : ¬ ((k : Int) < (K : Int)):=by omega
   have hkK : k = K:=by omega
   have HLd : Hid (Laid wr T z P K):=by unfold Hid; rw [<- hkK]; exact hLd.out
   have hbxr:=hb1.below hb hbl
   have c0 : wr.cell? ⟨w.heap.size,0,none⟩ = some (.int .i64 (K : Int)):=hbxr.cell 0
   have c1 : wr.cell? ⟨w.heap.size,1,none⟩ = some (.int .i64 (N : Int)):=hbxr.cell 1
   clear hTc hLd hkK
   go_wp2_with fail
   refine (Mx.of_t K N h1 h2 h3 wr).mono ?_
   rintro e w2 ⟨rm,rfl,hnm,b2⟩
   have hMm:=hnm.mat
   have hri:=HInts.out w2 (hb.trans (b2.mono (by omega)))
   have hrw:=Mx.rows_any rm _ (Mx.ofM K N) (S.map fun x : Nat=>(x : Int)) w2 hMm hri
   obtain ⟨r1,r2,r3,r4,r5⟩:=HRW.out
   have er : Mx.errR (Mx.ofM K N) (S.map fun x : Nat=>(x : Int)) = 0 /\ Mx.ansR (Mx.ofM K N) (S.map fun x : Nat=>(x : Int)) = Mx.rowsM (Mx.ofM K N) (S.map fun x : Nat=>(x : Int)):=by
    unfold Mx.errR Mx.ansR; rw [r1,r2]; exact ⟨rfl,rfl⟩
   rw [er.1,er.2] at hrw
   have HRws:=hid hrw
   obtain ⟨mr,hmr⟩ : ∃ mr,Hid (mr = Mx.rowsM (Mx.ofM K N) (S.map fun x : Nat=>(x : Int))):=⟨_,rfl⟩
   rw [<- hmr.out] at HRws r3 r4 r5
   obtain ⟨t1,f,t2,t3⟩:=turn_of K mr (fun i=>S.getD i 0) h1 (by omega) r3 r4 r5 HInj.out (fun i hi=>by have:=HGet.out i hi; omega)
   have HT2:=hid t2
   have HT3:=hid t3
   have B2 : Below w.heap.size w w2:=belowCall hBw b2
   have hbx2:=hbxr.below b2 hbxr.lt
   have hL2:=hid (HLd.out.below hTl b2)
   have hTl2 : T < w2.heap.size:=Nat.lt_of_lt_of_le hTl b2.size
   clear hnm hMm hri hrw er r1 r2 r3 r4 r5 HRW t2 t3 c0 c1 HLd hb hbxr
   go_wp2_with fail
   refine HRws.out.mono ?_
   rintro e w3 ⟨rr,rfl,hnr,b3⟩
   have hMr : Mat w3 rr mr:=hnr.mat
   have htn:=turn_any rr mr w3 hMr
   rw [t1] at htn
   have HTn:=hid htn
   have B3:=belowCall B2 b3
   have hbx3:=hbx2.below b3 hbx2.lt
   have hL3:=hid (hL2.out.below hTl2 b3)
   have hTl3 : T < w3.heap.size:=Nat.lt_of_lt_of_le hTl2 b3.size
   clear hnr hMr htn HRws t1 hbx2 hL2 b3
   go_wp2_with fail
   refine HTn.out.mono ?_
   rintro e w4 ⟨ra,rfl,hna,b4⟩
   have hal : (ansT mr).length = K:=by rw [HT2.out,rowsOf_length]
   have hMa:=hid hna.mat
   obtain ⟨Ta,ca,hra⟩ : ∃ Ta ca,ra = .slice (some ⟨Ta,0,none⟩) K ca:=by
    rcases hna.2 with ⟨_,e⟩ | ⟨Ta,ca,_,_,e,_⟩
    ·rw [e] at hal; simp at hal; omega
    ·rw [hal] at e; exact ⟨Ta,ca,e⟩
   subst hra
   have B4:=belowCall B3 b4
   have hbx4:=hbx3.below b4 hbx3.lt
   have hL4:=hid (hL3.out.below hTl3 b4)
   have hTl4 : T < w4.heap.size:=Nat.lt_of_lt_of_le hTl3 b4.size
   obtain ⟨g0,ci0,p1,p2,p3,p4⟩:=hL4.out 0 (by omega)
   have c0 : w4.cell? ⟨w.heap.size,0,none⟩ = some (.int .i64 (K : Int)):=hbx4.cell 0
   obtain ⟨M,hM⟩ : ∃ M,Hid (M = K * z):=⟨_,rfl⟩
   have hKz : K * z <= 12 * z:=Nat.mul_le_mul_right _ (by omega)
   have hM6 : M <= 1000000:=by rw [hM.out]; omega
   have m0 : (K : Int) * (z : Int) = (M : Int):=by rw [hM.out]; simp
   have hmk:=makes_u8 M hM6
   have hzK : (0 : Int) < (K : Int):=by omega
   have HAl:=hid hal
   have c0' : ∀ ob,(w4.alloc ob).cell? ⟨w.heap.size,0,none⟩ = some (.int .i64 (K : Int)):=fun ob=>(hbx4.alloc ob).cell 0
   clear hna HTn hbx3 hL3 b4 p4 hal
   go_wp2_with fail
   go_region
   go_wp2_with fail
   have hD5 : Hid (Has (w4.alloc (.cells (U8s (List.replicate M 0)) 5)).drew w4.heap.size (U8s (rowN M fun _=>0)) 5):=by
    unfold Hid; rw [<- rowN_zero]; exact (Has.new w4 _ _ 5 rfl).drew
   have b45 : Below w4.heap.size w4 (w4.alloc (.cells (U8s (List.replicate M 0)) 5)).drew:=((Below.refl _ _).alloc (Nat.le_refl _) _).drew
   have hs5 : (w4.alloc (.cells (U8s (List.replicate M 0)) 5)).drew.heap.size = w4.heap.size + 1:=by simp
   obtain ⟨w5,hw5⟩ : ∃ w5,Hid (w5 = (w4.alloc (.cells (U8s (List.replicate M 0)) 5)).drew):=⟨_,hid rfl⟩
   rw [<- hw5.out] at hD5 b45 hs5 ⊢
   refine (cut_any w4.heap.size M M K z w5 (by omega) hz0 (by omega) hM.out (Nat.le_refl _) hM6).mono ?_
   rintro e w6 ⟨rfl,hT6,b6⟩
   have b46 : Below w4.heap.size w4 w6:=b45.trans (b6.mono (by omega))
   have hG6:=hD5.out.below b6 (by omega)
   have hT6l:=hT6.lt
   obtain ⟨gf,cf,hgf⟩:=hL4.out.fns
   have hml : ∀ i,i < K -> ((ansT mr).getD i []).length = K:=fun i hi=>by rw [HT2.out,rowsOf_row _ _ _ _ hi]; simp
   have hup:=addUp_some w4.heap.size M z K K 0 w5.heap.size 0 K T 0 K Ta 0 ca (fun _=>0) (ansT mr) gf (fun _=>0) cf P w6 w4 hG6 (fun _=>by decide) hM6 hz0 (by rw [hM.out]; omega) (by omega) (by omega) (by omega) (by omega)
    ⟨by omega,hT6l,fun i hi=>by rw [hT6.cell,Nat.zero_add,cutTo_get _ _ _ _ _ hi,if_pos hi]; unfold cutV; rw [Nat.zero_add]⟩ hMa.out (Nat.le_refl _) b46 HAl.out hml
    ⟨by omega,Nat.lt_of_lt_of_le hTl4 b46.size,fun j hj=>by rw [Nat.zero_add]; exact cell_below b46 hTl4 (hgf j hj).1⟩
    (fun j hj=>.inl ⟨by have:=(hgf j hj).2.1; omega,Nat.lt_of_lt_of_le (hgf j hj).2.1 b46.size,fun t ht=>by rw [Nat.zero_add]; exact cell_below b46 (hgf j hj).2.1 ((hgf j hj).2.2 t ht)⟩) HPb.out
   have HUp:=hid hup
   have HFl:=hid (up_flat (z:=z) (P:=P) (s:=fun i=>S.getD i 0) HT2.out HT3.out)
   rw [<- hM.out] at HFl
   clear hup hml hgf hG6 hT6 b6 hD5 hs5 hw5
   go_wp2_with fail
   refine HUp.out.mono ?_
   rintro e w7 ⟨rfl,hG7,k7⟩
   rw [HFl.out] at hG7
   have HG7:=hid hG7
   have B7 : Below w.heap.size w w7:=(B4.trans (b46.mono B4.size)).trans (k7.1.mono B4.size)
   clear HUp hG7 k7 HFl
   rw [hM.out] at HG7
   go_wp2_with fail
   go_ret2
   exact ⟨_,by rw [<- hM.out]; rfl,HG7.out,B7⟩
end Go.Proofs.YteapbbaollmniaaGreatDoor.C
