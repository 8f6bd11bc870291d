/- The payloads of a blob, and the blob of payloads, over numbers. No program in it. -/
import Derived.Test.YteapbbaollmniaaGreatDoorCRTurn
namespace Go.Proofs.YteapbbaollmniaaGreatDoor.C
open Go.RowKit
def rowN (C : Nat) (f : Nat -> Nat) : List Nat:=(List.range C).map f
theorem rowN_length (C : Nat) (f : Nat -> Nat) : (rowN C f).length = C:=by simp [rowN]
theorem rowN_set (C c x : Nat) (f : Nat -> Nat) : (rowN C f).set c x = rowN C (fun j=>if j = c then x else f j):=by
 apply ext_getD 0
 ·simp [rowN]
 ·intro j hj
  simp only [List.length_set,rowN_length] at hj
  unfold rowN
  rw [range_getD _ _ _ hj,List.getD_eq_getElem?_getD,List.getElem?_set]
  by_cases h : c = j
  ·subst h; rw [if_pos rfl,if_pos (by simp; exact hj),if_pos rfl]; rfl
  ·rw [if_neg h,if_neg (by omega),<- List.getD_eq_getElem?_getD,range_getD _ _ _ hj]
theorem rowN_congr {C : Nat} {f f' : Nat -> Nat} (h : ∀ j,j < C -> f j = f' j) : rowN C f = rowN C f':=List.map_congr_left fun j hj=>h j (List.mem_range.1 hj)
theorem rowN_zero (C : Nat) : List.replicate C 0 = rowN C (fun _=>0):=by unfold rowN; rw [List.map_const']; simp
theorem rowN_get (C : Nat) (f : Nat -> Nat) (j : Nat) (hj : j < C) : (rowN C f).getD j 0 = f j:=range_getD _ _ _ hj
theorem rowN_lt {C : Nat} {f : Nat -> Nat} (h : ∀ j,f j < 256) : ∀ x ∈ rowN C f,x < 256:=fun x hx=>by
 unfold rowN at hx
 simp only [List.mem_map] at hx
 obtain ⟨j,_,rfl⟩:=hx
 exact h j
theorem rowN_self (l : List Nat) : rowN l.length (fun j=>l.getD j 0) = l:=by
 apply ext_getD 0
 ·exact rowN_length _ _
 ·intro j hj
  rw [rowN_length] at hj
  exact rowN_get _ _ _ hj
theorem rowN_inj {C C' : Nat} {f f' : Nat -> Nat} (h : rowN C f = rowN C' f') : C = C' /\ ∀ j,j < C -> f j = f' j:=by
 have hl : C = C':=by have:=congrArg List.length h; simpa [rowN_length] using this
 subst hl
 refine ⟨rfl,fun j hj=>?_⟩
 rw [<- rowN_get C f j hj,h,rowN_get C f' j hj]
/-- how long payloads are -/
def sz (K n : Nat) : Nat:=(8 + n + K - 1) / K
theorem sz_facts (K n : Nat) (hK : 1 <= K) : 8 + n <= K * sz K n /\ K * sz K n < 8 + n + K /\ 1 <= sz K n:=by
 have h1:=Nat.div_add_mod (8 + n + K - 1) K
 have h2:=Nat.mod_lt (8 + n + K - 1) (show K > 0 by omega)
 refine ⟨by unfold sz; omega,by unfold sz; omega,?_⟩
 exact Nat.div_pos (by omega) (by omega)
theorem sz_le (K n : Nat) (hK : 1 <= K) : sz K n <= 8 + n:=by
 have h:=sz_facts K n hK
 by_cases hs : sz K n = 0
 ·omega
 ·have : K * (sz K n - 1) + K = K * sz K n:=by
   rw [<- Nat.mul_succ]; congr 1; omega
  have h3 : 1 * (sz K n - 1) <= K * (sz K n - 1):=Nat.mul_le_mul_right _ hK
  omega
/-- a byte of a length -/
def lenB (n i : Nat) : Nat:=n / 256 ^ (7 - i) % 256
theorem lenB_lt (n i : Nat) : lenB n i < 256:=Nat.mod_lt _ (by decide)
/-- the length, the blob, and noughts -/
def pad (b : List Nat) (i : Nat) : Nat:=if i < 8 then lenB b.length i else b.getD (i - 8) 0
theorem pad_lt {b : List Nat} (h : ∀ x ∈ b,x < 256) (i : Nat) : pad b i < 256:=by
 unfold pad; split
 ·exact lenB_lt _ _
 ·exact getD_lt h _
/-- a payload of the number i -/
def pay (K : Nat) (b : List Nat) (i t : Nat) : Nat:=El.xs K fun j=>Fld.mul (Mx.ofVal K i j) (pad b (j * sz K b.length + t))
theorem pay_lt (K : Nat) (b : List Nat) (i t : Nat) : pay K b i t < 256:=El.xs_lt (fun _=>Fld.mul_lt _ _) K
theorem ofVal_unit {K i : Nat} (hi : i < K) : Mx.ofVal K i = fun k=>if i = k then 1 else 0:=by
 funext k
 unfold Mx.ofVal
 rw [if_pos hi]
 by_cases h : k = i
 ·rw [if_pos h,if_pos h.symm]
 ·rw [if_neg h,if_neg (Ne.symm h)]
theorem pay_first {K : Nat} {b : List Nat} (h : ∀ x ∈ b,x < 256) {i : Nat} (hi : i < K) (t : Nat) : pay K b i t = pad b (i * sz K b.length + t):=by
 unfold pay
 rw [ofVal_unit hi,El.xs_pick (g:=fun j=>pad b (j * sz K b.length + t)) (fun j=>pad_lt h _) i K,if_pos hi]
def payL (K : Nat) (b : List Nat) (i : Nat) : List Nat:=rowN (sz K b.length) (pay K b i)
theorem payL_length (K : Nat) (b : List Nat) (i : Nat) : (payL K b i).length = sz K b.length:=rowN_length _ _
theorem payL_lt (K : Nat) (b : List Nat) (i : Nat) : ∀ x ∈ payL K b i,x < 256:=rowN_lt (pay_lt K b i)
def encL (K N : Nat) (b : List Nat) : List (List Nat):=(List.range N).map (payL K b)
theorem encL_length (K N : Nat) (b : List Nat) : (encL K N b).length = N:=by simp [encL]
theorem encL_get (K N : Nat) (b : List Nat) (i : Nat) (hi : i < N) : (encL K N b).getD i [] = payL K b i:=by
 simp [encL,List.getD_eq_getElem?_getD,hi]
/-- any K rows -/
theorem sub_length : ∀ (A B : List Nat),A.Nodup -> (∀ x ∈ A,x ∈ B) -> A.length <= B.length
 | [],_,_,_=>Nat.zero_le _
 | a :: A,B,h,hs=>by
  have ha:=List.nodup_cons.1 h
  have h1:=sub_length A (B.erase a) ha.2 (fun x hx=>(List.mem_erase_of_ne (fun (e : x = a)=>ha.1 (e ▸ hx))).2 (hs x (List.mem_cons_of_mem _ hx)))
  have hm:=hs a List.mem_cons_self
  have h2:=List.length_erase_of_mem hm
  have h3 : 0 < B.length:=List.length_pos_of_mem hm
  simp only [List.length_cons]
  omega
theorem sm_append (g : Nat -> Nat) (x : Nat) : ∀ A,El.sm (A ++ [x]) g = El.sm A g ^^^ g x
 | []=>by simp [El.sm]
 | a :: A=>by simp only [List.cons_append,El.sm]; rw [sm_append g x A,Nat.xor_assoc]
theorem xs_filter (g : Nat -> Nat) (p : Nat -> Bool) : ∀ n,(∀ k,k < n -> p k = false -> g k = 0) -> El.xs n g = El.sm ((List.range n).filter p) g
 | 0,_=>rfl
 | n + 1,h=>by
  rw [El.xs,xs_filter g p n (fun k hk=>h k (by omega)),List.range_succ,List.filter_append]
  cases hp : p n with
  | true=>rw [show List.filter p [n] = [n] by simp [hp],sm_append]
  | false=>rw [show List.filter p [n] = [] by simp [hp],List.append_nil,h n (by omega) hp,Nat.xor_zero]
theorem nodup_filter (p : Nat -> Bool) {l : List Nat} (h : l.Nodup) : (l.filter p).Nodup:=List.Pairwise.sublist List.filter_sublist h
theorem code_rank (K : Nat) (s : Nat -> Nat) (hK : K <= 256) (hinj : ∀ i,i < K -> ∀ j,j < K -> s i = s j -> i = j) (hs : ∀ i,i < K -> s i < 256) : El.rank K K (fun i j=>Mx.ofVal K (s i) j) = K:=by
 refine El.rank_full (fun _ _=>Mx.ofVal_lt _ _ _) fun v hv hz=>?_
 have hSm : ∀ x,x ∈ (List.range K).map s ↔ ∃ i,i < K /\ s i = x:=fun x=>by simp
 have hSn : ((List.range K).map s).Nodup:=by
  rw [List.nodup_iff_pairwise_ne,List.pairwise_map]
  refine List.Pairwise.imp_of_mem ?_ (List.nodup_iff_pairwise_ne.1 List.nodup_range)
  intro a b ha hb hab e
  exact hab (hinj a (List.mem_range.1 ha) b (List.mem_range.1 hb) e)
 generalize hS : (List.range K).map s = S at *
 have hSl : S.length = K:=by rw [<- hS]; simp
 have hrow : ∀ x ∈ S,El.xs K (fun k=>Fld.mul (Mx.ofVal K x k) (v k)) = 0:=fun x hx=>by
  obtain ⟨i,hi,rfl⟩:=(hSm x).1 hx
  exact hz i hi
 have hlow : ∀ j,j < K -> j ∈ S -> v j = 0:=fun j hj hm=>by
  have:=hrow j hm
  rw [ofVal_unit hj,El.xs_pick hv,if_pos hj] at this
  exact this
 have hX : ∀ x ∈ S.filter (fun x=>decide (K <= x)),x ∈ S /\ K <= x:=fun x hx=>by simpa using hx
 have hY : ∀ y ∈ (List.range K).filter (fun y=>decide (y ∉ S)),y < K /\ y ∉ S:=fun y hy=>by simpa using hy
 have hcount : ((List.range K).filter (fun y=>decide (y ∉ S))).length <= (S.filter (fun x=>decide (K <= x))).length:=by
  have h1 : ((List.range K).filter (fun y=>decide (y ∈ S))).length + ((List.range K).filter (fun y=>decide (y ∉ S))).length = K:=by
   rw [<- List.countP_eq_length_filter,<- List.countP_eq_length_filter]
   have h5:=List.length_eq_countP_add_countP (fun y=>decide (y ∈ S)) (l:=List.range K)
   have h6 : List.countP (fun a=>decide ¬decide (a ∈ S) = true) (List.range K) = List.countP (fun y=>decide (y ∉ S)) (List.range K):=by
    apply List.countP_congr; simp
   rw [h6,List.length_range] at h5
   exact h5.symm
  have h2 : (S.filter (fun x=>decide (x < K))).length + (S.filter (fun x=>decide (K <= x))).length = K:=by
   rw [<- List.countP_eq_length_filter,<- List.countP_eq_length_filter]
   have h5:=List.length_eq_countP_add_countP (fun x=>decide (x < K)) (l:=S)
   have h6 : List.countP (fun a=>decide ¬decide (a < K) = true) S = List.countP (fun x=>decide (K <= x)) S:=by
    apply List.countP_congr; simp
   rw [h6,hSl] at h5
   exact h5.symm
  have h3:=sub_length (S.filter (fun x=>decide (x < K))) ((List.range K).filter (fun y=>decide (y ∈ S))) (nodup_filter _ hSn) (fun x hx=>by
   have h4 : x ∈ S /\ x < K:=by simpa using hx
   simpa using ⟨h4.2,h4.1⟩)
  omega
 have hc:=El.cauchy _ _ v hv hcount (nodup_filter _ hSn) (nodup_filter _ List.nodup_range) (fun x hx=>by
  obtain ⟨i,hi,rfl⟩:=(hSm x).1 (hX x hx).1
  exact hs i hi) (fun y hy=>by have:=(hY y hy).1; omega) (fun x hx y hy=>by have:=(hX x hx).2; have:=(hY y hy).1; omega) (fun x hx=>by
  obtain ⟨x1,x2⟩:=hX x hx
  have h1:=hrow x x1
  rw [xs_filter _ (fun y=>decide (y ∉ S)) K (fun k hk hp=>by
   have hm : k ∈ S:=by simpa using hp
   rw [hlow k hk hm,Fld.mul_zero])] at h1
  rw [<- h1]
  refine El.sm_congr _ fun y hy=>?_
  unfold Mx.ofVal
  rw [if_neg (by omega),Fld.mul_comm])
 intro j hj
 by_cases hm : j ∈ S
 ·exact hlow j hj hm
 ·exact hc j (by simpa using ⟨hj,hm⟩)
theorem xs_swap (g : Nat -> Nat -> Nat) (m : Nat) : ∀ n,El.xs n (fun k=>El.xs m (fun l=>g k l)) = El.xs m (fun l=>El.xs n (fun k=>g k l))
 | 0=>by simp only [El.xs]; rw [El.xs_zero]
 | n + 1=>by simp only [El.xs]; rw [xs_swap g m n,<- El.xs_xor]
/-- what is told by K of them -/
def dat (K : Nat) (s : Nat -> Nat) (P : Nat -> Nat -> Nat) (j t : Nat) : Nat:=El.xs K fun k=>Fld.mul (El.inve K (fun i j=>Mx.ofVal K (s i) j) j k) (P k t)
theorem dat_lt (K : Nat) (s : Nat -> Nat) (P : Nat -> Nat -> Nat) (j t : Nat) : dat K s P j t < 256:=El.xs_lt (fun _=>Fld.mul_lt _ _) K
theorem dat_is {K : Nat} {s : Nat -> Nat} {P : Nat -> Nat -> Nat} {b : List Nat} (hb : ∀ x ∈ b,x < 256) (hK : K <= 256) (hinj : ∀ i,i < K -> ∀ j,j < K -> s i = s j -> i = j) (hs : ∀ i,i < K -> s i < 256)
  {t : Nat} (hP : ∀ k,k < K -> P k t = pay K b (s k) t) {j : Nat} (hj : j < K) : dat K s P j t = pad b (j * sz K b.length + t):=by
 have hbt : El.Byt (fun i j=>Mx.ofVal K (s i) j):=fun _ _=>Mx.ofVal_lt _ _ _
 have hr:=code_rank K s hK hinj hs
 have hI:=El.byt_inve K hbt
 unfold dat
 rw [El.xs_congr (g':=fun k=>El.xs K (fun l=>Fld.mul (Fld.mul (El.inve K (fun i j=>Mx.ofVal K (s i) j) j k) (Mx.ofVal K (s k) l)) (pad b (l * sz K b.length + t)))) K (fun k hk=>by
  rw [hP k hk]; unfold pay
  rw [<- El.xs_mul _ (fun _=>Fld.mul_lt _ _)]
  exact El.xs_congr K fun l _=>(Fld.mul_assoc (hI _ _) (Mx.ofVal_lt _ _ _) (pad_lt hb _)).symm),xs_swap]
 rw [El.xs_congr (g':=fun l=>Fld.mul (if j = l then 1 else 0) (pad b (l * sz K b.length + t))) K (fun l hl=>by
  rw [<- El.inve_mul hbt hr hj hl]
  rw [Fld.mul_comm,<- El.xs_mul _ (fun _=>Fld.mul_lt _ _)]
  exact El.xs_congr K fun k _=>Fld.mul_comm _ _),El.xs_pick (g:=fun l=>pad b (l * sz K b.length + t)) (fun l=>pad_lt hb _),if_pos hj]
/-- the number that eight bytes tell -/
def num (f : Nat -> Nat) : Nat -> Nat
 | 0=>0
 | k + 1=>num f k * 256 + f k
theorem num_congr {f f' : Nat -> Nat} : ∀ n,(∀ k,k < n -> f k = f' k) -> num f n = num f' n
 | 0,_=>rfl
 | n + 1,h=>by rw [num,num,num_congr n (fun k hk=>h k (by omega)),h n (by omega)]
theorem num_lt {f : Nat -> Nat} (h : ∀ k,f k < 256) : ∀ n,num f n < 256 ^ n
 | 0=>by simp [num]
 | n + 1=>by
  have h1:=num_lt h n
  have h2:=h n
  rw [num,Nat.pow_succ]; omega
theorem num_len (n : Nat) (h : n < 256 ^ 8) : num (lenB n) 8 = n:=by
 simp only [num,lenB]
 simp only [show (7 - 0 : Nat) = 7 from rfl,show (7 - 1 : Nat) = 6 from rfl,show (7 - 2 : Nat) = 5 from rfl,show (7 - 3 : Nat) = 4 from rfl,show (7 - 4 : Nat) = 3 from rfl,show (7 - 5 : Nat) = 2 from rfl,show (7 - 6 : Nat) = 1 from rfl,show (7 - 7 : Nat) = 0 from rfl,Nat.reducePow] at h ⊢
 omega
theorem pad_len {b : List Nat} (h : b.length <= 32768) : num (pad b) 8 = b.length:=by
 rw [num_congr (f':=lenB b.length) 8 (fun k hk=>by unfold pad; rw [if_pos hk])]
 exact num_len _ (by omega)
theorem pad_blob (b : List Nat) : rowN b.length (fun i=>pad b (8 + i)) = b:=by
 rw [rowN_congr (f':=fun i=>b.getD i 0) (fun j _=>by unfold pad; rw [if_neg (by omega)]; congr 1; omega)]
 exact rowN_self b
theorem pad_inj {b b' : List Nat} {n : Nat} (h1 : b.length <= 32768) (h2 : b'.length <= 32768) (hn : 8 + b.length <= n) (h : ∀ i,i < n -> pad b i = pad b' i) : b = b':=by
 have hl : b.length = b'.length:=by
  rw [<- pad_len h1,<- pad_len h2]
  exact num_congr 8 fun k hk=>h k (by omega)
 rw [<- pad_blob b,<- pad_blob b',<- hl]
 exact rowN_congr fun j hj=>h _ (by omega)
/-- what lies where -/
theorem at_lt {K z i t : Nat} (hi : i < K) (ht : t < z) : i * z + t < K * z:=by
 have : (i + 1) * z <= K * z:=Nat.mul_le_mul_right _ hi
 rw [Nat.succ_mul] at this
 omega
theorem at_div {z i t : Nat} (ht : t < z) : (i * z + t) / z = i /\ (i * z + t) % z = t:=by
 have hz : 0 < z:=by omega
 refine ⟨?_,?_⟩
 ·rw [Nat.mul_comm,Nat.mul_add_div hz,Nat.div_eq_of_lt ht,Nat.add_zero]
 ·rw [Nat.mul_comm,Nat.mul_add_mod,Nat.mod_eq_of_lt ht]
theorem of_at {K z n : Nat} (hn : n < K * z) : n / z < K /\ n % z < z /\ n / z * z + n % z = n:=by
 have hz : 0 < z:=by
  by_cases h : z = 0
  ·subst h; simp at hn
  ·omega
 refine ⟨Nat.div_lt_of_lt_mul (by rw [Nat.mul_comm]; exact hn),Nat.mod_lt _ hz,?_⟩
 rw [Nat.mul_comm]; exact Nat.div_add_mod n z
/-- all of it, one behind the other -/
def flatD (K z : Nat) (s : Nat -> Nat) (P : Nat -> Nat -> Nat) (n : Nat) : Nat:=dat K s P (n / z) (n % z)
theorem flatD_is {K : Nat} {s : Nat -> Nat} {P : Nat -> Nat -> Nat} {b : List Nat} (hb : ∀ x ∈ b,x < 256) (hK : K <= 256) (hinj : ∀ i,i < K -> ∀ j,j < K -> s i = s j -> i = j) (hs : ∀ i,i < K -> s i < 256)
  (hP : ∀ k,k < K -> ∀ t,t < sz K b.length -> P k t = pay K b (s k) t) {n : Nat} (hn : n < K * sz K b.length) : flatD K (sz K b.length) s P n = pad b n:=by
 obtain ⟨h1,h2,h3⟩:=of_at hn
 unfold flatD
 rw [dat_is hb hK hinj hs (fun k hk=>hP k hk _ h2) h1,h3]
/-- two blobs that have K payloads in common are one -/
theorem pay_inj {K : Nat} {s : Nat -> Nat} {b b' : List Nat} (hb : ∀ x ∈ b,x < 256) (hb' : ∀ x ∈ b',x < 256) (l1 : b.length <= 32768) (l2 : b'.length <= 32768) (hK1 : 1 <= K) (hK : K <= 256) (hinj : ∀ i,i < K -> ∀ j,j < K -> s i = s j -> i = j) (hs : ∀ i,i < K -> s i < 256)
  (h : ∀ k,k < K -> payL K b (s k) = payL K b' (s k)) : b = b':=by
 have hz:=(rowN_inj (h 0 (by omega))).1
 have hf:=sz_facts K b.length hK1
 refine pad_inj l1 l2 hf.1 fun i hi=>?_
 rw [<- flatD_is hb hK hinj hs (P:=fun k t=>pay K b (s k) t) (fun _ _ _ _=>rfl) hi]
 rw [hz] at hi ⊢
 exact flatD_is hb' hK hinj hs (fun k hk t ht=>(rowN_inj (h k hk)).2 t (by rw [hz]; exact ht)) hi
end Go.Proofs.YteapbbaollmniaaGreatDoor.C
/- addProducts: products are added to a piece, byte by byte. -/
namespace Go.Proofs.YteapbbaollmniaaGreatDoor.C
open Go.RowKit
def addF (F : Nat -> Nat) (o n tm : Nat) (p : Nat -> Nat) : Nat -> Nat:=fun i=>if o <= i /\ i < o + n then F i ^^^ Fld.mul tm (p (i - o)) else F i
theorem addF_zero (F : Nat -> Nat) (o tm : Nat) (p : Nat -> Nat) : addF F o 0 tm p = F:=by
 funext i; unfold addF; rw [if_neg (by omega)]
theorem addF_set (F : Nat -> Nat) (o k tm M : Nat) (p : Nat -> Nat) : rowN M (fun i=>if i = o + k then F (o + k) ^^^ Fld.mul tm (p k) else addF F o k tm p i) = rowN M (addF F o (k + 1) tm p):=rowN_congr fun i _=>by
 unfold addF
 by_cases h : i = o + k
 ·subst h; rw [if_pos rfl,if_pos (by omega)]; congr 3; omega
 ·rw [if_neg h]
  by_cases h2 : o <= i /\ i < o + k
  ·rw [if_pos h2,if_pos (by omega)]
  ·rw [if_neg h2,if_neg (by omega)]
theorem addF_at (F : Nat -> Nat) (o k tm : Nat) (p : Nat -> Nat) : addF F o k tm p (o + k) = F (o + k):=by unfold addF; rw [if_neg (by omega)]
/-- where a piece lies: apart from what is written -/
def PieceAt (w : World) (g o n M gp op : Nat) (F p : Nat -> Nat) : Prop :=
 (gp ≠ g /\ gp < w.heap.size /\ ∀ j,j < n -> w.cell? ⟨gp,op + j,none⟩ = some (.int .u8 (p j : Int))) \/ (gp = g /\ op + n <= M /\ (op + n <= o \/ o + n <= op) /\ ∀ j,j < n -> p j = F (op + j))
theorem keeps_block {g : Nat} {w w' : World} (h : Keeps g (g + 1) w w') {b : Nat} (hb : b ≠ g) (hl : b < w.heap.size) : w'.heap[b]? = w.heap[b]?:=by
 by_cases hlt : b < g
 ·exact h.1.block b hlt
 ·exact h.2 b (by omega) hl
set_option maxRecDepth 20000 in
set_option maxHeartbeats 2000000 in
theorem addProducts_any (fb g o n cap gp op capp M tm : Nat) (F p : Nat -> Nat) (w : World) (hF : Has w fb FC 261) (hG : Has w g (U8s (rowN M F)) 5) (hne : fb ≠ g) (ho : o + n <= M) (hM : M <= 1000000) (hFb : ∀ i,F i < 256) (htm : tm < 256)
  (hp : ∀ j,j < n -> p j < 256) (hpc : PieceAt w g o n M gp op F p) :
  Calls Tryz.prog 158 #[.pointer (some ⟨fb,0,none⟩),.slice (some ⟨g,o,none⟩) n cap,.int .u8 (tm : Int),.slice (some ⟨gp,op,none⟩) n capp] w fun e w'=>e = .returned (.tuple #[]) /\ Has w' g (U8s (rowN M (addF F o n tm p))) 5 /\ Keeps g (g + 1) w w':=by
 by_cases hz : tm = 0
 ·have HE : Hid (Has w g (U8s (rowN M (addF F o n tm p))) 5):=by
   have e : rowN M (addF F o n tm p) = rowN M F:=rowN_congr fun i _=>by
    unfold addF; split
    ·rw [hz,Fld.zero_mul,Nat.xor_zero]
    ·rfl
   unfold Hid; rw [e]; exact hG
  have z0 : ((tm : Int) == 0) = true:=by rw [hz]; rfl
  clear hG hpc hF
  go_enter Tryz.func158,Tryz.ntmps158
  go_wp2_with fail
  refine bodyPost_ret (results_none rfl _ _ _) rfl ?_
  exact ⟨rfl,HE.out,Keeps.refl _ _ _⟩
 ·have z0 : ((tm : Int) == 0) = false:=by rw [beq_eq_false_iff_ne]; omega
  have hgl:=hG.lt
  have hG0 : Hid (Has w g (U8s (rowN M (addF F o 0 tm p))) 5):=by unfold Hid; rw [addF_zero]; exact hG
  have HP:=hid hp
  have HFb:=hid hFb
  have HPC:=hid hpc
  clear hG hp hFb hpc
  go_enter Tryz.func158,Tryz.ntmps158
  go_wp2_with fail
  go_loopw [14] (fun vi wr=>∃ k : Nat,k <= n /\ vi = .int .i64 (k : Int) /\ Hid (Has wr g (U8s (rowN M (addF F o k tm p))) 5) /\ Keeps g (g + 1) w wr) (fun vi _=>n - (intOf vi).toNat)
  case atStart=>exact ⟨0,by omega,rfl,hG0,Keeps.refl _ _ _⟩
  case round =>
   obtain ⟨k,hk,rfl,hH,hK⟩:=hrel
   clear hG0
   by_cases hlt : k < n
   ·have d1 : (k : Int) < (n : Int):=by omega
    have hgl1 : g < wr.heap.size:=hH.out.lt
    have hF1:=hK.hasNe hF hne
    have l1:=HFb.out (o + k)
    have l2:=HP.out k hlt
    have l3:=Fld.mul_lt tm (p k)
    have q0 : wr.cell? ⟨gp,op + k,none⟩ = some (.int .u8 (p k : Int)):=by
     rcases HPC.out with ⟨h1,h2,h3⟩ | ⟨h1,h2,h3,h4⟩
     ·rw [cell_of (keeps_block hK h1 h2)]; exact h3 k hlt
     ·subst h1
      rw [hH.out.cell,U8s_get _ _ (by rw [rowN_length]; omega),rowN_get _ _ _ (by omega),h4 k hlt]
      unfold addF; rw [if_neg (by omega)]
    have q1 : wr.cell? ⟨g,o + k,none⟩ = some (.int .u8 ((F (o + k) : Nat) : Int)):=by
     rw [hH.out.cell,U8s_get _ _ (by rw [rowN_length]; omega),rowN_get _ _ _ (by omega),addF_at]
    have HC : Hid (∀ W',Below wr.heap.size wr W' -> W'.cell? ⟨g,o + k,none⟩ = some (.int .u8 ((F (o + k) : Nat) : Int)) /\ Has W' fb FC 261):=fun W' hb =>
     ⟨cell_below hb hgl1 q1,hF1.below hb hF1.lt⟩
    have HL : Hid (∀ W',Below wr.heap.size wr W' -> W'.frozen? ⟨g,o + k,none⟩ = false /\ Has (W'.setCell ⟨g,o + k,none⟩ (.int .u8 ((F (o + k) ^^^ Fld.mul tm (p k) : Nat) : Int))) g (U8s (rowN M (addF F o (k + 1) tm p))) 5 /\ Keeps g (g + 1) w (W'.setCell ⟨g,o + k,none⟩ (.int .u8 ((F (o + k) ^^^ Fld.mul tm (p k) : Nat) : Int)))):=fun W' hb=>by
     have hH':=hH.out.below hb hgl1
     have hS:=hH'.set (o + k) (.int .u8 ((F (o + k) ^^^ Fld.mul tm (p k) : Nat) : Int))
     rw [U8s_set,rowN_set,addF_set] at hS
     exact ⟨hH'.frozen _,hS,(hK.trans (Keeps.ofBelow hb (by omega))).set (Nat.le_refl _) (Nat.lt_succ_self _) _⟩
    generalize F (o + k) = fk at *
    generalize hpk : p k = pk at *
    clear q1 hF1 hH HPC
    go_wp2_with fail
    refine wp_region_last_lit (by kernel_rfl) 19 (by kernel_rfl) (by simp) (by simp) (fun W'=>Below wr.heap.size wr W') (vals ([.slice (some ⟨g,o,none⟩) n cap,.int .i64 (k : Int),.pointer (some ⟨fb,0,none⟩),.slice (some ⟨g,o,none⟩) n cap,.int .i64 (k : Int),.pointer (some ⟨g,o + k,none⟩),.int .u8 (fk : Int),.pointer (some ⟨fb,0,none⟩),.int .u8 (tm : Int),.int .u8 (pk : Int),.int .u8 ((Fld.mul tm pk : Nat) : Int),.int .u8 ((fk ^^^ Fld.mul tm pk : Nat) : Int),.pointer (some ⟨g,o + k,none⟩)] : List Value)) (Below.refl _ _).drew
     ⟨fun a' W' hC hF=>st_val 19 _ rfl (rn_move rfl (hF 1 (by decide))) hC,
      fun a' W' hC hF=>st_val 20 _ rfl (rn_move rfl (hF 8 (by decide))) hC,
      fun a' W' hC hF=>st_val 21 _ rfl (rn_move rfl (hF 0 (by decide))) hC,
      fun a' W' hC hF=>st_val 22 _ rfl (rn_move rfl (hF 1 (by decide))) hC,
      fun a' W' hC hF=>st_val 23 _ rfl (rn_move rfl (hF 8 (by decide))) hC,
      fun a' W' hC hF=>st_val 24 _ rfl (rn_at31 rfl (hF 22 (by decide)) (hF 23 (by decide)) hlt) hC,
      fun a' W' hC hF=>st_val 25 _ rfl (rn_load5 rfl (hF 24 (by decide)) (HC.out W' hC).1) hC,
      fun a' W' hC hF=>st_val 26 _ rfl (rn_move rfl (hF 0 (by decide))) hC,
      fun a' W' hC hF=>st_val 27 _ rfl (rn_move rfl (hF 2 (by decide))) hC,
      fun a' W' hC hF=>st_val 28 _ rfl (rn_move rfl (hF 9 (by decide))) hC,
      fun a' W' hC hF=>st_call 29 _ 186 _ rfl (rn_call3 rfl rfl (hF 26 (by decide)) (hF 27 (by decide)) (hF 28 (by decide)) (enter46 _)) ((mul_any _ tm pk htm l2 W' (.inr ⟨fb,rfl,(HC.out W' hC).2⟩)).mono fun e w'' h=>⟨h.1,belowCall hC h.2⟩),
      fun a' W' hC hF=>st_call 30 _ 185 _ rfl (rn_call3 rfl rfl (hF 21 (by decide)) (hF 25 (by decide)) (hF 29 (by decide)) (enter45 _)) ((add_any _ fk (Fld.mul tm pk) l1 l3 W').mono fun e w'' h=>⟨h.1,belowCall hC h.2⟩),
      fun a' W' hC hF=>st_val 31 _ rfl (rn_at31 rfl (hF 19 (by decide)) (hF 20 (by decide)) hlt) hC,
      ?_⟩
    intro W' hC
    generalize hA : puts _ _ _ _ = A
    have hx1 : A.eval (.tmp 31) = .pointer (some ⟨g,o + k,none⟩):=by rw [<- hA]; exact ev_puts 13 12 rfl (by simp) (by decide)
    have hy1 : A.eval (.tmp 30) = .int .u8 ((fk ^^^ Fld.mul tm pk : Nat) : Int):=by rw [<- hA]; exact ev_puts 13 11 rfl (by simp) (by decide)
    refine st_store rfl (rn_store5 rfl hx1 hy1 (HC.out W' hC).1 (HL.out W' hC).1) ?_
    rw [<- hA]
    clear hx1 hy1 hA A
    have HL':=hid (HL.out W' hC)
    clear HL
    simp only [List.length_cons,List.length_nil,Nat.reduceAdd,Nat.reduceSub,puts,Act.put,vals,List.setIfInBounds_toArray,List.set_cons_succ,List.set_cons_zero,List.getD_cons_succ,List.getD_cons_zero]
    go_wp2_with fail
    exact ⟨⟨k + 1,by omega,rfl,HL'.out.2.1,HL'.out.2.2⟩,by simp [intOf]; omega⟩
   ·obtain rfl : k = n:=by omega
    go_wp2_with fail
    go_end0
    exact ⟨rfl,hH.out,hK⟩
end Go.Proofs.YteapbbaollmniaaGreatDoor.C
