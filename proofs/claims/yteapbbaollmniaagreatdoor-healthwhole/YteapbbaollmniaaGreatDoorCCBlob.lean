/- Which K numbers are taken; how long payloads may be. -/
import Derived.Test.YteapbbaollmniaaGreatDoorCCMap
namespace Go.Proofs.YteapbbaollmniaaGreatDoor.C
open Go.RowKit
theorem el3 : Elem 56 3 (.int .i64 0) 8:=⟨Tryz.underlying56,by kernel_rfl,rfl,by decide⟩
def IVs (l : List Nat) : List Value:=l.map fun x : Nat=>.int .i64 (x : Int)
theorem IVs_length (l : List Nat) : (IVs l).length = l.length:=by simp [IVs]
theorem wpList_appI {ops : Array Oper} {rest : List Oper} {o : Oper} {a : Act} {w : World} {Q : Exit -> Act -> World -> Prop} (hgd : o.guard = none) (s x : Operand)
  (ho : o.op = .call { callee:=.builtin .append,args:=#[s,x],argTypes:=#[56,56] }) (base : Nat) (v : Value) (l : List Nat) (y n : Nat) (hs : a.eval s = v) (hown : Owns 3 base v (IVs l) w) (b c : Nat) (hx : a.eval x = .slice (some ⟨b,0,none⟩) 1 c) (hnews : Has w b #[.int .i64 (y : Int)] 3)
  (hn : l.length + 1 = n) (h63 : n <= 1000000) (hbase : base <= w.heap.size)
  (h : ∀ g cap w',Owns 3 base (.slice (some ⟨g,0,none⟩) n cap) (IVs (l ++ [y])) w' -> Below base w w' -> wpList Tryz.prog ops Q rest (a.put o.dst (.slice (some ⟨g,0,none⟩) n cap)) w') : wpList Tryz.prog ops Q (o :: rest) a w:=by
 obtain ⟨i,hi,hz0,hz1,hz2⟩:=el3.info
 obtain ⟨v',w',a1,a2,a3,_,a5⟩:=run_append_own_at (P:=Tryz.prog) w base 56 o.type 3 i (.int .i64 0) 1 8 el3.ht hi hz0 hz1 hz2 el3.hz (by decide) v _ _ hown ⟨b,0,none⟩ 1 c [.int .i64 (y : Int)] rfl (World.news_of_block hnews) (by intro u hu; simp at hu; subst hu; rfl) (by rw [IVs_length]; unfold maxLen; omega) (by rw [IVs_length]; omega) hbase
 have h2 : Owns 3 base v' (IVs (l ++ [y])) w':=by
  show w'.ownsRow base 3 1 v' (IVs (l ++ [y])).length _
  rw [IVs_length,List.length_append]
  rw [IVs_length] at a2
  have e : IVs (l ++ [y]) = IVs l ++ [.int .i64 (y : Int)]:=by simp [IVs]
  rw [e]; exact a2
 have h3:=h2
 obtain ⟨_,h4⟩:=h3
 rw [IVs_length,List.length_append] at h4
 rcases h4 with ⟨_,h0⟩ | ⟨g,cap,cur,rfl,hg,_⟩
 ·simp at h0
 ·have e1 : l.length + [y].length = n:=hn
  rw [e1] at h2 a1
  exact wpList_appRun hgd s x 56 56 ho (by rw [hs,hx]; exact a1) (h g cap w' h2 ((Below.refl base w).grown a3 hbase (fun k hk=>(hown.base_le k hk).1)))
theorem Owns.ints {base : Nat} {v : Value} {l : List Nat} {w : World} (h : Owns 3 base v (IVs l) w) (hl : l.length <= 1000000) : Mx.Ints w v (l.map fun x : Nat=>(x : Int)):=by
 obtain ⟨h1,h2⟩:=h
 rw [IVs_length] at h2
 rcases h2 with ⟨rfl,h0⟩ | ⟨g,cap,cur,rfl,hg,hh,k1,k2,k3,k4⟩
 ·have : l = []:=List.eq_nil_of_length_eq_zero h0
  subst this
  exact ⟨none,0,rfl,by simp,fun h=>absurd h (by simp)⟩
 ·have hH : Has w g cur 3:=hh
  refine ⟨_,cap,by simp,by simp; omega,fun _=>⟨g,0,rfl,hH.lt,fun j hj=>?_⟩⟩
  rw [List.length_map] at hj
  rw [Nat.zero_add,hH.cell]
  have e : cur.toList[j]? = (IVs l)[j]?:=by
   rw [<- k4,List.getElem?_take,if_pos (by omega)]
  rw [Array.getElem?_toList] at e
  rw [e]
  simp [IVs,List.getElem?_eq_getElem hj,List.getD_eq_getElem?_getD]
theorem makes_ints (K : Nat) (hK : K <= 1000000) (w : World) : ∃ cs : Array Value,(Instr.makeSlice 56 (.int .i64 0) (.int .i64 (K : Int))).run Tryz.prog w = .ok (.slice (some ⟨w.heap.size,0,none⟩) 0 K) (w.alloc (.cells cs 3)) /\ Owns 3 w.heap.size (.slice (some ⟨w.heap.size,0,none⟩) 0 K) (IVs []) (w.alloc (.cells cs 3)):=by
 obtain ⟨i,hi,h1,h2,h3⟩:=el3.info
 have hr:=run_make (P:=Tryz.prog) w 56 3 i (.int .i64 0) Tryz.underlying56 hi h1 .i64 .i64 (0 : Int) (K : Int) (by omega) (by omega) (by rw [h3]; omega) (by omega)
 refine ⟨_,hr,rfl,.inr ⟨w.heap.size,K,_,rfl,Nat.le_refl _,Has.new w _ _ 3 rfl,Nat.zero_le _,by unfold maxLen; omega,?_,by simp [IVs]⟩⟩
 rw [h2]
 simp [madeCells]
/-- is the number among them? -/
def inZ (zs : List Int) (n : Nat) : Bool:=decide (∃ j,j < zs.length /\ zs.getD j 0 = (n : Int))
def low (zs : List Int) (K n : Nat) : List Nat:=((List.range n).filter (inZ zs)).take K
theorem low_in {zs : List Int} {K n : Nat} (h : inZ zs n = true) (hl : (low zs K n).length < K) : low zs K (n + 1) = low zs K n ++ [n]:=by
 unfold low at hl ⊢
 rw [List.length_take] at hl
 have hl2 : ((List.range n).filter (inZ zs)).length < K:=by omega
 rw [List.range_succ,List.filter_append,show List.filter (inZ zs) [n] = [n] by simp [h],List.take_of_length_le (by simp; omega),List.take_of_length_le (by omega)]
theorem low_full {zs : List Int} {K n : Nat} (hl : ¬ (low zs K n).length < K) : low zs K (n + 1) = low zs K n:=by
 unfold low at hl ⊢
 rw [List.length_take] at hl
 rw [List.range_succ,List.filter_append,List.take_append_of_le_length (by omega)]
theorem low_out {zs : List Int} {K n : Nat} (h : inZ zs n = false) : low zs K (n + 1) = low zs K n:=by
 unfold low
 rw [List.range_succ,List.filter_append,show List.filter (inZ zs) [n] = [] by simp [h],List.append_nil]
theorem low_le (zs : List Int) (K n : Nat) : (low zs K n).length <= K:=by unfold low; rw [List.length_take]; omega
/-- there are K of them -/
theorem low_length {zs : List Int} {K N : Nat} (h : goodZ (N : Int) zs) (hK : K <= zs.length) : (low zs K N).length = K:=by
 unfold low
 rw [List.length_take]
 have h1:=sub_length (zs.map Int.toNat) ((List.range N).filter (inZ zs)) (by
  rw [List.nodup_iff_pairwise_ne,List.pairwise_iff_getElem]
  intro i j hi hj hij e
  simp only [List.length_map] at hi hj
  simp only [List.getElem_map] at e
  have h1:=(h i hi).1
  have h2:=(h j hj).1
  have h3:=(h j hj).2 i hij
  rw [List.getD_eq_getElem?_getD,List.getElem?_eq_getElem hi] at h1 h3
  rw [List.getD_eq_getElem?_getD,List.getElem?_eq_getElem hj] at h2 h3
  simp only [Option.getD_some] at h1 h2 h3
  omega) (fun x hx=>by
  simp only [List.mem_map] at hx
  obtain ⟨z,hz,rfl⟩:=hx
  obtain ⟨j,hj,rfl⟩:=List.getElem_of_mem hz
  have h1:=(h j hj).1
  have e : zs.getD j 0 = zs[j]:=by rw [List.getD_eq_getElem?_getD,List.getElem?_eq_getElem hj]; rfl
  rw [e] at h1
  simp only [List.mem_filter,List.mem_range]
  refine ⟨by omega,?_⟩
  unfold inZ
  rw [decide_eq_true_iff]
  exact ⟨j,hj,by rw [e]; omega⟩)
 rw [List.length_map] at h1
 omega
theorem low_mem {zs : List Int} {K N x : Nat} (h : x ∈ low zs K N) : x < N /\ inZ zs x = true:=by
 unfold low at h
 have:=List.mem_of_mem_take h
 simpa using this
theorem low_nodup (zs : List Int) (K N : Nat) : (low zs K N).Nodup:=by
 unfold low
 exact List.Pairwise.sublist (List.take_sublist _ _) (nodup_filter _ List.nodup_range)
set_option maxRecDepth 20000 in
theorem firstAtHand_any (K N b : Nat) (zs : List Int) (w : World) (h2 : K <= N) (h3 : N <= 12) (hP : PMap w b zs.length zs) :
  Calls Tryz.prog 168 #[cv K N,.map (some b)] w fun e w'=>∃ r,e = .returned r /\ Owns 3 w.heap.size r (IVs (low zs K N)) w' /\ Below w.heap.size w w':=by
 have bA : Below w.heap.size w (w.alloc (.cells #[.int .i64 (K : Int),.int .i64 (N : Int)] 23)):=(Below.refl _ _).alloc (Nat.le_refl _) _
 have hbox : Has (w.alloc (.cells #[.int .i64 (K : Int),.int .i64 (N : Int)] 23)) w.heap.size #[.int .i64 (K : Int),.int .i64 (N : Int)] 23:=Has.new w w.heap.size _ 23 rfl
 obtain ⟨cs,hmk,hO⟩:=makes_ints K (by omega) (w.alloc (.cells #[.int .i64 (K : Int),.int .i64 (N : Int)] 23))
 have es : (w.alloc (.cells #[.int .i64 (K : Int),.int .i64 (N : Int)] 23)).heap.size = w.heap.size + 1:=by simp
 rw [es] at hmk hO
 have c0 : (w.alloc (.cells #[.int .i64 (K : Int),.int .i64 (N : Int)] 23)).cell? ⟨w.heap.size,0,none⟩ = some (.int .i64 (K : Int)):=hbox.cell 0
 have bB : Below (w.heap.size + 1) (w.alloc (.cells #[.int .i64 (K : Int),.int .i64 (N : Int)] 23)) ((w.alloc (.cells #[.int .i64 (K : Int),.int .i64 (N : Int)] 23)).alloc (.cells cs 3)):=(Below.refl _ _).alloc (by simp) _
 have c1 : ((w.alloc (.cells #[.int .i64 (K : Int),.int .i64 (N : Int)] 23)).alloc (.cells cs 3)).cell? ⟨w.heap.size,1,none⟩ = some (.int .i64 (N : Int)):=(hbox.below bB (by omega)).cell 1
 have HB:=hid hbox
 have HO:=hid hO
 have HPm:=hid hP
 have HI : Hid (inZ zs = fun n : Nat=>decide (∃ j,j < zs.length /\ zs.getD j 0 = (n : Int))):=rfl
 clear hbox hO hP
 unfold cv
 go_enter Tryz.func168,Tryz.ntmps168
 go_wp2_with fail
 go_loopg [5,14] N (fun g1 s5 s14 wx=>∃ k gg cp : Nat,k + g1 = N /\ s14 = .int .i64 (k : Int) /\ s5 = .slice (some ⟨gg,0,none⟩) (low zs K k).length cp /\ Hid (Owns 3 (w.heap.size + 1) (.slice (some ⟨gg,0,none⟩) (low zs K k).length cp) (IVs (low zs K k)) wx) /\ Below (w.heap.size + 1) (w.alloc (.cells #[.int .i64 (K : Int),.int .i64 (N : Int)] 23)) wx)
 case atStart=>exact ⟨0,w.heap.size + 1,K,by omega,rfl,by simp [low],by simpa [low] using HO,bB⟩
 case round =>
  obtain ⟨k,gg,cp,hkg,rfl,rfl,hOk,hb⟩:=hrel
  clear HO bB c0 c1 hmk
  have hBw : Below w.heap.size w wr:=bA.trans (hb.mono (by omega))
  have hbx:=HB.out.below hb (by omega)
  have hll:=low_le zs K k
  cases gk with
  | zero =>
   have hz1 : ¬ ((k : Int) < (N : Int)):=by omega
   have hkn : k = N:=by omega
   have HF : Hid (Owns 3 w.heap.size (.slice (some ⟨gg,0,none⟩) (low zs K k).length cp) (IVs (low zs K N)) wr):=by
    have:=hOk.out.mono (show w.heap.size <= w.heap.size + 1 by omega)
    unfold Hid; rw [hkn] at this ⊢; exact this
   generalize (low zs K k).length = ll at *
   clear hOk hkn
   go_wp2_with fail
   go_ret
   exact ⟨_,rfl,HF.out,hBw⟩
  | succ g1 =>
   have hz1 : (k : Int) < (N : Int):=by omega
   have c0 : wr.cell? ⟨w.heap.size,0,none⟩ = some (.int .i64 (K : Int)):=hbx.cell 0
   obtain ⟨c,hlook⟩:=(HPm.out.below hBw).look (z:=(k : Int)) ⟨by omega,by omega⟩
   have hII : decide (∃ j,j < zs.length /\ zs.getD j 0 = (k : Int)) = inZ zs k:=by rw [HI.out]
   rw [hII] at hlook
   cases hin : inZ zs k with
   | false =>
    rw [hin] at hlook
    have HL:=hid (low_out (K:=K) hin)
    have HO' : Hid (Owns 3 (w.heap.size + 1) (.slice (some ⟨gg,0,none⟩) (low zs K (k + 1)).length cp) (IVs (low zs K (k + 1))) wr):=by unfold Hid; rw [HL.out]; exact hOk.out
    have hle : (low zs K (k + 1)).length = (low zs K k).length:=by rw [HL.out]
    have HLE:=hid hle
    generalize hq : (low zs K k).length = ll at *
    clear hOk hle hin
    go_wp2_with fail
    go_roundg g1
    case measure=>omega
    case rel=>exact ⟨k + 1,gg,cp,by omega,by first | rfl | simp,by rw [HLE.out],HO',hb⟩
   | true =>
    rw [hin] at hlook
    by_cases hlt : (low zs K k).length < K
    ·have HL:=hid (low_in hin hlt)
     have HLL : Hid ((low zs K (k + 1)).length = (low zs K k).length + 1):=by unfold Hid; rw [HL.out]; simp
     have d1 : decide (((low zs K k).length : Int) < (K : Int)) = true:=by simp; omega
     have HOa : Hid (∀ ob,Owns 3 (w.heap.size + 1) (.slice (some ⟨gg,0,none⟩) (low zs K k).length cp) (IVs (low zs K k)) (wr.alloc ob) /\ w.heap.size + 1 <= (wr.alloc ob).heap.size /\ Below (w.heap.size + 1) (w.alloc (.cells #[.int .i64 (K : Int),.int .i64 (N : Int)] 23)) (wr.alloc ob)):=fun ob =>
      ⟨hOk.out.alloc ob,by have:=hb.size; simp at this ⊢; omega,hb.alloc (by have:=hb.size; simp at this; omega) ob⟩
     have hl1 : (low zs K k).length + 1 <= 1000000:=by omega
     clear hOk hin
     generalize hq : (low zs K k).length = ll at *
     have HQ:=hid hq
     clear hq
     go_wp2_with (refine wpList_appI rfl (.tmp 31) (.tmp 33) rfl (w.heap.size + 1) _ (low zs K k) k (ll + 1) rfl (by exact (HOa.out _).1) wr.heap.size 1 rfl (by exact Has.new _ _ _ _ rfl) (by rw [HQ.out]) (by omega) (by exact (HOa.out _).2.1) ?_; intro g7 cap7 w7 ho7 hb7; rw [<- HL.out] at ho7; have HO7:=hid ho7; have hB7:=(HOa.out _).2.2.trans hb7; clear ho7 hb7)
     go_roundg g1
     case measure=>omega
     case rel=>exact ⟨k + 1,g7,cap7,by omega,by first | rfl | simp,by rw [HLL.out],by rw [HLL.out]; exact HO7,hB7⟩
    ·have HL:=hid (low_full hlt)
     have HO' : Hid (Owns 3 (w.heap.size + 1) (.slice (some ⟨gg,0,none⟩) (low zs K (k + 1)).length cp) (IVs (low zs K (k + 1))) wr):=by unfold Hid; rw [HL.out]; exact hOk.out
     have hle : (low zs K (k + 1)).length = (low zs K k).length:=by rw [HL.out]
     have HLE:=hid hle
     have d1 : decide (((low zs K k).length : Int) < (K : Int)) = false:=by simp; omega
     generalize hq : (low zs K k).length = ll at *
     clear hOk hle hin
     go_wp2_with fail
     go_roundg g1
     case measure=>omega
     case rel=>exact ⟨k + 1,gg,cp,by omega,by first | rfl | simp,by rw [HLE.out],HO',hb⟩
end Go.Proofs.YteapbbaollmniaaGreatDoor.C
/- The blob that stands behind its length; how long payloads may be. -/
namespace Go.Proofs.YteapbbaollmniaaGreatDoor.C
open Go.RowKit
set_option maxRecDepth 20000 in
theorem or_next {n d : Nat} (hn : n < 72057594037927936) (hd : d < 256) : bits .or .u64 ((n : Int) * 256) (d : Int) = ((n * 256 + d : Nat) : Int):=by
 have h1 : n * 256 < 18446744073709551616:=by omega
 have h2 : n * 256 + d < 18446744073709551616:=by omega
 have hd2 : d < 18446744073709551616:=by omega
 have e : n * 256 ||| d = n * 256 + d:=by
  have:=Nat.shiftLeft_add_eq_or_of_lt (i:=8) (b:=d) (show d < 2 ^ 8 from hd) n
  rw [Nat.shiftLeft_eq] at this
  exact this.symm
 rw [show ((n : Int) * 256) = ((n * 256 : Nat) : Int) by simp]
 show IntKind.u64.wrap ((BitVec.ofInt 64 ((n * 256 : Nat) : Int) ||| BitVec.ofInt 64 (d : Int)).toNat : Int) = _
 rw [BitVec.toNat_or,BitVec.ofInt_natCast,BitVec.ofInt_natCast,BitVec.toNat_ofNat,BitVec.toNat_ofNat,show (2 : Nat) ^ 64 = 18446744073709551616 from rfl,Nat.mod_eq_of_lt h1,Nat.mod_eq_of_lt hd2,e]
 simp [IntKind.wrap,IntKind.bits,IntKind.signed]; omega
set_option maxRecDepth 20000 in
theorem blobOf_any (g M : Nat) (D : Nat -> Nat) (w : World) (hG : Has w g (U8s (rowN M D)) 5) (hD : ∀ i,D i < 256) (hM : 8 <= M) (hM6 : M <= 1000000) :
  Calls Tryz.prog 130 #[.slice (some ⟨g,0,none⟩) M M] w fun e w'=>w' = w /\ if num D 8 <= M - 8 then e = .returned (.tuple #[.string (ofBs (rowN (num D 8) (fun i=>D (8 + i)))),.bool true]) else e = .returned (.tuple #[.string ⟨#[]⟩,.bool false]):=by
 have d8 : (8 : Int) <= (M : Int):=by omega
 have hcell : Hid (∀ i,i < M -> w.cell? ⟨g,i,none⟩ = some (.int .u8 (D i : Int))):=fun i hi=>by
  rw [hG.cell,U8s_get _ _ (by rw [rowN_length]; exact hi),rowN_get _ _ _ hi]
 have HD:=hid hD
 have hgl:=hG.lt
 have hM0 : ¬ M = 0:=by omega
 clear hG hD
 go_enter Tryz.func130,Tryz.ntmps130
 go_wp2_with fail
 go_loopg [4,11] 8 (fun g1 s4 s11 wx=>∃ k : Nat,k + g1 = 8 /\ s11 = .int .i64 (k : Int) /\ s4 = .int .u64 ((num D k : Nat) : Int) /\ wx = w)
 case atStart=>exact ⟨0,by omega,rfl,rfl,rfl⟩
 case round =>
  obtain ⟨k,hkg,rfl,rfl,rfl⟩:=hrel
  cases gk with
  | zero =>
   obtain rfl : k = 8:=by omega
   obtain ⟨o',ho'⟩ : ∃ o' : Nat,Hid (o' = if M = 8 then 0 else 8):=⟨if M = 8 then 0 else 8,hid rfl⟩
   have hif : (if M = 8 then some (⟨g,0,none⟩ : Addr) else some ⟨g,8,none⟩) = some ⟨g,o',none⟩:=by
    rw [ho'.out]; split <;> rfl
   have hL:=num_lt HD.out 8
   simp only [Nat.reducePow] at hL
   have ew : IntKind.u64.wrap ((M - 8 : Nat) : Int) = ((M - 8 : Nat) : Int):=by simp [IntKind.wrap,IntKind.bits,IntKind.signed]; omega
   by_cases hle : num D 8 <= M - 8
   ·have HRw : Hid (∀ c,Row8 wr (.slice (some ⟨g,o',none⟩) (num D 8) c) (rowN (num D 8) (fun i=>D (8 + i)))):=fun c=>by
     refine ⟨_,c,by rw [rowN_length],by rw [rowN_length]; omega,rowN_lt (fun j=>HD.out _),fun hp=>⟨g,o',rfl,hgl,fun t ht=>?_⟩⟩
     rw [rowN_length] at ht hp
     have h8 : ¬ M = 8:=by omega
     rw [ho'.out,if_neg h8,hcell.out (8 + t) (by omega),rowN_get _ _ _ ht]
    have hcv:=conv_row (HRw.out (M - 8))
    have d1 : ¬ ((((M - 8 : Nat) : Int)) < ((num D 8 : Nat) : Int)):=by omega
    have d2 : ((num D 8 : Nat) : Int) <= ((M - 8 : Nat) : Int):=by omega
    clear HRw
    go_wp2_with fail
    go_ret2
    first | exact ⟨rfl,rfl⟩ | exact ⟨rfl,by rw [if_pos hle]; rfl⟩
   ·have d1 : (((M - 8 : Nat) : Int)) < ((num D 8 : Nat) : Int):=by omega
    go_wp2_with fail
    go_ret2
    first | exact ⟨rfl,rfl⟩ | exact ⟨rfl,by rw [if_neg hle]; rfl⟩
  | succ g1 =>
   have hz1 : (k : Int) < 8:=by omega
   have q0:=hcell.out k (by omega)
   have hk:=HD.out k
   have hn:=num_lt HD.out k
   have HN : Hid (num D (k + 1) = num D k * 256 + D k):=rfl
   generalize D k = dk at *
   generalize num D k = nk at *
   have hn8 : nk < 72057594037927936:=Nat.lt_of_lt_of_le hn (Nat.pow_le_pow_right (n:=256) (j:=7) (by decide) (by omega))
   have hor:=or_next hn8 hk
   have HN' : Hid (((nk * 256 + dk : Nat) : Int) = ((num D (k + 1) : Nat) : Int)):=by unfold Hid; rw [HN.out]
   rw [HN'.out] at hor
   go_wp2_with fail
   go_roundg g1
   case measure=>omega
   case rel=>exact ⟨k + 1,by omega,by first | rfl | simp,rfl,rfl⟩
/-- may these be as long as they are? -/
def mayL (K : Nat) (ps : List (List Nat)) : Bool:=decide (sz K 0 <= (ps.getD 0 []).length /\ (ps.getD 0 []).length <= sz K 32768 /\ ∀ j,j < ps.length -> (ps.getD j []).length = (ps.getD 0 []).length)
set_option maxRecDepth 20000 in
theorem mayLengths_any (K N : Nat) (vp : Value) (ps : List (List Nat)) (w : World) (h1 : 1 <= K) (h2 : K <= N) (h3 : N <= 12) (hp : Strs w vp ps) (hne : 0 < ps.length) :
  Calls Tryz.prog 128 #[cv K N,vp] w fun e w'=>e = .returned (.bool (mayL K ps)) /\ Below w.heap.size w w':=by
 have hm : Mx.mayC K N = true:=by unfold Mx.mayC; simp; omega
 obtain ⟨g,o,cap,rfl,hl,hg,hc⟩:=hp.some hne
 have bA : Below w.heap.size w (w.alloc (.cells #[.int .i64 (K : Int),.int .i64 (N : Int)] 23)):=(Below.refl _ _).alloc (Nat.le_refl _) _
 have hbox : Has (w.alloc (.cells #[.int .i64 (K : Int),.int .i64 (N : Int)] 23)) w.heap.size #[.int .i64 (K : Int),.int .i64 (N : Int)] 23:=Has.new w w.heap.size _ 23 rfl
 have HS0 : Hid (∀ W,Calls Tryz.prog 108 #[.agg #[.int .i64 (K : Int),.int .i64 (N : Int)],.int .i64 0] W fun e w'=>e = .returned (.tuple #[.int .i64 ((sz K 0 : Nat) : Int),.int .i64 0]) /\ Below W.heap.size W w'):=fun W=>by
  have:=size_any K N 0 W
  have e : ansZ K N 0 = ((sz K 0 : Nat) : Int) /\ errZ K N 0 = 0:=by unfold ansZ errZ; rw [hm]; simp
  rw [e.1,e.2] at this; exact this
 have HS1 : Hid (∀ W,Calls Tryz.prog 108 #[.agg #[.int .i64 (K : Int),.int .i64 (N : Int)],.int .i64 32768] W fun e w'=>e = .returned (.tuple #[.int .i64 ((sz K 32768 : Nat) : Int),.int .i64 0]) /\ Below W.heap.size W w'):=fun W=>by
  have:=size_any K N 32768 W
  have e : ansZ K N 32768 = ((sz K 32768 : Nat) : Int) /\ errZ K N 32768 = 0:=by unfold ansZ errZ; rw [hm]; simp
  rw [e.1,e.2] at this; exact this
 have hsz : ∀ l : List Nat,(ofBs l).size = l.length:=ofBs_size
 have HCl : Hid (∀ W,Below w.heap.size w W -> ∀ j,j < ps.length -> W.cell? ⟨g,o + j,none⟩ = some (.string (ofBs (ps.getD j [])))):=fun W hW j hj=>cell_below hW hg (hc j hj)
 have HM : Hid (mayL K ps = decide (sz K 0 <= (ps.getD 0 []).length /\ (ps.getD 0 []).length <= sz K 32768 /\ ∀ j,j < ps.length -> (ps.getD j []).length = (ps.getD 0 []).length)):=rfl
 have HB:=hid hbox
 clear hc hp hbox hm
 obtain ⟨s0,hs0⟩ : ∃ s0,Hid (s0 = sz K 0):=⟨_,rfl⟩
 obtain ⟨s1,hs1⟩ : ∃ s1,Hid (s1 = sz K 32768):=⟨_,rfl⟩
 rw [<- hs0.out] at HS0 HM
 rw [<- hs1.out] at HS1 HM
 generalize hn : ps.length = n at *
 have hz0 : (0 : Int) < (n : Int):=by omega
 unfold cv
 go_enter Tryz.func128,Tryz.ntmps128
 go_wp2_with fail
 refine (HS0.out _).mono ?_
 rintro e w1 ⟨rfl,b1⟩
 have B1:=belowCall bA b1
 have hb1:=HB.out.below b1 (by simp)
 have hbl:=hb1.lt
 have c0 : w1.cell? ⟨w.heap.size,0,none⟩ = some (.int .i64 (K : Int)):=hb1.cell 0
 have c1 : w1.cell? ⟨w.heap.size,1,none⟩ = some (.int .i64 (N : Int)):=hb1.cell 1
 clear b1
 go_wp2_with fail
 refine (HS1.out _).mono ?_
 rintro e w2 ⟨rfl,b2⟩
 have B2:=belowCall B1 b2
 have q0:=HCl.out w2 B2 0 (by omega)
 rw [Nat.add_zero] at q0
 clear c0 c1 b2 hb1 B1
 obtain ⟨p0,hp0⟩ : ∃ p0,Hid (p0 = ps.getD 0 []):=⟨_,rfl⟩
 rw [<- hp0.out] at q0 HM
 have hq:=hsz p0
 by_cases hA : s0 <= p0.length /\ p0.length <= s1
 ·have d1 : decide ((p0.length : Int) < (s0 : Int)) = false:=by simp; omega
  have d2 : decide ((s1 : Int) < (p0.length : Int)) = false:=by simp; omega
  go_wp2_with fail
  go_loopg [36] n (fun g1 s36 wx=>∃ k : Nat,k + g1 = n /\ s36 = .int .i64 (k : Int) /\ Hid (∀ j,j < k -> (ps.getD j []).length = p0.length) /\ wx = w2)
  case atStart=>exact ⟨0,by omega,rfl,fun j hj=>absurd hj (by omega),rfl⟩
  case round =>
   obtain ⟨k,hkg,rfl,hj,rfl⟩:=hrel
   cases gk with
   | zero =>
    have hz1 : ¬ ((k : Int) < (n : Int)):=by omega
    have hr : mayL K ps = true:=by rw [HM.out,decide_eq_true_iff]; exact ⟨hA.1,hA.2,fun j hjn=>hj.out j (by omega)⟩
    clear hj q0
    go_wp2_with fail
    go_ret
    exact ⟨by first | rfl | (rw [hr]; rfl),B2⟩
   | succ g1 =>
    have hz1 : (k : Int) < (n : Int):=by omega
    have qk:=HCl.out wr B2 k (by omega)
    obtain ⟨pk,hpk⟩ : ∃ pk,Hid (pk = ps.getD k []):=⟨_,rfl⟩
    rw [<- hpk.out] at qk
    have hqk:=hsz pk
    clear q0
    by_cases he : pk.length = p0.length
    ·have e0 : ((pk.length : Int) != (p0.length : Int)) = false:=by rw [he]; simp
     have hj' : Hid (∀ j,j < k + 1 -> (ps.getD j []).length = p0.length):=fun j hjk=>by
      by_cases hlt : j < k
      ·exact hj.out j hlt
      ·obtain rfl : j = k:=by omega
       rw [<- hpk.out]; exact he
     clear hj he
     go_wp2_with fail
     go_roundg g1
     case measure=>omega
     case rel=>exact ⟨k + 1,by omega,by first | rfl | simp,hj',rfl⟩
    ·have e0 : ((pk.length : Int) != (p0.length : Int)) = true:=by simp; omega
     have hr : mayL K ps = false:=by rw [HM.out,decide_eq_false_iff_not]; exact fun hh=>he (by rw [hpk.out]; exact hh.2.2 k (by omega))
     clear hj he
     go_wp2_with fail
     go_ret
     exact ⟨by first | rfl | (rw [hr]; rfl),B2⟩
 ·have hr : mayL K ps = false:=by rw [HM.out,decide_eq_false_iff_not]; exact fun hh=>hA ⟨hh.1,hh.2.1⟩
  by_cases h5 : p0.length < s0
  ·have d1 : decide ((p0.length : Int) < (s0 : Int)) = true:=by simp; omega
   go_wp2_with fail
   go_ret
   exact ⟨by first | rfl | (rw [hr]; rfl),B2⟩
  ·have d1 : decide ((p0.length : Int) < (s0 : Int)) = false:=by simp; omega
   have d2 : decide ((s1 : Int) < (p0.length : Int)) = true:=by simp; omega
   go_wp2_with fail
   go_ret
   exact ⟨by first | rfl | (rw [hr]; rfl),B2⟩
end Go.Proofs.YteapbbaollmniaaGreatDoor.C
