/- All rows but one are handed on; rows move down by one. -/
import Derived.Test.YteapbbaollmniaaGreatDoorCRow
import Derived.Deep.LoopGhost
namespace Go.Proofs.YteapbbaollmniaaGreatDoor.C
open Go.RowKit
theorem takeOff_any (F gd W cap c : Nat) (w : World) :
  Calls Tryz.prog 233 #[.pointer (some ⟨F,0,none⟩),.slice (some ⟨gd,0,none⟩) W cap,.int .i64 (c : Int)] w fun e w'=>∃ bc br bf,e = .returned (.func (.func 242) #[] #[.pointer (some ⟨bc,0,none⟩),.pointer (some ⟨br,0,none⟩),.pointer (some ⟨bf,0,none⟩)]) /\
   w.heap.size <= bc /\ w.heap.size <= br /\ w.heap.size <= bf /\ Has w' bc #[.int .i64 (c : Int)] 3 /\ Has w' br #[.slice (some ⟨gd,0,none⟩) W cap] 136 /\ Has w' bf #[.pointer (some ⟨F,0,none⟩)] 232 /\ Below w.heap.size w w':=by
 have hmf : ∀ (fn : Fn) (first cap : Array Value) (w : World),(Instr.makeFunc fn first cap).run Tryz.prog w = .ok (.func fn first cap) w:=fun _ _ _ _=>rfl
 go_enter Tryz.func233,Tryz.ntmps233
 go_wp2_with fail
 go_ret
 refine ⟨_,_,_,rfl,by omega,by omega,by omega,Has.new _ _ _ _ (by simp),(Has.new _ _ _ _ (by simp)).alloc _,((Has.new w _ _ _ rfl).alloc _).alloc _,?_⟩
 exact (((Below.refl _ _).alloc (Nat.le_refl _) _).alloc (by simp) _).alloc (by simp; omega) _
theorem offT_row (d c k : Nat) (f : El.M) : ∀ j,El.offT d c k f k j = f k j:=fun j=>by unfold El.offT; rw [if_neg (by omega)]
theorem offT_d (d c k : Nat) (f : El.M) : ∀ j,El.offT d c k f d j = f d j:=fun j=>by unfold El.offT; rw [if_neg (by omega)]
theorem offT_more (d c k m : Nat) (f : El.M) (hm : m ≠ k) : ∀ j,El.offT d c (k + 1) f m j = El.offT d c k f m j:=fun j=>by
 unfold El.offT
 by_cases h : m < k /\ m ≠ d
 ·rw [if_pos h,if_pos ⟨by omega,h.2⟩]
 ·rw [if_neg h,if_neg (by omega)]
theorem offT_new (d c k W : Nat) (f : El.M) (hk : k ≠ d) (hz : ∀ j,j < c -> f d j = 0) : ∀ j,j < W -> El.offT d c (k + 1) f k j = offTo (f k) (f d) c (f k c) W j:=fun j hj=>by
 unfold El.offT offTo
 rw [if_pos ⟨by omega,hk⟩]
 by_cases hc : c <= j
 ·rw [if_pos ⟨hc,hj⟩,Fld.mul_comm]
 ·rw [if_neg (by omega),hz j (by omega),Fld.mul_zero,Nat.xor_zero]
set_option maxRecDepth 20000 in
theorem eachOther_any (base top T R W cap c d F gd cap' bc br bf : Nat) (f : El.M) (w : World) (h : MW base top T R (fun _=>W) f w) (hd : d < R) (hc : c < W) (hR : R <= 1000000) (hz : ∀ j,j < c -> f d j = 0)
  (hF : Has w F FC 261) (hbc : Has w bc #[.int .i64 (c : Int)] 3) (hbr : Has w br #[.slice (some ⟨gd,0,none⟩) W cap'] 136) (hbf : Has w bf #[.pointer (some ⟨F,0,none⟩)] 232) (t1 : top <= F) (t2 : top <= bc) (t3 : top <= br) (t4 : top <= bf)
  (hgd : w.cell? ⟨T,d,none⟩ = some (.slice (some ⟨gd,0,none⟩) W cap')) :
  Calls Tryz.prog 232 #[.slice (some ⟨T,0,none⟩) R cap,.int .i64 (d : Int),.func (.func 242) #[] #[.pointer (some ⟨bc,0,none⟩),.pointer (some ⟨br,0,none⟩),.pointer (some ⟨bf,0,none⟩)]] w fun e w'=>e = .returned (.tuple #[]) /\ MW base top T R (fun _=>W) (El.offT d c R f) w' /\ Keeps base top w w':=by
 have HM : Hid (MW base top T R (fun _=>W) (El.offT d c 0 f) w):=by rw [El.offT_zero]; exact h
 have hbt : base <= top:=Nat.le_trans h.1 (Nat.le_of_lt h.2.1)
 have hT : T < top:=h.2.1
 clear h
 go_enter Tryz.func232,Tryz.ntmps232
 go_wp2_with fail
 go_loopw [10] (fun vi wr=>∃ k : Nat,k <= R /\ vi = .int .i64 (k : Int) /\ Hid (MW base top T R (fun _=>W) (El.offT d c k f) wr) /\ Keeps base top w wr /\ wr.cell? ⟨T,d,none⟩ = some (.slice (some ⟨gd,0,none⟩) W cap')) (fun vi _=>R - (intOf vi).toNat)
 case atStart=>exact ⟨0,by omega,rfl,HM,Keeps.refl _ _ _,hgd⟩
 case round =>
  obtain ⟨k,hk,rfl,hM,hK,hTd⟩:=hrel
  clear HM hgd
  by_cases hlt : k < R
  ·obtain ⟨g,cp,q1,q2,q3,q4,q5,q6,q7⟩:=hM.out.row k hlt (by omega)
   have d0 : (k : Int) < (R : Int):=by omega
   by_cases hkd : k = d
   ·have e0 : ((k : Int) != (d : Int)) = false:=by simp; omega
    have hM' : Hid (MW base top T R (fun _=>W) (El.offT d c (k + 1) f) wr):=by rw [El.offT_succ,if_pos hkd]; exact hM.out
    clear q5 q7
    go_wp2_with fail
    exact ⟨⟨k + 1,by omega,by simp [hkd],hM',hK,hTd⟩,by simp [intOf]; omega⟩
   ·have e0 : ((k : Int) != (d : Int)) = true:=by simp; omega
    obtain ⟨g2,cp2,p1,p2,p3,p4,p5,p6,p7⟩:=hM.out.row d hd (by omega)
    have hgg : g ≠ g2:=hM.out.two k d hlt hd hkd (by show 0 < W; omega) (by show 0 < W; omega) q1 p1
    have hge : g2 = gd:=by
     rw [hTd] at p1
     simp only [Option.some.injEq,Value.slice.injEq,Addr.mk.injEq] at p1
     omega
    subst hge
    have hr : RowW wr g W (f k):=q5.congr fun j _=>(offT_row d c k f j).symm
    have hs : RowW wr g2 W (f d):=p5.congr fun j _=>(offT_d d c k f j).symm
    have HC:=takeOff1_any F g g2 W cp cap' c bc br bf (f k) (f d) wr (hK.has hF t1) (hK.has hbc t2) (hK.has hbr t3) (hK.has hbf t4) hr hs q6 hc (by omega) (Ne.symm hgg) (by omega) (by omega) (by omega)
    have HQ : Hid (∀ W',RowW W' g W (offTo (f k) (f d) c (f k c) W) -> Keeps g (g + 1) wr W' -> MW base top T R (fun _=>W) (El.offT d c (k + 1) f) W' /\ Keeps base top w W' /\ W'.cell? ⟨T,d,none⟩ = some (.slice (some ⟨g2,0,none⟩) W cap')):=fun W' h1 h2=>by
     refine ⟨q7 W' _ (h1.congr (offT_new d c k W f hkd hz)) h2 (fun m _ hmk j _=>offT_more d c k m f hmk j),hK.trans (h2.mono q2 (by omega)),?_⟩
     have hTl : T < wr.heap.size:=World.block_lt_of_cell? (h:=hTd)
     by_cases hl : T < g
     ·rw [cell_of (h2.1.block T hl)]; exact hTd
     ·rw [cell_of (h2.2 T (by omega) hTl)]; exact hTd
    clear q5 q7 p5 p7 hr hs p1 hM
    go_wp2_with fail
    refine HC.mono ?_
    rintro e w1 ⟨rfl,h1,h2⟩
    obtain ⟨a1,a2,a3⟩:=HQ.out w1 h1 h2
    have A1 : Hid _:=a1
    clear a1 HC h1
    go_wp2_with fail
    exact ⟨⟨k + 1,by omega,rfl,A1,a2,a3⟩,by simp [intOf]; omega⟩
  ·obtain rfl : k = R:=by omega
   go_wp2_with fail
   go_end0
   exact ⟨rfl,hM.out,hK⟩
theorem setCells_cell {b : Nat} : ∀ (vs : List Value) (o : Nat) (w : World),(∀ j,j < vs.length -> (w.cell? ⟨b,o + j,none⟩).isSome = true) -> ∀ k,(w.setCells b o vs).cell? ⟨b,k,none⟩ = if o <= k /\ k < o + vs.length then vs[k - o]? else w.cell? ⟨b,k,none⟩
 | [],o,w,_,k=>by rw [if_neg (by simp only [List.length_nil]; omega)]; rfl
 | v :: vs,o,w,h,k=>by
  rw [World.setCells]
  obtain ⟨u,hu⟩:=Option.isSome_iff_exists.1 (h 0 (by simp))
  rw [Nat.add_zero] at hu
  have hk : ∀ j,(w.setCell ⟨b,o,none⟩ v).cell? ⟨b,j,none⟩ = if j = o then some v else w.cell? ⟨b,j,none⟩:=fun j=>by
   by_cases hj : j = o
   ·subst hj; rw [if_pos rfl,World.cell?_setCell_same _ _ _ hu]
   ·rw [if_neg hj,World.cell?_setCell_other _ _ _ _ (by simp only [ne_eq,Addr.mk.injEq]; omega)]
  rw [setCells_cell vs (o + 1) _ (fun j hj=>by
   rw [hk,if_neg (by omega)]
   have:=h (j + 1) (by simp; omega)
   rwa [show o + (j + 1) = o + 1 + j by omega] at this) k,hk]
  by_cases h1 : k = o
  ·subst h1
   rw [if_neg (by omega),if_pos rfl,if_pos (by simp)]; simp
  ·by_cases h2 : o + 1 <= k /\ k < o + 1 + vs.length
   ·rw [if_pos h2,if_pos (by simp; omega),show k - o = (k - (o + 1)) + 1 by omega,List.getElem?_cons_succ]
   ·rw [if_neg h2,if_neg h1,if_neg (by simp; omega)]
theorem setCells_frozen {b : Nat} (a : Addr) : ∀ (vs : List Value) (o : Nat) (w : World),(w.setCells b o vs).frozen? a = w.frozen? a
 | [],_,_=>rfl
 | v :: vs,o,w=>by rw [World.setCells,setCells_frozen a vs (o + 1),World.frozen?_setCell]
theorem setCells_heap {b k : Nat} (hk : k ≠ b) : ∀ (vs : List Value) (o : Nat) (w : World),(w.setCells b o vs).heap[k]? = w.heap[k]?
 | [],_,_=>rfl
 | v :: vs,o,w=>by rw [World.setCells,setCells_heap hk vs (o + 1),setCell_other hk]
theorem setCells_size {b : Nat} : ∀ (vs : List Value) (o : Nat) (w : World),(w.setCells b o vs).heap.size = w.heap.size
 | [],_,_=>rfl
 | v :: vs,o,w=>by rw [World.setCells,setCells_size vs (o + 1)]; simp [World.setCell]
/-- rows are copied one place on -/
theorem wpList_copyDown {ops : Array Oper} {rest : List Oper} {o : Oper} {a : Act} {w : World} {Q : Exit -> Act -> World -> Prop} (hgd : o.guard = none) (dx sx : Operand)
  (ho : o.op = .call { callee:=.builtin .copy,args:=#[dx,sx],argTypes:=#[166,166] }) (T d n dc sc : Nat) (dp : Option Addr) (cs : List Value) (hd : a.eval dx = .slice dp n dc) (hs : a.eval sx = .slice (some ⟨T,d,none⟩) (n + 1) sc) (hdp : 0 < n -> dp = some ⟨T,d + 1,none⟩)
  (hn : cs.length = n) (hsrc : ∀ j v,cs[j]? = some v -> w.cell? ⟨T,d + j,none⟩ = some v) (hc : ∀ j,j < n -> (w.cell? ⟨T,d + 1 + j,none⟩).isSome = true) (hf : ∀ j,j < n -> w.frozen? ⟨T,d + 1 + j,none⟩ = false) (h1 : ∀ v ∈ cs,v.oneCell' = true)
  (h : wpList Tryz.prog ops Q rest (a.put o.dst (goInt n)) (w.setCells T (d + 1) cs)) : wpList Tryz.prog ops Q (o :: rest) a w:=by
 by_cases h0 : n = 0
 ·subst h0
  obtain rfl : cs = []:=List.eq_nil_of_length_eq_zero hn
  exact wpList_copy_nothing hgd dx sx 166 166 ho 136 Tryz.underlying166 (by kernel_rfl) dp _ 0 dc _ sc hd hs (Nat.min_zero _) h
 ·obtain rfl:=hdp (by omega)
  refine wpList_plain hgd fun K hK=>?_
  have hrun:=run_copy_cells (P:=Tryz.prog) w 166 166 o.type 136 T (d + 1) n dc ⟨T,d,none⟩ (n + 1) sc cs Tryz.underlying166 (by kernel_rfl) (by rw [hn]; exact (Nat.min_eq_right (by omega)).symm)
   (fun j v hv=>by rw [Addr.add_mid]; exact hsrc j v hv) (fun j hj=>hc j (by omega)) (fun j hj=>hf j (by omega)) h1
  rw [hn] at hrun
  unfold Oper.wp
  simp [execOp,ho,resolve,invoke,builtin,hd,hs,hrun,Result.andThen]
  exact hK _ _ h
set_option maxRecDepth 20000 in
theorem raise_any (base top T R W d n cap : Nat) (f : El.M) (w : World) (h : MW base top T R (fun _=>W) f w) (hp : d + n < R) (hR : R <= 1000000) (hcap : n + 1 <= cap) (_hcap2 : cap <= 1000000) :
  Calls Tryz.prog 230 #[.slice (some ⟨T,d,none⟩) (n + 1) cap] w fun e w'=>e = .returned (.tuple #[]) /\ MW base top T R (fun _=>W) (El.raiseF d (d + n) f) w' /\ Keeps base top w w':=by
 have HM : Hid (MW base top T R (fun _=>W) f w):=h
 obtain ⟨h1,h2,h3,B,h4⟩:=h
 have hcell : ∀ i,i < R -> ∃ v,w.cell? ⟨T,i,none⟩ = some v /\ v.oneCell' = true:=fun i hi=>by
  obtain ⟨_,_,a,c,k3,_,_⟩:=h4 i hi
  exact ⟨_,k3,rfl⟩
 have hfr : ∀ i,i < R -> w.frozen? ⟨T,i,none⟩ = false:=fun i hi=>(h4 i hi).1
 obtain ⟨_,_,al,cl,cp,_,_⟩:=h4 (d + n) hp
 obtain ⟨cs,hcs,hcj,hone⟩ : ∃ cs : List Value,cs.length = n /\ (∀ j,j < n -> cs[j]? = w.cell? ⟨T,d + j,none⟩) /\ ∀ v ∈ cs,v.oneCell' = true:=by
  refine ⟨(List.range n).map fun j=>(w.cell? ⟨T,d + j,none⟩).getD undef,by simp,fun j hj=>?_,fun v hv=>?_⟩
  ·obtain ⟨v,hv,_⟩:=hcell (d + j) (by omega)
   simp [hj,hv]
  ·simp only [List.mem_map,List.mem_range] at hv
   obtain ⟨j,hj,rfl⟩:=hv
   obtain ⟨v,hv,hv1⟩:=hcell (d + j) (by omega)
   rw [hv]; exact hv1
 have HS1 : Hid (∀ j v,cs[j]? = some v -> w.cell? ⟨T,d + j,none⟩ = some v):=fun j v hv=>by
  have hj : j < n:=by rw [<- hcs]; exact (List.getElem?_eq_some_iff.1 hv).1
  rw [<- hcj j hj]; exact hv
 have HS2 : Hid (∀ j,j < n -> (w.cell? ⟨T,d + 1 + j,none⟩).isSome = true):=fun j hj=>by
  obtain ⟨v,hv,_⟩:=hcell (d + 1 + j) (by omega)
  rw [hv]; rfl
 have HS3 : Hid (∀ j,j < n -> w.frozen? ⟨T,d + 1 + j,none⟩ = false):=fun j hj=>hfr _ (by omega)
 have HS4 : Hid (∀ v ∈ cs,v.oneCell' = true):=hone
 have hc1 : ∀ i,(w.setCells T (d + 1) cs).cell? ⟨T,i,none⟩ = if d + 1 <= i /\ i < d + 1 + cs.length then cs[i - (d + 1)]? else w.cell? ⟨T,i,none⟩:=setCells_cell cs (d + 1) w (fun j hj=>HS2.out j (by omega))
 obtain ⟨vd,hvd,_⟩:=hcell d (by omega)
 have k1 : (w.setCells T (d + 1) cs).cell? ⟨T,d,none⟩ = some vd:=by rw [hc1,if_neg (by omega)]; exact hvd
 have k2 : (w.setCells T (d + 1) cs).frozen? ⟨T,d,none⟩ = false:=by rw [setCells_frozen]; exact hfr d (by omega)
 have HE : Hid (MW base top T R (fun _=>W) (El.raiseF d (d + n) f) ((w.setCells T (d + 1) cs).setCell ⟨T,d,none⟩ (.slice al W cl)) /\ Keeps base top w ((w.setCells T (d + 1) cs).setCell ⟨T,d,none⟩ (.slice al W cl))):=by
  have hsz : ((w.setCells T (d + 1) cs).setCell ⟨T,d,none⟩ (.slice al W cl)).heap.size = w.heap.size:=by
   simp [World.setCell,setCells_size]
  refine ⟨HM.out.raise (by omega) hp (by omega) (fun i hi=>?_) (fun i hi=>by rw [World.frozen?_setCell,setCells_frozen]; exact hfr i hi) (fun b hb _=>by rw [setCell_other hb,setCells_heap hb]),?_⟩
  ·unfold El.was
   by_cases hi1 : i = d
   ·subst hi1; rw [if_pos rfl,World.cell?_setCell_same _ _ _ k1]; exact cp.symm
   ·rw [if_neg hi1,World.cell?_setCell_other _ _ _ _ (by simp <;> omega),hc1]
    by_cases hi2 : d < i /\ i <= d + n
    ·rw [if_pos hi2,if_pos (by omega),hcj _ (by omega)]; congr 2; omega
    ·rw [if_neg hi2,if_neg (by omega)]
  ·exact ⟨(below_setCells h1 cs (d + 1) (Below.refl _ _)).setCell h1 _,fun b hb _=>by rw [setCell_other (by omega),setCells_heap (by omega)]⟩
 have b0 : ((n : Int) + 1) - 1 = (n : Int):=by omega
 have b1 : (n : Int) < (n : Int) + 1:=by omega
 have b2 : (0 : Int) < (n : Int) + 1:=by omega
 clear hcell hfr hcj hone hc1 h4 HM hvd
 go_enter Tryz.func230,Tryz.ntmps230
 go_wp2_with (refine wpList_copyDown rfl (.tmp 10) (.tmp 11) rfl T d n _ _ _ cs rfl rfl ?hdp hcs HS1.out HS2.out HS3.out HS4.out ?_)
 all_goals first
  | (go_end0; exact ⟨rfl,HE.out.1,HE.out.2⟩)
  | omega
end Go.Proofs.YteapbbaollmniaaGreatDoor.C
/- stepDown: the rows stepped down by the first columns, and how many are done. -/
namespace Go.Proofs.YteapbbaollmniaaGreatDoor.C
open Go.RowKit
set_option maxRecDepth 20000 in
set_option maxHeartbeats 2000000 in
theorem stepDown_any (base T R W C : Nat) (f : El.M) (w : World) (h : MW base w.heap.size T R (fun _=>W) f w) (hb : El.Byt f) (hR0 : 0 < R) (hR : R <= 1000000) (hCW : C <= W) :
  Calls Tryz.prog 210 #[.slice (some ⟨T,0,none⟩) R R,.int .i64 (C : Int)] w fun e w'=>e = .returned (.int .i64 (((El.steps R f C).2 : Nat) : Int)) /\ MW base w.heap.size T R (fun _=>W) (El.steps R f C).1 w' /\ Below base w w':=by
 have hbt : base <= w.heap.size:=Nat.le_trans h.1 (Nat.le_of_lt h.2.1)
 have HI : Hid (∀ c,El.Inv R c (El.steps R f c)):=fun c=>El.inv_steps R f hb c
 have HM : Hid (MW base w.heap.size T R (fun _=>W) f w):=h
 have hTl : T < w.heap.size:=h.2.1
 have hW6 : W <= 1000000:=by
  obtain ⟨_,_,_,B,h4⟩:=h
  exact (h4 0 hR0).2.1
 clear h
 go_enter Tryz.func210,Tryz.ntmps210
 go_wp2_with fail
 go_step3
 go_wp2_with fail
 refine (new_any w).mono ?_
 rintro e w1 ⟨rfl,hF,b1⟩
 have HM1 : Hid (MW base w.heap.size T R (fun _=>W) (El.steps R f 0).1 w1):=HM.out.below b1
 have hs1 : w.heap.size <= w1.heap.size:=b1.size
 have hB1 : Below base w w1:=b1.mono hbt
 clear HM b1
 go_wp2_with fail
 go_step3
 go_wp2_with fail
 generalize hts : w.heap.size = top at *
 go_loopg [6,11] C (fun g s6 s11 wx=>∃ c : Nat,c + g = C /\ s11 = .int .i64 (c : Int) /\ s6 = .int .i64 (((El.steps R f c).2 : Nat) : Int) /\ (El.steps R f c).2 < R /\ Hid (MW base top T R (fun _=>W) (El.steps R f c).1 wx) /\ Keeps base top w1 wx)
 case atStart=>exact ⟨0,by omega,rfl,rfl,hR0,HM1,Keeps.refl _ _ _⟩
 case round =>
  obtain ⟨c,hcg,rfl,rfl,hdR,hM,hK⟩:=hrel
  have hInv:=HI.out c
  have HN : Hid (El.steps R f (c + 1) = El.step R c ((El.steps R f c).1,(El.steps R f c).2)):=rfl
  have HMs : Hid (MW base top T R (fun _=>W) (El.steps R f c).1 wr):=hM
  have HE : Hid (c = C -> ((((El.steps R f c).2 : Nat) : Int) = (((El.steps R f C).2 : Nat) : Int)) /\ MW base top T R (fun _=>W) (El.steps R f C).1 wr):=fun he=>by subst he; exact ⟨rfl,hM.out⟩
  have HZ : Hid (∀ i,(El.steps R f c).2 <= i -> i < R -> ∀ j,j < c -> (El.steps R f c).1 i j = 0):=hInv.zero
  have HBy : Hid (El.Byt (El.steps R f c).1):=hInv.byt
  clear hM hInv
  generalize hG : (El.steps R f c).1 = G at *
  generalize hd : (El.steps R f c).2 = d at *
  cases gk with
  | zero =>
   have hcz : ¬ ((c : Int) < (C : Int)):=by omega
   obtain ⟨E1,E2⟩:=HE.out (by omega)
   have E2' : Hid _:=E2
   clear E2 HE
   go_wp2_with fail
   (try rw [Exit.noGoto_ret])
   go_ret
   exact ⟨rfl,by rw [hts]; exact E2'.out,hB1.trans hK.1⟩
  | succ g =>
   have hcz : (c : Int) < (C : Int):=by omega
   obtain ⟨wo,hwo⟩ : ∃ wo,wo = wr:=⟨_,rfl⟩
   subst hwo
   go_wp2_with fail
   go_loopg [6,8] (R - d) (fun g2 s6 s8 wy=>∃ k : Nat,k + g2 = R /\ d <= k /\ s6 = .int .i64 (d : Int) /\ s8 = .int .i64 (k : Int) /\ Hid (∀ m,d <= m -> m < k -> G m c = 0) /\ wy = wo)
   case atStart=>exact ⟨d,by omega,Nat.le_refl _,rfl,rfl,fun m h1 h2=>absurd h2 (by omega),rfl⟩
   case round =>
    obtain ⟨k,hkg,hdk,rfl,rfl,hzero,rfl⟩:=hrel
    cases gk with
    | zero =>
     have hkz : ¬ ((k : Int) < (R : Int)):=by omega
     have HS : Hid (El.steps R f (c + 1) = (G,d)):=by
      unfold Hid; rw [HN.out]; exact El.step_none R c d G (by omega) (fun m h1 h2=>hzero.out m h1 (by omega))
     go_wp2_with fail
     go_roundg g
     case measure=>omega
     case rel=>exact ⟨c + 1,by omega,by first | rfl | simp,by rw [HS.out],by rw [HS.out]; exact hdR,by rw [HS.out]; exact HMs,hK⟩
    | succ g2 =>
     have hkz : (k : Int) < (R : Int):=by omega
     obtain ⟨g0,cp0,q1,q2,q3,q4,q5,q6,_⟩:=HMs.out.row k (by omega) (by omega)
     have q5':=(q5 c (by omega)).1
     have hcW : (c : Int) < (W : Int):=by omega
     by_cases hz : G k c = 0
     ·have z0 : ((G k c : Int) == 0) = true:=by rw [hz]; rfl
      have hzero' : Hid (∀ m,d <= m -> m < k + 1 -> G m c = 0):=fun m h1 h2=>by
       by_cases hmk : m = k
       ·subst hmk; exact hz
       ·exact hzero.out m h1 (by omega)
      clear q5 hz
      generalize G k c = x at *
      go_wp2_with fail
      go_roundg g2
      case measure=>omega
      case rel=>exact ⟨k + 1,by omega,by omega,rfl,by first | rfl | simp,hzero',rfl⟩
     ·have z0 : ((G k c : Int) == 0) = false:=by rw [beq_eq_false_iff_ne]; omega
      obtain ⟨n,hn⟩ : ∃ n,k = d + n:=⟨k - d,by omega⟩
      clear q5
      have HS : Hid (El.steps R f (c + 1) = (El.gone R d c k G,d + 1)):=by
       unfold Hid; rw [HN.out]; exact El.step_at R c d k G (by omega) hdk hzero.out hz
      generalize hx : G k c = x at *
      subst hn
      rw [show ((d + n : Nat) : Int) = (d : Int) + (n : Int) by omega] at *
      go_wp2_with fail
      rw [show d + n + 1 - d = n + 1 by omega]
      refine (raise_any base top T R W d n (R - d) G wr HMs.out (by omega) hR (by omega) (by omega)).mono ?_
      rintro e w2 ⟨rfl,hM2,hK2⟩
      have K2:=hK.trans hK2
      have hF2 : Hid (Has w2 top FC 261):=K2.has hF (Nat.le_refl _)
      have hne2 : El.raiseF d (d + n) G d c ≠ 0:=by rw [El.raise_at,hx]; omega
      obtain ⟨g3,cp3,r1,r2,r3,r4,r5,r6,r7⟩:=hM2.row d hdR (by omega)
      have HC3:=makeOne_any top g3 W cp3 c (El.raiseF d (d + n) G d) w2 hF2.out r5 r6 (by omega) hne2 (by omega)
      have HQ3 : Hid (∀ W',RowW W' g3 W (fun j=>Fld.mul (El.raiseF d (d + n) G d j) (Fld.inv (El.raiseF d (d + n) G d c))) -> Keeps g3 (g3 + 1) w2 W' -> MW base top T R (fun _=>W) (El.oneF d c (El.raiseF d (d + n) G)) W' /\ Keeps base top w1 W'):=fun W' h1 h2=>by
       refine ⟨r7 W' _ (h1.congr fun j _=>by unfold El.oneF; rw [if_pos rfl]) h2 (fun m _ hm j _=>by unfold El.oneF; rw [if_neg hm]),K2.trans (h2.mono r2 (by omega))⟩
      clear r5 r7 hM2 hK2 q1 q5' HMs
      go_wp2_with fail
      refine HC3.mono ?_
      rintro e w3 ⟨rfl,h31,h32⟩
      obtain ⟨hM3,K3⟩:=HQ3.out w3 h31 h32
      clear HC3 HQ3 h31 h32 r1
      obtain ⟨g4,cp4,s1,s2,s3,s4,s5,s6,s7⟩:=hM3.row d hdR (by omega)
      have HM3 : Hid (MW base top T R (fun _=>W) (El.oneF d c (El.raiseF d (d + n) G)) w3):=hM3
      clear s5 s7 hM3
      go_wp2_with fail
      refine (takeOff_any top g4 W cp4 c w3).mono ?_
      rintro e w4 ⟨bc,br,bf,rfl,t1,t2,t3,u1,u2,u3,b4⟩
      have hts3 : top <= w3.heap.size:=Nat.le_trans hs1 K3.1.size
      have hz4 : ∀ j,j < c -> El.oneF d c (El.raiseF d (d + n) G) d j = 0:=fun j hj=>by
       unfold El.oneF
       rw [if_pos rfl,El.raise_at,HZ.out (d + n) (by omega) (by omega) j hj,Fld.zero_mul]
      have K4 : Keeps base top w1 w4:=K3.trans (Keeps.ofBelow b4 (by omega))
      have HC5:=eachOther_any base top T R W R c d top g4 cp4 bc br bf (El.oneF d c (El.raiseF d (d + n) G)) w4 (HM3.out.below b4) hdR (by omega) hR hz4 (K4.has hF (Nat.le_refl _)) u1 u2 u3 (Nat.le_refl _) (by omega) (by omega) (by omega) (cell_below b4 (by omega) s1)
      clear u1 u2 u3 b4 s1
      go_wp2_with fail
      refine HC5.mono ?_
      rintro e w5 ⟨rfl,hM5,hK5⟩
      have HM5 : Hid (MW base top T R (fun _=>W) (El.gone R d c (d + n) G) w5):=hM5
      have K5:=K4.trans hK5
      clear HC5 hM5 hK5 HM3
      by_cases hfull : d + 1 = R
      ·have e0 : ((d : Int) + 1 == (R : Int)) = true:=by rw [beq_iff_eq]; omega
       have HF : Hid (El.steps R f C = (El.gone R d c (d + n) G,d + 1)):=by
        unfold Hid
        rw [show C = (c + 1) + g by omega,El.steps_stop R f (c + 1) (by rw [HS.out]; exact hfull),HS.out]
       go_wp2_with fail
       (try rw [Exit.noGoto_ret])
       go_ret
       exact ⟨by rw [HF.out]; simp,by rw [hts,HF.out]; exact HM5.out,hB1.trans K5.1⟩
      ·have e0 : ((d : Int) + 1 == (R : Int)) = false:=by rw [beq_eq_false_iff_ne]; omega
       go_wp2_with fail
       go_roundg g
       case measure=>omega
       case rel=>exact ⟨c + 1,by omega,by first | rfl | simp,by rw [HS.out]; simp,by rw [HS.out]; show d + 1 < R; omega,by rw [HS.out]; exact HM5,K5⟩
end Go.Proofs.YteapbbaollmniaaGreatDoor.C
/- The program's Down and Rank. -/
namespace Go.Proofs.YteapbbaollmniaaGreatDoor.C
open Go.RowKit
theorem hid {p : Prop} (h : p) : Hid p:=h
theorem mayM_facts {m : List (List Nat)} (h : mayM m = true) : 1 <= m.length /\ m.length <= 255 /\ 1 <= (m.getD 0 []).length /\ (m.getD 0 []).length <= 255 /\ ∀ j,j < m.length -> (m.getD j []).length = (m.getD 0 []).length:=of_decide_eq_true h
theorem Mat.rows {w : World} {v : Value} {m : List (List Nat)} (h : Mat w v m) : ∀ i x,x ∈ m.getD i [] -> x < 256:=fun i x hx=>by
 by_cases hi : i < m.length
 ·obtain ⟨_,_,_,_,_,_,k⟩:=h.some (by omega)
  obtain ⟨r,_,hr⟩:=k i hi
  exact hr.choose_spec.choose_spec.2.2.1 x hx
 ·rw [List.getD_eq_getElem?_getD,List.getElem?_eq_none (by omega)] at hx
  simp at hx
theorem Mat.byt {w : World} {v : Value} {m : List (List Nat)} (h : Mat w v m) : El.Byt (at2 m):=fun i j=>by
 unfold at2
 exact getD_lt (h.rows i) j
def sqM (m : List (List Nat)) : Bool:=mayM m && decide (m.length = (m.getD 0 []).length)
/-- a matrix that may be: where it lies -/
theorem Mat.first {w : World} {v : Value} {m : List (List Nat)} (h : Mat w v m) (hm : mayM m = true) : ∃ g o cap,v = .slice (.some ⟨g,o,none⟩) m.length cap /\ g < w.heap.size /\ (∃ a0 c0,w.cell? ⟨g,o,none⟩ = .some (.slice a0 (m.getD 0 []).length c0)) /\
  ∀ j,j < m.length -> ∃ r,w.cell? ⟨g,o + j,none⟩ = .some r /\ Row8 w r (m.getD j []):=by
 obtain ⟨f1,f2,f3,f4,f5⟩:=mayM_facts hm
 obtain ⟨g,o,cap,h1,h2,h3,h4⟩:=h.some (by omega)
 obtain ⟨r,h5,h6⟩:=h4 0 (by omega)
 obtain ⟨a0,c0,rfl,_⟩:=h6
 exact ⟨g,o,cap,h1,h3,⟨a0,c0,h5⟩,h4⟩
theorem maySquare_any (v : Value) (m : List (List Nat)) (w : World) (h : Mat w v m) :
  Calls Tryz.prog 194 #[v] w fun e w'=>e = .returned (.bool (sqM m)) /\ w' = w:=by
 have hM:=h
 cases hm : mayM m with
 | false =>
  have hr : sqM m = false:=by unfold sqM; rw [hm]; rfl
  rw [hr]
  go_enter Tryz.func194,Tryz.ntmps194
  go_wp2_with fail
  refine (may_any v m w hM).mono ?_
  rintro e w1 ⟨rfl,rfl⟩
  rw [hm]
  go_wp2_with fail
  go_ret
  exact ⟨rfl,rfl⟩
 | true =>
  obtain ⟨f1,f2,f3,f4,f5⟩:=mayM_facts hm
  obtain ⟨g,o,cap,rfl,hg,⟨a0,c0,k0⟩,_⟩:=h.first hm
  have hr : sqM m = decide (m.length = (m.getD 0 []).length):=by unfold sqM; rw [hm]; rfl
  rw [hr]
  clear hr f5
  generalize (m.getD 0 []).length = n0 at *
  generalize hn : m.length = n at *
  have b0 : (0 : Int) < (n : Int):=by omega
  have e0 : Hid (((n : Int) == (n0 : Int)) = decide (n = n0)):=beq_nat n n0
  go_enter Tryz.func194,Tryz.ntmps194
  go_wp2_with fail
  refine (may_any _ m w hM).mono ?_
  rintro e w1 ⟨rfl,rfl⟩
  rw [hm]
  go_wp2_with fail
  go_ret
  exact ⟨by rw [<- e0.out]; rfl,rfl⟩
theorem getD_left (l l' : List Nat) (d j : Nat) (h : j < l.length) : (l ++ l').getD j d = l.getD j d:=by
 rw [List.getD_eq_getElem?_getD,List.getElem?_append_left h,<- List.getD_eq_getElem?_getD]
theorem getD_right (l l' : List Nat) (d j : Nat) (h : l.length <= j) : (l ++ l').getD j d = l'.getD (j - l.length) d:=by
 rw [List.getD_eq_getElem?_getD,List.getElem?_append_right h,<- List.getD_eq_getElem?_getD]
def upTo (k W : Nat) : Nat -> Nat:=fun i=>if i < k then W else 0
end Go.Proofs.YteapbbaollmniaaGreatDoor.C
/- What the statements ask of a matrix: whether it is long; a copy of it; the same, and written over. -/
namespace Go.Proofs.YteapbbaollmniaaGreatDoor.C
open Go.RowKit
end Go.Proofs.YteapbbaollmniaaGreatDoor.C
/- The document's down. -/
namespace Go.Proofs.YteapbbaollmniaaGreatDoor.C
open Go.RowKit
end Go.Proofs.YteapbbaollmniaaGreatDoor.C
/- The document's May. -/
namespace Go.Proofs.YteapbbaollmniaaGreatDoor.C
open Go.RowKit
end Go.Proofs.YteapbbaollmniaaGreatDoor.C
