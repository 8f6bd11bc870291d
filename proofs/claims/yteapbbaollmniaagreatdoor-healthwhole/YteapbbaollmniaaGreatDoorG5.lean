/- Health: the iterator that tells the sound ones. -/
import Derived.Test.YteapbbaollmniaaGreatDoorG2
namespace Go.Proofs.YteapbbaollmniaaGreatDoor
open Go.RowKit Go.Maps
open W
set_option linter.unusedVariables false
/-- what a round is handed: a store's number, and a payload -/
abbrev Sn (n : Nat):={ p : Nat × ByteArray // p.1 < n }
def snV {n : Nat} (x : Sn n) : Array Value:=#[.int .i64 (x.1.1 : Int),.string x.1.2]
/-- the sound ones from i on: the store's number, and the payload -/
def gsnd : Nat -> List Gt -> List (Nat × ByteArray)
 | _,[]=>[]
 | i,x :: r=>(if x.sd then [(i,x.pl)] else []) ++ gsnd (i + 1) r
theorem gsnd_len : ∀ (i : Nat) (l : List Gt),(gsnd i l).length <= l.length
 | _,[]=>Nat.le_refl _
 | i,x :: r=>by
  have:=gsnd_len (i + 1) r
  unfold gsnd
  rw [List.length_append,List.length_cons]
  split <;> simp <;> omega
theorem gsnd_take (l : List Gt) : ∀ (k : Nat) (i : Nat) (x : Gt),l[k]? = some x -> gsnd i (l.take (k + 1)) = gsnd i (l.take k) ++ (if x.sd then [(i + k,x.pl)] else []):=by
 induction l with
 | nil=>intro k i x h; simp at h
 | cons y r ih =>
  intro k i x h
  cases k with
  | zero =>
   simp at h; subst h
   show gsnd i [y] = gsnd i [] ++ _
   simp [gsnd]
  | succ k =>
   have:=ih k (i + 1) x (by simpa using h)
   show gsnd i (y :: r.take (k + 1)) = gsnd i (y :: r.take k) ++ _
   unfold gsnd
   rw [this,show i + 1 + k = i + (k + 1) by omega,List.append_assoc]
theorem gsnd_pre (l : List Gt) (i k : Nat) : gsnd i (l.take k) <+: gsnd i l:=by
 induction l generalizing i k with
 | nil=>simp [gsnd]
 | cons y r ih =>
  cases k with
  | zero=>simp [gsnd]
  | succ k =>
   show gsnd i (y :: r.take k) <+: gsnd i (y :: r)
   unfold gsnd
   exact List.prefix_append_right_inj _ |>.2 (ih (i + 1) k)
set_option maxRecDepth 100000 in
set_option maxHeartbeats 4000000 in
theorem snd1_in (n l cb ga : Nat) (gs : List Gt) (hgs : gs.length <= 1000) (T : Nat -> Prop) (J Jx : List (Sn gs.length) -> World -> Prop) (B : Nat) (hJ : AbidesFrom B J)
  (hY : ∀ pre (x : Sn gs.length) W,J pre W -> pre.length < gs.length -> YieldAt Fence.wide (n - 1) Tryz.prog l (snV x) W fun e W' =>
   (e = .returned (.bool true) /\ J (pre ++ [x]) W' /\ Only T W W') \/ (e = .returned (.bool false) /\ Jx (pre ++ [x]) W'))
  (W : World) (hcb : Has W cb #[.slice (some ⟨ga,0,none⟩) gs.length gs.length] 82) (hrow : Has W ga (gRow gs gs.length) 144) (hT1 : ¬ T cb) (hT2 : ¬ T ga) (hTn : ∀ i,W.heap.size <= i -> T i) (h0 : J [] W) :
  CallsIn Fence.wide n Tryz.prog 75 #[.func (.yield l) #[] #[],.pointer (some ⟨cb,0,none⟩)] W fun e W'=>(∃ v,e = .returned v) /\
   ((∃ ys : List (Sn gs.length),ys.map (·.1) = gsnd 0 gs /\ J ys W') \/ (∃ pre : List (Sn gs.length),pre.map (·.1) <+: gsnd 0 gs /\ Jx pre W')):=by
 have hsa:=@Oper.semAt_some
 have c0:=hcb.cell 0
 simp only [List.getElem?_toArray,List.getElem?_cons_zero] at c0
 have HR:=hid hrow
 have HJA:=hid hJ
 obtain ⟨m,hm⟩ : ∃ m,m = gs.length:=⟨_,rfl⟩
 have HM:=hid hm
 rw [<- hm] at c0 hgs
 clear hcb hrow hJ hm
 refine callsIn_of_wp Tryz.func75 rfl trivial ?_ rfl
 simp only [Tryz.ntmps75,List.size_toArray,List.length_cons,List.length_nil,Nat.reduceAdd,Nat.reduceSub,Array.replicate_succ,Array.replicate_zero,List.push_toArray,List.append_toArray,List.nil_append,List.cons_append]
 gi_wp2
 gi_loopw [3,4,7] (fun s3 s4 s7 wr=>∃ (k : Nat) (pre : List (Sn gs.length)),k <= m /\ pre.length <= k /\ pre.map (·.1) = gsnd 0 (gs.take k) /\ s7 = .int .i64 (k : Int) /\ J pre wr /\ Only T W wr)
  (fun _ _ s7 _=>(m : Int).toNat - (intOf s7).toNat)
 case atStart=>exact ⟨0,[],Nat.zero_le _,Nat.le_refl _,by simp [gsnd],rfl,h0,Only.refl _ _⟩
 case round =>
  obtain ⟨k,pre,hk,hpl,hpm,rfl,hJs,hO⟩:=hrel
  by_cases hkn : k = m
  ·subst hkn
   have q1 : ¬ ((k : Int) < (k : Int)):=by omega
   have HP:=hid hpm
   clear hpm
   gi_wp2
   go_end0
   exact ⟨⟨_,rfl⟩,.inl ⟨pre,by rw [HP.out,HM.out,List.take_length],hJs⟩⟩
  ·have hlt : k < m:=by omega
   have q0 : (k : Int) < (m : Int):=by omega
   have wk : IntKind.i64.wrap ((k : Int) + 1) = ((k + 1 : Nat) : Int):=wrapN (b:=1) (by omega)
   obtain ⟨x,hx⟩ : ∃ x,gs[k]? = some x:=⟨_,List.getElem?_eq_getElem (by have:=HM.out; omega)⟩
   have HRow : Has wr ga (gRow gs gs.length) 144:=hO.has HR.out hT2
   obtain ⟨u0,u1,u2⟩:=gRow_get (s:=gs) (n:=gs.length) (by rw [gpad_all]; exact hx)
   have d0 : wr.cell? ⟨ga,k * 3,none⟩ = some (.int .i64 x.e):=(HRow.cell _).trans u0
   have d1 : wr.cell? ⟨ga,k * 3 + 1,none⟩ = some (.bool x.sd):=(HRow.cell _).trans u1
   have d2 : wr.cell? ⟨ga,k * 3 + 2,none⟩ = some (.string x.pl):=(HRow.cell _).trans u2
   have hst:=gsnd_take gs k 0 x hx
   obtain ⟨wb,hwb⟩ : ∃ wb,wb = wr.alloc (.cells #[.int .i64 x.e,.bool x.sd,.string x.pl] 144):=⟨_,rfl⟩
   have hJb : J pre wb:=by rw [hwb]; exact HJA.out pre wr _ none hJs (World.grownBy_alloc _ _ _) (fun r e=>by cases e)
   have hOb : Only T W wb:=by rw [hwb]; exact hO.alloc _
   have hbx : Has wb wr.heap.size #[.int .i64 x.e,.bool x.sd,.string x.pl] 144:=by rw [hwb]; exact Has.new _ _ _ _ rfl
   obtain ⟨⟨e0,e1,e2⟩,_,_,_⟩:=three_cells hbx
   have HRL : Hid (Only T wr wb):=hid (by rw [hwb]; exact (Only.refl T wr).alloc _)
   obtain ⟨xe,xs,xp⟩:=x
   simp only at d0 d1 d2 hst hwb e0 e1 e2
   clear u0 u1 u2 HRow hbx hJs
   cases xs with
   | false =>
    have HS : Hid (pre.map (·.1) = gsnd 0 (gs.take (k + 1))):=hid (by rw [hst,hpm]; simp)
    rw [hwb] at e0 e1 e2
    have HJb:=hid hJb
    have HOb:=hid hOb
    rw [hwb] at HJb HOb
    clear hst hpm hJb hOb hx hwb HRL hO
    gi_wp2
    refine ⟨fun _ h=>(by cases h),?_⟩
    gi_wp2
    go_roundw
    case rel=>exact ⟨k + 1,pre,by omega,by omega,HS.out,by first | rfl | simp,HJb.out,HOb.out⟩
    case measure=>first | (simp [intOf]; done) | (simp [intOf]; omega)
   | true =>
    have hkl : k < gs.length:=by have:=HM.out; omega
    obtain ⟨fn,tmps,assign,body,hy,hR⟩:=hY pre ⟨(k,xp),hkl⟩ wb hJb (by omega)
    unfold snV at hy
    simp only at hy
    have HS : Hid ((pre ++ [(⟨(k,xp),hkl⟩ : Sn gs.length)]).map (·.1) = gsnd 0 (gs.take (k + 1))):=hid (by rw [List.map_append,hst,hpm]; simp)
    have HOb:=hid hOb
    rw [hwb] at e0 e1 e2 hy hR HOb
    clear hst hpm hJb hOb hx hwb hO
    gi_wp2
    refine ⟨fun h=>by simp [Fence.wide] at h,hR.mono ?_⟩
    rintro e W3 (⟨rfl,hJ3,hk3⟩ | ⟨rfl,hJx3⟩)
    ·have O3:=hid (HOb.out.trans hk3 fun _ h=>.inl h)
     clear hR hy d0 d1 d2 e0 e1 e2 hk3 HOb
     gi_wp2
     go_roundw
     case rel=>exact ⟨k + 1,_,by omega,by simp; omega,HS.out,by first | rfl | simp,hJ3,O3.out⟩
     case measure=>first | (simp [intOf]; done) | (simp [intOf]; omega)
    ·clear hR hy d0 d1 d2 e0 e1 e2 HOb
     gi_wp2
     refine bodyPost_ret (results_none rfl _ _ _) rfl ?_
     exact ⟨⟨_,rfl⟩,.inr ⟨_,by rw [HS.out]; exact gsnd_pre gs 0 (k + 1),hJx3⟩⟩
/-- the iterator -/
theorem snd_stops (n cb ga : Nat) (gs : List Gt) (hgs : gs.length <= 1000) (T : Nat -> Prop) (w : World) (hcb : Has w cb #[.slice (some ⟨ga,0,none⟩) gs.length gs.length] 82) (hrow : Has w ga (gRow gs gs.length) 144) (hT1 : ¬ T cb) (hT2 : ¬ T ga) (hTn : ∀ i,w.heap.size <= i -> T i) :
  SeqStopsK Fence.wide n Tryz.prog 75 #[.pointer (some ⟨cb,0,none⟩)] (snV (n:=gs.length)) (Only T) (fun ys=>ys.map (·.1) = gsnd 0 gs) (fun pre=>pre.map (·.1) <+: gsnd 0 gs) gs.length w:=fun l J Jx W hW hJ _ hY h0 =>
 snd1_in n l cb ga gs hgs T J Jx W.heap.size hJ hY W (hcb.below hW hcb.lt) (hrow.below hW hrow.lt) hT1 hT2 (fun i hi=>hTn i (Nat.le_trans hW.size hi)) h0
set_option maxRecDepth 20000 in
theorem sound_any (a : Option Addr) (n c : Nat) (w : World) : Calls Tryz.prog 33 #[.slice a n c] w fun e w'=>e = .returned (.func (.func 75) #[] #[.pointer (some ⟨w.heap.size,0,none⟩)]) /\ w' = w.alloc (.cells #[.slice a n c] 82):=by
 go_enter Tryz.func33,Tryz.ntmps33
 go_wp2_with fail
 go_ret
 exact ⟨rfl,rfl⟩
end Go.Proofs.YteapbbaollmniaaGreatDoor
/- Health: how many are sound. -/
namespace Go.Proofs.YteapbbaollmniaaGreatDoor
open Go.RowKit Go.Maps
open W
set_option linter.unusedVariables false
set_option maxHeartbeats 4000000 in
set_option maxRecDepth 20000 in
theorem count_any {w : World} {g : Nat} {gs : List Gt} (hg : Has w g (gRow gs gs.length) 144) (hgs : gs.length <= 1000) : Calls Tryz.prog 35 #[.slice (some ⟨g,0,none⟩) gs.length gs.length] w fun e w'=>e = .returned (.int .i64 ((gsnd 0 gs).length : Int)) /\ Below w.heap.size w w':=by
 have HGL : Hid (g < w.heap.size):=hid hg.lt
 have HG:=hid hg
 clear hg
 refine (callsIn_wide (n:=6)).1 ?_
 refine callsIn_of_wp_marks Tryz.func35 rfl trivial ?_ rfl
 simp only [Tryz.ntmps35,List.size_toArray,List.length_cons,List.length_nil,Nat.reduceAdd,Nat.reduceSub,Array.replicate_succ,Array.replicate_zero,List.push_toArray,List.append_toArray,List.nil_append,List.cons_append]
 refine wpIn_wide.2 ?_
 go_wp2_with fail
 have hBk:=sound_any (some ⟨g,0,none⟩) gs.length gs.length (w.alloc (.cells #[.int .i64 0] 3))
 refine hBk.mono ?_
 rintro e w1 ⟨rfl,rfl⟩
 clear hBk
 go_wp2_with fail
 have hs2 : ((w.alloc (.cells #[.int .i64 0] 3)).alloc (.cells #[.slice (some ⟨g,0,none⟩) gs.length gs.length] 82)).heap.size = w.heap.size + 2:=by simp
 have hb2 : Below w.heap.size w ((w.alloc (.cells #[.int .i64 0] 3)).alloc (.cells #[.slice (some ⟨g,0,none⟩) gs.length gs.length] 82)):=((Below.refl _ _).alloc (Nat.le_refl _) _).alloc (by simp) _
 have hcb : Has ((w.alloc (.cells #[.int .i64 0] 3)).alloc (.cells #[.slice (some ⟨g,0,none⟩) gs.length gs.length] 82)) (w.heap.size + 1) #[.slice (some ⟨g,0,none⟩) gs.length gs.length] 82:=Has.new _ (w.heap.size + 1) _ _ (by simp)
 have hn0 : Has ((w.alloc (.cells #[.int .i64 0] 3)).alloc (.cells #[.slice (some ⟨g,0,none⟩) gs.length gs.length] 82)) w.heap.size #[.int .i64 0] 3:=(Has.new w w.heap.size _ _ rfl).alloc _
 try simp only [World.size_alloc]
 generalize (w.alloc (.cells #[.int .i64 0] 3)).alloc (.cells #[.slice (some ⟨g,0,none⟩) gs.length gs.length] 82) = W2 at *
 have hrow:=HG.out.below hb2 HGL.out
 obtain ⟨T,hT⟩ : ∃ T : Nat -> Prop,T = fun i=>i = w.heap.size \/ w.heap.size + 2 <= i:=⟨_,rfl⟩
 have hTcb : ¬ T (w.heap.size + 1):=fun hh=>by
  rw [hT] at hh
  omega
 have hTg : ¬ T g:=fun hh=>by
  rw [hT] at hh
  have:=HGL.out
  omega
 have hTn : ∀ i,w.heap.size + 2 <= i -> T i:=fun i hi=>by rw [hT]; exact .inr hi
 have hT0 : T w.heap.size:=by rw [hT]; exact .inl rfl
 have hTw : ∀ i,T i -> w.heap.size <= i:=fun i hi=>by
  rw [hT] at hi
  rcases hi with hi | hi <;> omega
 have hm1:=hgs
 refine wpIn_wide (n:=6).1 ?_
 refine wpIn_rangeFunc_ownH (α:=Sn gs.length) (F:=Fence.wide) (n:=6) rfl (by omega) (gf:=75) (lb:=#[.pointer (some ⟨w.heap.size + 1,0,none⟩)]) rfl trivial (enters_of Tryz.func75 (by kernel_rfl) rfl)
  (snd_stops 5 (w.heap.size + 1) g gs hgs T W2 hcb hrow hTcb hTg (fun i hi=>hTn i (by omega)))
  (fun h1 h2=>h1.trans h2 fun _ h=>.inl h)
  (fun W l o o' hl ho hc hw=>Only.of_grown (grownBy_putObj' W l o') fun k hk=>by cases hk; exact hTn _ (by omega))
  (Below.refl _ _) (fun _=>rfl)
  (fun pre W=>Has W w.heap.size #[.int .i64 (pre.length : Int)] 3 /\ Only T W2 W)
  (fun _ _ _=>False)
  (fun pre X Y row hs hg hr=>⟨(Only.of_grown (S:=fun i=>row = some i) hg fun k hk=>hk).has hs.1 (fun e=>by have:=(hr _ e).1; omega),
   hs.2.trans (Only.of_grown (S:=T) hg fun k hk=>hTn k (by have:=(hr k hk).1; omega)) fun _ h=>.inl h⟩)
  (fun _ _ _ _ _ hs _ _=>hs)
  ⟨hn0,Only.refl _ _⟩
  (fun x a' W=>a' = { tmps:=#[.slice (some ⟨g,0,none⟩) gs.length gs.length,undef,.int .i64 0,.pointer (some ⟨w.heap.size,0,none⟩),.slice (some ⟨g,0,none⟩) gs.length gs.length,.func (.func 75) #[] #[.pointer (some ⟨w.heap.size + 1,0,none⟩)],.int .i64 (x.1.1 : Int),.string x.1.2,undef,undef,undef],defers:=[] })
  (fun x a' _ X Y row hs hg hr=>hs)
  ?assign ?body ?done ?stop
 case assign =>
  rintro l pre x W K hi hK
  have hsa:=@Oper.semAt_some
  unfold snV at *
  gi_wp2
  exact hK _ _ ((KeepsOthers.refl _).from _) (Only.refl _ _) hi (by simp)
 case body =>
  rintro l pre x a' W hl hr ⟨hi1,hi2⟩ rfl hlt
  have hsa:=@Oper.semAt_some
  have d0 : W.cell? ⟨w.heap.size,0,none⟩ = some (.int .i64 (pre.length : Int)):=hi1.cell 0
  have d1 : W.frozen? ⟨w.heap.size,0,none⟩ = false:=hi1.frozen 0
  have wk : IntKind.i64.wrap ((pre.length : Int) + 1) = ((pre.length + 1 : Nat) : Int):=wrapN (b:=1) (by omega)
  have HN : Hid (Has (W.setCell ⟨w.heap.size,0,none⟩ (.int .i64 ((pre.length + 1 : Nat) : Int))) w.heap.size #[.int .i64 (((pre ++ [x]).length : Nat) : Int)] 3):=hid (by
   rw [List.length_append]
   exact hi1.set 0 _)
  have HO : Hid (Only T W (W.setCell ⟨w.heap.size,0,none⟩ (.int .i64 ((pre.length + 1 : Nat) : Int)))):=hid (Only.set (p:=⟨w.heap.size,0,none⟩) (Only.refl T W) (.inl hT0) _)
  have HI2:=hid hi2
  clear hi1 hi2 hr
  gi_wp2_with fail
  exact ⟨(KeepsOthers.setCell _ _ _).from _,HO.out,HN.out,HI2.out.trans HO.out fun _ h=>.inl h⟩
 case done =>
  rintro D ys W hD hys ⟨hi1,hi2⟩ hK
  have d0 : W.cell? ⟨w.heap.size,0,none⟩ = some (.int .i64 (ys.length : Int)):=hi1.cell 0
  have hyl : ys.length = (gsnd 0 gs).length:=by rw [<- hys,List.length_map]
  have HB:=hid ((hb2.trans ((hi2.below (by omega) hTw : Below w.heap.size W2 W))))
  have HK:=hid hK
  have HYL:=hid hyl
  clear hys hyl hi1 hi2 hK hT hTn hTw
  go_wp2_with fail
  refine ⟨by simp,.inl ⟨_,_,rfl,run_takeDeferred HK.out,?_⟩⟩
  refine ⟨_,results_tmp rfl _ _ _,by rw [HYL.out]; rfl,?_⟩
  exact HB.out.trans ((Only.of_grown (S:=fun i=>i = D) (grownBy_putObj' W D (.deferred none)) fun k hk=>by cases hk; rfl).below (by have:=HB.out.size; omega) (fun i hi=>by omega))
 case stop =>
  rintro D c pre W _ _ h _
  exact h.elim
end Go.Proofs.YteapbbaollmniaaGreatDoor
/- Health: Of. -/
namespace Go.Proofs.YteapbbaollmniaaGreatDoor
open Go.RowKit Go.Maps
open W
set_option linter.unusedVariables false
theorem makes_bools (n : Nat) (hn : n <= 1000000) (w : World) : (Instr.makeSlice 40 (.int .i64 (n : Int)) (.int .i64 (n : Int))).run Tryz.prog w = .ok (.slice (some ⟨w.heap.size,0,none⟩) n n) (w.alloc (.cells (Array.replicate n (.bool false)) 4)):=by
 obtain ⟨i,hi⟩ : ∃ i,Tryz.prog.info? 4 = some i:=by
  cases h : Tryz.prog.info? 4 with
  | none=>have : (Tryz.prog.info? 4).isSome = true:=by kernel_rfl
          rw [h] at this; cases this
  | some i=>exact ⟨i,rfl⟩
 have hz : (Tryz.prog.info? 4).map (fun i=>(i.zero,i.size,i.bytes)) = some (some (.bool false),1,1):=by kernel_rfl
 rw [hi] at hz
 simp only [Option.map_some,Option.some.injEq,Prod.mk.injEq] at hz
 obtain ⟨h1,h2,h3⟩:=hz
 rw [run_make w 40 4 i (.bool false) Tryz.underlying40 hi h1 .i64 .i64 (n : Int) (n : Int) (by omega) (Int.le_refl _) (by rw [h3]; omega) (by omega)]
 have e : madeCells (Value.bool false).cells (n * 1) = Array.replicate n (.bool false):=by
  apply Array.toList_inj.1
  have hz : (Value.bool false).cells = #[.bool false]:=rfl
  rw [hz,Nat.mul_one]
  apply List.ext_getElem
  ·simp [madeCells]
  ·intro k h1 h2
   simp [madeCells,Nat.mod_one]
 rw [h2,Int.toNat_natCast,e]
/-- a list of bools, as cells -/
def bRow (l : List Bool) : Array Value:=(l.map Value.bool).toArray
theorem bRow_get {l : List Bool} {k : Nat} (hk : k < l.length) : (bRow l)[k]? = some (.bool (l.getD k false)):=by
 unfold bRow
 rw [List.getElem?_toArray,List.getElem?_map,List.getD_eq_getElem?_getD,List.getElem?_eq_getElem hk]
 rfl
theorem bRow_set (l : List Bool) (k : Nat) (z : Bool) : (bRow l).setIfInBounds k (.bool z) = bRow (l.set k z):=by
 unfold bRow
 rw [List.setIfInBounds_toArray,List.map_set]
theorem bRow_rep (n : Nat) : Array.replicate n (Value.bool false) = bRow (List.replicate n false):=by
 unfold bRow
 rw [List.map_replicate]
 apply Array.toList_inj.1
 simp
/-- those that are told are set -/
def setP (l : List Bool) (ps : List (Nat × ByteArray)) : List Bool:=ps.foldl (fun l p=>l.set p.1 true) l
theorem setP_len (ps : List (Nat × ByteArray)) : ∀ l,(setP l ps).length = l.length:=by
 induction ps with
 | nil=>intro l; rfl
 | cons p r ih=>intro l; show (setP (l.set p.1 true) r).length = _; rw [ih,List.length_set]
theorem setP_snoc (l : List Bool) (ps : List (Nat × ByteArray)) (p : Nat × ByteArray) : setP l (ps ++ [p]) = (setP l ps).set p.1 true:=by simp [setP,List.foldl_append]
theorem setP_all : ∀ (gs : List Gt) (pre : List Bool),setP (pre ++ List.replicate gs.length false) (gsnd pre.length gs) = pre ++ gs.map (·.sd)
 | [],pre=>by simp [setP,gsnd]
 | x :: r,pre=>by
  unfold gsnd
  have ih:=setP_all r (pre ++ [x.sd])
  rw [List.length_append,List.length_singleton,List.append_assoc,List.append_assoc] at ih
  cases hx : x.sd with
  | false =>
   rw [hx] at ih
   simp only [Bool.false_eq_true,if_false,List.nil_append,List.length_cons,List.replicate_succ,List.map_cons,hx]
   exact ih
  | true =>
   rw [hx] at ih
   simp only [if_true,List.length_cons,List.replicate_succ,List.map_cons,hx]
   show setP ((pre ++ false :: List.replicate r.length false).set pre.length true) (gsnd (pre.length + 1) r) = _
   rw [List.set_append,if_neg (by omega),Nat.sub_self,List.set_cons_zero]
   exact ih
/-- what has come, without its bound -/
def snP {n : Nat} (pre : List (Sn n)) : List (Nat × ByteArray):=pre.map (·.1)
theorem snP_snoc {n : Nat} (pre : List (Sn n)) (x : Sn n) : snP (pre ++ [x]) = snP pre ++ [x.1]:=by simp [snP]
variable {w0 w w' : World} {b : Nat} {V V' : Wd} {T : Nat -> Prop}
set_option maxHeartbeats 8000000 in
set_option maxRecDepth 20000 in
theorem of_any (h : WT w0 w b V T) (hl : H.Lay w0) (K N : Int) (d : ByteArray) (hc : V.calls <= 900000) (hf : V.left < 9223372036854775808) (Q : Ending -> World -> Prop)
  (hqA : gaE V K N d = 1 -> ∀ w',WT w0 w' b V T -> Kpt T w w' -> Q (.returned (.tuple #[.slice none 0 0,.int .i64 1])) w')
  (hqC : gaE V K N d = 0 -> (gath V K N d).1 = 56 -> ∀ w',WT w0 w' b (gath V K N d).2.1 T -> Kpt T w w' -> Q (.returned (.tuple #[.slice none 0 0,.int .i64 56])) w')
  (hqO : gaE V K N d = 0 -> (gath V K N d).1 = 0 -> (gath V K N d).2.2.length = V.l.length -> ∀ w' g,WT w0 w' b (gath V K N d).2.1 (fun i=>T i \/ i = g) -> Kpt T w w' -> Has w' g (bRow ((gath V K N d).2.2.map (·.sd))) 4 -> w.heap.size <= g -> Q (.returned (.tuple #[.slice (some ⟨g,0,none⟩) V.l.length V.l.length,.int .i64 0])) w') : Calls Tryz.prog 11 #[.pointer (some ⟨b,0,none⟩),.agg #[.int .i64 K,.int .i64 N],.string d] w Q:=by
 have HQA:=hid hqA
 have HQC:=hid hqC
 have HQO:=hid hqO
 have HL:=hid hl
 have HC:=hid hc
 have HF:=hid hf
 obtain ⟨q,hqq⟩ : ∃ q,q = w.heap.size:=⟨_,rfl⟩
 obtain ⟨wa,hwa⟩ : ∃ wa,wa = w.alloc (.cells #[.int .i64 K,.int .i64 N] 23):=⟨_,rfl⟩
 have HB:=hid (boxed w (.cells #[.int .i64 K,.int .i64 N] 23))
 have HX:=hid (Has.new w w.heap.size #[.int .i64 K,.int .i64 N] 23 rfl)
 rw [<- hwa] at HB HX
 rw [<- hqq] at HX
 have HQQ:=hid hqq
 have HWA:=hid (h.below HB.out)
 have HKA:=hid (Kpt.below h HB.out)
 have HTL:=hid h.lt
 have HBS:=hid h.base.size
 obtain ⟨n,hn⟩ : ∃ n,n = V.l.length:=⟨_,rfl⟩
 have HNE:=hid hn
 rw [<- hn] at HQO
 clear h hl hc hf hqA hqC hqO hn
 obtain ⟨c0,c1,f0,f1⟩:=two_cells HX.out
 refine (callsIn_wide (n:=6)).1 ?_
 refine callsIn_of_wp_marks Tryz.func11 rfl trivial ?_ rfl
 simp only [Tryz.ntmps11,List.size_toArray,List.length_cons,List.length_nil,Nat.reduceAdd,Nat.reduceSub,Array.replicate_succ,Array.replicate_zero,List.push_toArray,List.append_toArray,List.nil_append,List.cons_append]
 refine wpIn_wide.2 ?_
 go_wp2_with fail
 rw [<- hwa,<- hqq]
 clear hwa hqq
 refine gather_any HWA.out HL.out K N d HC.out HF.out _ (fun e1 w1 h1 k1=>?_) (fun e1 e2 w1 h1 k1=>?_) (fun e1 e2 e3 w1 g h1 k1 hg hgs=>?_)
 ·have HE:=hid (HQA.out e1 w1 h1 (HKA.out.trans k1))
  clear e1 h1 k1 c0 c1 f0 f1
  go_wp2_with fail
  refine ⟨_,results_tmp2 rfl _ _ _,?_⟩
  simp only [Array.getD_eq_getD_getElem?,List.getElem?_toArray,List.getElem?_cons_succ,List.getElem?_cons_zero,Option.getD_some]
  exact HE.out
 ·have HE:=hid (HQC.out e1 e2 w1 h1 (HKA.out.trans k1))
  clear e1 e2 h1 k1 c0 c1 f0 f1
  go_wp2_with fail
  refine ⟨_,results_tmp2 rfl _ _ _,?_⟩
  simp only [Array.getD_eq_getD_getElem?,List.getElem?_toArray,List.getElem?_cons_succ,List.getElem?_cons_zero,Option.getD_some]
  exact HE.out
 ·have HN12 : Hid (n <= 12):=hid (by
   have e4:=e1
   unfold gaE at e4
   by_cases hh : C.Mx.mayC K N = true /\ N = (V.l.length : Int) /\ d.size = 32
   ·have h5:=hh.1
    unfold C.Mx.mayC at h5
    have:=of_decide_eq_true h5
    have:=HNE.out
    omega
   ·rw [if_neg hh] at e4; cases e4)
  have HE:=hid (HQO.out e1 e2 (by rw [e3]; exact HNE.out.symm))
  rw [<- HNE.out] at e3 hg ⊢
  generalize (gath V K N d).2.2 = gs at *
  generalize (gath V K N d).2.1 = V1 at *
  clear e1 e2 HQA HQC HQO
  have HW1:=hid h1
  have HK1:=hid (HKA.out.trans k1)
  have HG1:=hid hg
  have HGS:=hid hgs
  have HE3:=hid e3
  clear h1 k1 hg hgs c0 c1 f0 f1 e3
  have hmk:=fun W=>makes_bools n (by have:=HN12.out; omega) W
  obtain ⟨gr,hgr⟩ : ∃ gr,gr = w1.heap.size:=⟨_,rfl⟩
  go_wp2_with fail
  clear hmk
  have hBk:=sound_any (some ⟨g,0,none⟩) n n ((w1.alloc (.cells (Array.replicate n (.bool false)) 4)).alloc (.cells #[.slice (some ⟨w1.heap.size,0,none⟩) n n] 40))
  refine hBk.mono ?_
  rintro e w2 ⟨rfl,rfl⟩
  clear hBk
  go_wp2_with fail
  simp only [<- hgr]
  have hs2 : (((w1.alloc (.cells (Array.replicate n (.bool false)) 4)).alloc (.cells #[.slice (some ⟨gr,0,none⟩) n n] 40)).alloc (.cells #[.slice (some ⟨g,0,none⟩) n n] 82)).heap.size = gr + 3:=by simp [hgr]
  have hb2 : Below w1.heap.size w1 (((w1.alloc (.cells (Array.replicate n (.bool false)) 4)).alloc (.cells #[.slice (some ⟨gr,0,none⟩) n n] 40)).alloc (.cells #[.slice (some ⟨g,0,none⟩) n n] 82)):=(((Below.refl _ _).alloc (Nat.le_refl _) _).alloc (by simp) _).alloc (by simp; omega) _
  have hcb : Has (((w1.alloc (.cells (Array.replicate n (.bool false)) 4)).alloc (.cells #[.slice (some ⟨gr,0,none⟩) n n] 40)).alloc (.cells #[.slice (some ⟨g,0,none⟩) n n] 82)) (gr + 2) #[.slice (some ⟨g,0,none⟩) n n] 82:=Has.new _ (gr + 2) _ _ (by simp [hgr])
  have hbb : Has (((w1.alloc (.cells (Array.replicate n (.bool false)) 4)).alloc (.cells #[.slice (some ⟨gr,0,none⟩) n n] 40)).alloc (.cells #[.slice (some ⟨g,0,none⟩) n n] 82)) (gr + 1) #[.slice (some ⟨gr,0,none⟩) n n] 40:=(Has.new _ (gr + 1) _ _ (by simp [hgr])).alloc _
  have hrr : Has (((w1.alloc (.cells (Array.replicate n (.bool false)) 4)).alloc (.cells #[.slice (some ⟨gr,0,none⟩) n n] 40)).alloc (.cells #[.slice (some ⟨g,0,none⟩) n n] 82)) gr (bRow (setP (List.replicate n false) [])) 4:=by
   show Has _ gr (bRow (List.replicate n false)) 4
   rw [<- bRow_rep]
   exact ((Has.new w1 gr _ _ hgr).alloc _).alloc _
  generalize ((w1.alloc (.cells (Array.replicate n (.bool false)) 4)).alloc (.cells #[.slice (some ⟨gr,0,none⟩) n n] 40)).alloc (.cells #[.slice (some ⟨g,0,none⟩) n n] 82) = W2 at *
  have hrow:=HG1.out.below hb2 HG1.out.lt
  have HGL : Hid (g < gr):=hid (by rw [hgr]; exact HG1.out.lt)
  have HGR:=hid hgr
  have HB2:=hid hb2
  clear hgr hb2
  obtain ⟨T1,hT⟩ : ∃ T1 : Nat -> Prop,T1 = fun i=>i = gr \/ gr + 3 <= i:=⟨_,rfl⟩
  have hTcb : ¬ T1 (gr + 2):=fun hh=>by
   rw [hT] at hh
   omega
  have hTbb : ¬ T1 (gr + 1):=fun hh=>by
   rw [hT] at hh
   omega
  have hTg : ¬ T1 g:=fun hh=>by
   rw [hT] at hh
   have:=HGL.out
   omega
  have hTn : ∀ i,gr + 3 <= i -> T1 i:=fun i hi=>by rw [hT]; exact .inr hi
  have hT0 : T1 gr:=by rw [hT]; exact .inl rfl
  have hTw : ∀ i,T1 i -> gr <= i:=fun i hi=>by
   rw [hT] at hi
   rcases hi with hi | hi <;> omega
  obtain ⟨m,hm⟩ : ∃ m,m = gs.length:=⟨_,rfl⟩
  have HMN : Hid (n = gs.length):=hid HE3.out.symm
  rw [HMN.out] at hcb
  rw [HMN.out] at hrow
  refine wpIn_wide (n:=6).1 ?_
  refine wpIn_rangeFunc_ownH (α:=Sn gs.length) (F:=Fence.wide) (n:=6) rfl (by omega) (gf:=75) (lb:=#[.pointer (some ⟨gr + 2,0,none⟩)]) rfl trivial (enters_of Tryz.func75 (by kernel_rfl) rfl)
   (snd_stops 5 (gr + 2) g gs (by have:=HN12.out; have:=HMN.out; omega) T1 W2 hcb hrow hTcb hTg (fun i hi=>hTn i (by omega)))
   (fun h1 h2=>h1.trans h2 fun _ h=>.inl h)
   (fun W l o o' hl ho hc hw=>Only.of_grown (grownBy_putObj' W l o') fun k hk=>by cases hk; exact hTn _ (by omega))
   (Below.refl _ _) (fun _=>rfl)
   (fun (pre : List (Sn gs.length)) W=>Has W gr (bRow (setP (List.replicate n false) (snP pre))) 4 /\ Only T1 W2 W)
   (fun _ _ _=>False)
   (fun pre X Y row hs hg hr=>⟨(Only.of_grown (S:=fun i=>row = some i) hg fun k hk=>hk).has hs.1 (fun e=>by have:=(hr _ e).1; omega),
    hs.2.trans (Only.of_grown (S:=T1) hg fun k hk=>hTn k (by have:=(hr k hk).1; omega)) fun _ h=>.inl h⟩)
   (fun _ _ _ _ _ hs _ _=>hs)
   ⟨hrr,Only.refl _ _⟩
   (fun x a' W=>a' = { tmps:=#[.pointer (some ⟨b,0,none⟩),.agg #[.int .i64 K,.int .i64 N],.string d,undef,.pointer (some ⟨q,0,none⟩),undef,.slice none 0 0,.int .i64 0,.slice (some ⟨g,0,none⟩) n n,.int .i64 0,.pointer (some ⟨gr + 1,0,none⟩),.int .i64 (x.1.1 : Int),.tuple #[.slice (some ⟨g,0,none⟩) n n,.int .i64 0],.pointer (some ⟨b,0,none⟩),.agg #[.int .i64 K,.int .i64 N],.string d,.tuple #[.slice (some ⟨g,0,none⟩) n n,.int .i64 0],.slice (some ⟨g,0,none⟩) n n,.int .i64 0,.int .i64 0,.bool false,undef,.slice (some ⟨g,0,none⟩) n n,.int .i64 (n : Int),.slice (some ⟨gr,0,none⟩) n n,.slice (some ⟨g,0,none⟩) n n,.func (.func 75) #[] #[.pointer (some ⟨gr + 2,0,none⟩)],.int .i64 (x.1.1 : Int),.string x.1.2,undef,undef,undef,undef],defers:=[] })
   (fun x a' _ X Y row hs hg hr=>hs)
   ?assign ?body ?done ?stop
  case assign =>
   rintro l pre x W K hi hK
   have hsa:=@Oper.semAt_some
   unfold snV at *
   gi_wp2
   exact hK _ _ ((KeepsOthers.refl _).from _) (Only.refl _ _) hi (by first | rfl | simp)
  case body =>
   rintro l pre x a' W hl hr ⟨hi1,hi2⟩ rfl hlt
   have hsa:=@Oper.semAt_some
   have hxn : x.1.1 < n:=by rw [HMN.out]; exact x.2
   have hbbW:=hi2.has hbb hTbb
   have d0 : W.cell? ⟨gr + 1,0,none⟩ = some (.slice (some ⟨gr,0,none⟩) n n):=hbbW.cell 0
   have d1 : W.frozen? ⟨gr,x.1.1,none⟩ = false:=hi1.frozen _
   have d2 : W.cell? ⟨gr,x.1.1,none⟩ = some (.bool ((setP (List.replicate n false) (snP pre)).getD x.1.1 false)):=(hi1.cell _).trans (bRow_get (by rw [setP_len,List.length_replicate]; exact hxn))
   have q1 : (x.1.1 : Int) < (n : Int):=by omega
   have HN : Hid (Has (W.setCell ⟨gr,x.1.1,none⟩ (.bool true)) gr (bRow (setP (List.replicate n false) (snP (pre ++ [x])))) 4):=hid (by
    rw [snP_snoc,setP_snoc,<- bRow_set]
    exact hi1.set _ _)
   have HO : Hid (Only T1 W (W.setCell ⟨gr,x.1.1,none⟩ (.bool true))):=hid (Only.set (p:=⟨gr,x.1.1,none⟩) (Only.refl T1 W) (.inl hT0) _)
   have HI2:=hid hi2
   clear hi1 hi2 hr hbbW
   generalize (setP (List.replicate n false) (snP pre)).getD x.1.1 false = z0 at d2
   gi_wp2_with fail
   exact ⟨(KeepsOthers.setCell _ _ _).from _,HO.out,HN.out,HI2.out.trans HO.out fun _ h=>.inl h⟩
  case done =>
   rintro D ys W hD hys ⟨hi1,hi2⟩ hK
   have hbbW:=hi2.has hbb hTbb
   have d0 : W.cell? ⟨gr + 1,0,none⟩ = some (.slice (some ⟨gr,0,none⟩) n n):=hbbW.cell 0
   rw [show snP ys = gsnd 0 gs from hys,show setP (List.replicate n false) (gsnd 0 gs) = gs.map (·.sd) from by
    have:=setP_all gs []
    rw [HMN.out]
    simpa using this] at hi1
   have hDW : D < W.heap.size:=(Array.getElem?_eq_some_iff.1 hK).1
   have hoD : Only (fun i=>i = D) W (W.putObj D (.deferred none)):=Only.of_grown (grownBy_putObj' W D (.deferred none)) fun k hk=>by cases hk; rfl
   have hDg : gr + 3 <= D:=by omega
   have HGD : Hid (Has (W.putObj D (.deferred none)) gr (bRow (gs.map (·.sd))) 4):=hid (hoD.has hi1 (fun h=>by omega))
   have hoA : Only (fun i=>gr <= i) w1 (W.putObj D (.deferred none)):=((Only.of_below (S:=fun i=>gr <= i) HB2.out).trans hi2 fun i hi=>.inl (hTw i hi)).trans hoD fun i hi=>.inl (by omega)
   have HWD : Hid (WT w0 (W.putObj D (.deferred none)) b V1 (fun i=>T i \/ i = gr)):=hid (by
    obtain ⟨S,gg,s1,s2,s3,s4⟩:=HW1.out
    have hbd : ∀ i,S i -> i < gr:=fun i hi=>by rw [HGR.out]; exact s1.bound i hi
    refine ⟨S,gg,s1.only hoA (fun i hi hT=>by have:=hbd i hi; omega),s2,s3.trans (hoA.below s3.size (fun i hi=>by have:=HGR.out; have:=s3.size; omega)),fun i hi=>?_⟩
    rcases hi with hi | hi
    ·exact ⟨(s4 i (.inl hi)).1,Nat.lt_of_lt_of_le (s4 i (.inl hi)).2 hoA.size⟩
    ·rw [hi]
     exact ⟨fun hs=>by have:=hbd _ hs; omega,HGD.out.lt⟩)
   have HKD : Hid (Kpt T w (W.putObj D (.deferred none))):=hid (HK1.out.trans ⟨hoA.size,fun i hi=>hoA.block i (HW1.out.lt i (.inl hi)) (fun h=>by have:=HW1.out.lt i (.inl hi); have:=HGR.out; omega)⟩)
   have HFIN:=hid (HE.out _ gr HWD.out HKD.out HGD.out (by have:=HGS.out; have:=HGL.out; have:=HB.out.size; omega))
   have HK:=hid hK
   clear hys hi1 hi2 hK hT hTn hTw hbbW hoD hoA
   go_wp2_with fail
   refine ⟨by simp,.inl ⟨_,_,rfl,run_takeDeferred HK.out,?_⟩⟩
   refine ⟨_,results_tmp2 rfl _ _ _,?_⟩
   simp only [Array.getD_eq_getD_getElem?,List.getElem?_toArray,List.getElem?_cons_succ,List.getElem?_cons_zero,Option.getD_some]
   exact HFIN.out
  case stop =>
   rintro D c pre W _ _ h _
   exact h.elim
end Go.Proofs.YteapbbaollmniaaGreatDoor
