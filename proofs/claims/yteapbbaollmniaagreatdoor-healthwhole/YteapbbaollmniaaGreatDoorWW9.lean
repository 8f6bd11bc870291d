/- The program's world: Put and Del. -/
import Derived.Test.YteapbbaollmniaaGreatDoorWW4
namespace Go.Proofs.YteapbbaollmniaaGreatDoor.W
open Go.RowKit Go.Maps
variable {w w' w1 w2 : World} {S : Nat -> Prop} {b g : Nat} {W W' : Wd}
section
variable {ev : Operand -> Value} {o : Oper} {w : World} {x y : Operand}
theorem rn_load63 {g k : Nat} {v : Value} (ho : o.op = .load 71 x) (hx : ev x = .pointer (some ⟨g,k,none⟩)) (hc : w.cell? ⟨g,k,none⟩ = some v) : (execOp ev o).run Tryz.prog w = .ok (.value v) w:=by
 simp [execOp,ho,hx,go_sem,hc]
theorem rn_f66_0 {g k : Nat} (ho : o.op = .fieldAddr 74 x 0) (hx : ev x = .pointer (some ⟨g,k,none⟩)) : (execOp ev o).run Tryz.prog w = .ok (.value (.pointer (some ⟨g,k,none⟩))) w:=by
 simp [execOp,ho,hx,go_sem]
end
theorem countW_l (W : Wd) : (countW W).l = W.l:=by
 unfold countW
 split
 ·split <;> rfl
 ·rfl
set_option maxRecDepth 20000 in
theorem alone_any (w : World) (F : Fn) (C : Array Value) : Calls Tryz.prog 88 #[.func F #[] C] w fun e w'=>e = .returned (.func (.func 139) #[] #[.pointer (some ⟨w.heap.size,0,none⟩)]) /\ w' = w.alloc (.cells #[.func F #[] C] 163):=by
 go_enter Tryz.func88,Tryz.ntmps88
 go_wp2_with fail
 go_ret
 exact ⟨rfl,rfl⟩
set_option maxRecDepth 20000 in
theorem alone50 (w : World) (k : Value) (B1 B2 : Nat) (hB : w.cell? ⟨B1,0,none⟩ = some (.func (.func 89) #[] #[.pointer (some ⟨B2,0,none⟩)])) (hBl : B1 < w.heap.size) (Q : Int -> World -> Prop) (hf : ∀ w1,Below w.heap.size w w1 -> Calls Tryz.prog 89 #[k,.pointer (some ⟨B2,0,none⟩)] w1 fun e w'=>∃ z : Int,e = .returned (.int .i64 z) /\ Q z w') : Calls Tryz.prog 139 #[k,.pointer (some ⟨B1,0,none⟩)] w fun e w'=>∃ z : Int,e = .returned (.tuple #[.agg #[],.int .i64 z]) /\ Q z w':=by
 have HF:=hf _ (boxed w (.cells #[] 157))
 have c0 : (w.alloc (.cells #[] 157)).cell? ⟨B1,0,none⟩ = some (.func (.func 89) #[] #[.pointer (some ⟨B2,0,none⟩)]):=by rw [(boxed w (.cells #[] 157)).cell (p:=⟨B1,0,none⟩) hBl]; exact hB
 clear hf hB hBl
 go_enter Tryz.func139,Tryz.ntmps139
 go_wp2_with fail
 refine HF.mono ?_
 clear HF
 rintro x w1 ⟨z,rfl,hq⟩
 have HQ:=hid hq
 clear hq
 go_wp2_with fail
 exact ret82 rfl rfl rfl rfl ⟨z,rfl,HQ.out⟩
def ptF (g j blk : Nat) (n d : ByteArray) (i : Nat) (v : Value) (_ : World) : Prop:=match i with
 | 4=>v = .pointer (some ⟨g,j * 2,none⟩) | 5=>v = .pointer (some ⟨g,j * 2,none⟩) | 6=>v = .pointer (some ⟨g,j * 2,none⟩)
 | 7=>v = .pointer (some ⟨blk,0,none⟩) | 8=>v = .agg #[.string n,.string d]
 | _=>True
set_option maxHeartbeats 1000000 in
set_option maxRecDepth 20000 in
theorem put1_any (w : World) (j blk B2 : Nat) (n d : ByteArray) (c0 : w.cell? ⟨g,j * 2,none⟩ = some (.pointer (some ⟨blk,0,none⟩))) (o0 : w.cell? ⟨B2,0,none⟩ = some (.string n)) (o1 : w.cell? ⟨B2,1,none⟩ = some (.string d)) (Q : Int -> World -> Prop) (hf : Calls Tryz.prog 90 #[.pointer (some ⟨blk,0,none⟩),.agg #[.string n,.string d]] w.drew fun e w'=>∃ z : Int,e = .returned (.int .i64 z) /\ Q z w') : Calls Tryz.prog 89 #[.pointer (some ⟨g,j * 2,none⟩),.pointer (some ⟨B2,0,none⟩)] w fun e w'=>∃ z : Int,e = .returned (.int .i64 z) /\ Q z w':=by
 go_enter Tryz.func89,Tryz.ntmps89
 go_wp2_with fail
 refine Tl.wp_mix_lit (by kernel_rfl) 5 [4,5,6,7,8] 10 rfl (by kernel_rfl) (AtW w.drew) (ptF g j blk n d) rfl
  ⟨fun a' W' hC hF=>?_,fun a' W' hC hF=>?_,fun a' W' hC hF=>?_,fun a' W' hC hF=>?_,fun a' W' hC hF=>?_,trivial⟩ ?_
 ·exact Tl.sm_v 4 _ rfl (Tl.wanted_none rfl) hC rfl (rn_move rfl ((hF 0 (by decide +kernel)).2 (by decide)))
 ·exact Tl.sm_v 5 _ rfl (Tl.wanted_none rfl) hC rfl (rn_nilCheck rfl ((hF 4 (by decide +kernel)).1 (by decide)))
 ·exact Tl.sm_v 6 _ rfl (Tl.wanted_none rfl) hC rfl (rn_f66_0 rfl ((hF 5 (by decide +kernel)).1 (by decide)))
 ·exact Tl.sm_v 7 _ rfl (Tl.wanted_none rfl) hC rfl (rn_load63 rfl ((hF 6 (by decide +kernel)).1 (by decide)) (by rw [show W' = _ from hC]; exact c0))
 ·exact Tl.sm_v 8 _ rfl (Tl.wanted_none rfl) hC rfl (rn_load28 rfl ((hF 1 (by decide +kernel)).2 (by decide)) (by rw [show W' = _ from hC]; exact o0) (by rw [show W' = _ from hC]; exact o1))
 intro v wB hw hv
 obtain rfl : wB = _:=hw
 have v7 : v 7 = .pointer (some ⟨blk,0,none⟩):=hv 7 (by decide)
 have v8 : v 8 = .agg #[.string n,.string d]:=hv 8 (by decide)
 clear hv c0 o0 o1
 simp only [Tl.fill,List.drop_succ_cons,List.drop_zero]
 simp only [Act.put,List.setIfInBounds_toArray,List.set_cons_succ,List.set_cons_zero,v7,v8]
 clear v7 v8
 go_wp2_with fail
 refine hf.mono ?_
 clear hf
 rintro x w1 ⟨z,rfl,hq⟩
 have HQ:=hid hq
 clear hq
 go_wp2_with fail
 go_ret
 exact ⟨z,rfl,HQ.out⟩
/-- what is asked of a store, counted -/
def askS (W : Wd) (i : Int) (f : St -> Int × St) : Int × Wd:=if 0 <= i /\ i < (W.l.length : Int) then (if (countW W).dark then (56,countW W) else match (countW W).l[i.toNat]? with
 | some x=>((f x.st).1,{ countW W with l:=(countW W).l.set i.toNat { x with st:=(f x.st).2 } })
 | none=>(56,countW W)) else (1,W)
theorem askS_no {W : Wd} {i : Int} {f : St -> Int × St} (h : ¬ (0 <= i /\ i < (W.l.length : Int))) : askS W i f = (1,W):=by unfold askS; rw [if_neg h]
theorem askS_dark {W : Wd} {i : Int} {f : St -> Int × St} (h : 0 <= i /\ i < (W.l.length : Int)) (hd : (countW W).dark = true) : askS W i f = (56,countW W):=by unfold askS; rw [if_pos h,if_pos hd]
theorem askS_does {W : Wd} {i : Int} {f : St -> Int × St} (h : 0 <= i /\ i < (W.l.length : Int)) (hd : (countW W).dark = false) : ∃ x,(countW W).l[i.toNat]? = some x /\ x ∈ W.l /\ askS W i f = ((f x.st).1,{ countW W with l:=(countW W).l.set i.toNat { x with st:=(f x.st).2 } }):=by
 obtain ⟨x,hx⟩ : ∃ x,(countW W).l[i.toNat]? = some x:=⟨_,List.getElem?_eq_getElem (by rw [countW_l]; omega)⟩
 refine ⟨x,hx,by rw [countW_l] at hx; exact List.mem_of_getElem? hx,?_⟩
 unfold askS
 rw [if_pos h,if_neg (by rw [hd]; decide),hx]
set_option maxHeartbeats 2000000 in
set_option maxRecDepth 20000 in
theorem wput_any (h : IsWd w S b g W) (hc : W.calls <= 1000000) (hl : W.left < 9223372036854775808) {N : Nat} (hF : ∀ x ∈ W.l,Fit N x.st) (hN : N <= 1000000) (i : Int) (n d : ByteArray) : Calls Tryz.prog 43 #[ptr b,.int .i64 i,obv n d] w fun e w'=>e = .returned (er (askS W i fun s=>putS s n d).1) /\ AfterW w w' S b g (askS W i fun s=>putS s n d).2:=by
 have HB:=hid (boxed w (.cells #[.string n,.string d] 101))
 have HX:=hid (Has.new w w.heap.size #[.string n,.string d] 101 rfl)
 have HH:=hid (h.below HB.out)
 have HNS : Hid (¬ S w.heap.size):=hid fun hS=>by have:=h.bound _ hS; omega
 obtain ⟨wa,hwa⟩ : ∃ wa,wa = w.alloc (.cells #[.string n,.string d] 101):=⟨_,rfl⟩
 rw [<- hwa] at HB HX HH
 have HAL:=alone_any wa (.func 89) #[.pointer (some ⟨w.heap.size,0,none⟩)]
 have HASK:=hid (ask48_any (HH.out.below (boxed wa (.cells #[.func (.func 89) #[] #[.pointer (some ⟨w.heap.size,0,none⟩)]] 163))) hc hl i wa.heap.size (fun e w'=>∃ z : Int,e = .returned (.tuple #[.agg #[],.int .i64 z]) /\ z = (askS W i fun s=>putS s n d).1 /\ AfterW w w' S b g (askS W i fun s=>putS s n d).2)
  (fun h0 w1 hb=>⟨1,rfl,by rw [askS_no h0],by rw [askS_no h0]; exact AfterW.front HB.out ((AfterW.refl (HH.out.below (boxed wa _))).front (boxed wa _) |>.next hb)⟩)
  (fun h0 hd w1 ha=>⟨56,rfl,by rw [askS_dark h0 hd],by rw [askS_dark h0 hd]; exact AfterW.front HB.out (AfterW.front (boxed wa _) ha)⟩)
  (fun h0 hd w1 ha=>by
   obtain ⟨x,hx,hxm,e⟩:=askS_does (f:=fun s=>putS s n d) h0 hd
   rw [e]
   have hbx : Has w1 wa.heap.size #[.func (.func 89) #[] #[.pointer (some ⟨w.heap.size,0,none⟩)]] 163:=ha.has (Has.new wa _ _ _ rfl) fun hS=>by
    have:=HH.out.bound _ hS; omega
   have hob : Has w1 w.heap.size #[.string n,.string d] 101:=ha.has (HX.out.alloc _) HNS.out
   refine (alone50 w1 _ wa.heap.size w.heap.size (hbx.cell 0) hbx.lt (fun z w'=>z = (putS x.st n d).1 /\ AfterW w w' S b g { countW W with l:=(countW W).l.set i.toNat { x with st:=(putS x.st n d).2 } }) (fun w2 hb2=>?_)).mono fun e w' ⟨z,h1,h2,h3⟩=>⟨z,h1,z,h1,h2,h3⟩
   have ha2:=(AfterW.front HB.out (AfterW.front (boxed wa _) ha)).next hb2
   obtain ⟨S2,i2,s2,o2⟩:=ha2
   obtain ⟨c0,_,_⟩:=i2.kept hx
   have hob2:=hob.below hb2 hob.lt
   refine put1_any w2 i.toNat x.blk w.heap.size n d c0 (hob2.cell 0) (hob2.cell 1) _ ?_
   obtain ⟨T,t1,_,t3⟩:=(i2.below (Below.refl _ _).drew).call hx
   refine (put_any t1 (hF x hxm) hN n d).mono fun e w3 ⟨h1,h2⟩=>⟨_,h1,rfl,AfterW.trans s2 o2 ?_⟩
   exact AfterW.front (Below.refl _ _).drew (t3 _ _ h2)))
 unfold ptr at *
 unfold obv er
 clear h hF hc hl
 go_enter Tryz.func43,Tryz.ntmps43
 go_wp2_with fail
 rw [<- hwa]
 refine HAL.mono ?_
 clear HAL hwa
 rintro x w1 ⟨rfl,rfl⟩
 go_wp2_with fail
 refine HASK.out.mono ?_
 clear HASK
 rintro x w2 ⟨z,rfl,hz,ha⟩
 have HZ:=hid hz
 have HA:=hid ha
 clear hz ha
 go_wp2_with fail
 go_ret
 exact ⟨by rw [HZ.out]; rfl,HA.out.next (boxed _ _)⟩
end Go.Proofs.YteapbbaollmniaaGreatDoor.W
/- The program's world: Del, Sync, Get, List. -/
namespace Go.Proofs.YteapbbaollmniaaGreatDoor.W
open Go.RowKit Go.Maps
variable {w w' w1 w2 : World} {S : Nat -> Prop} {b g : Nat} {W W' : Wd}
theorem methSync (W : World) (g j blk : Nat) (hc : W.cell? ⟨g, j, none⟩ = some (.pointer (some ⟨blk, 0, none⟩))) : (method 424 116 (.pointer (some ⟨g, j, none⟩)) "Sync").run Tryz.prog W = .ok (91, .pointer (some ⟨blk, 0, none⟩)) W := by
 have hi : (Tryz.prog.info? 116).map (fun i => (i.methods.find? (·.name == "Sync")).map fun m => (m.path.toList, m.func)) = some (some ([⟨74, 0, true⟩], some (91, true))) := by kernel_rfl
 cases hI : Tryz.prog.info? 116 with
 | none=>rw [hI] at hi; cases hi
 | some i =>
  rw [hI] at hi
  simp only [Option.map_some,Option.some.injEq] at hi
  cases hm : i.methods.find? (·.name == "Sync") with
  | none=>rw [hm] at hi; cases hi
  | some m =>
   rw [hm] at hi
   simp only [Option.map_some,Option.some.injEq,Prod.mk.injEq] at hi
   obtain ⟨hp,hf⟩:=hi
   show (method (423 + 1) 116 _ _).run _ _ = _
   rw [method]
   simp [Sem.run_bind,typeInfo,hI,hm,hp,hf,follow,asAddr,fieldPlace,receiverAt,Place.get,hc,go_sem]
set_option maxRecDepth 20000 in
theorem aloneS (w : World) (g j blk B1 : Nat) (hB : w.cell? ⟨B1, 0, none⟩ = some (.func (.methodOf 116 "Sync") #[] #[])) (hBl : B1 < w.heap.size) (c0 : w.cell? ⟨g, j * 2, none⟩ = some (.pointer (some ⟨blk, 0, none⟩))) (hgl : g < w.heap.size) (Q : Int -> World -> Prop) (hf : ∀ w1, Below w.heap.size w w1 -> Calls Tryz.prog 91 #[.pointer (some ⟨blk, 0, none⟩)] w1 fun e w' => ∃ z : Int, e = .returned (.int .i64 z) /\ Q z w') : Calls Tryz.prog 139 #[.pointer (some ⟨g, j * 2, none⟩), .pointer (some ⟨B1, 0, none⟩)] w fun e w' => ∃ z : Int, e = .returned (.tuple #[.agg #[], .int .i64 z]) /\ Q z w' := by
 have HF:=hf _ (boxed w (.cells #[] 157))
 have c1 : (w.alloc (.cells #[] 157)).cell? ⟨B1, 0, none⟩ = some (.func (.methodOf 116 "Sync") #[] #[]) := by rw [(boxed w (.cells #[] 157)).cell (p := ⟨B1, 0, none⟩) hBl]; exact hB
 have hm:=methSync (w.alloc (.cells #[] 157)) g (j * 2) blk (by rw [(boxed w (.cells #[] 157)).cell (p:=⟨g,j * 2,none⟩) hgl]; exact c0)
 clear hf hB hBl c0 hgl
 go_enter Tryz.func139,Tryz.ntmps139
 go_wp2_with fail
 refine HF.mono ?_
 clear HF
 rintro x w1 ⟨z,rfl,hq⟩
 have HQ:=hid hq
 clear hq
 go_wp2_with fail
 exact ret82 rfl rfl rfl rfl ⟨z,rfl,HQ.out⟩
set_option maxHeartbeats 2000000 in
set_option maxRecDepth 20000 in
theorem wsync_any (h : IsWd w S b g W) (hc : W.calls <= 1000000) (hl : W.left < 9223372036854775808)  (i : Int) : Calls Tryz.prog 44 #[ptr b,.int .i64 i] w fun e w'=>e = .returned (er (askS W i sync).1) /\ AfterW w w' S b g (askS W i sync).2:=by
 have HB:=hid (Below.refl w.heap.size w)
 have HH:=hid h
 obtain ⟨wa,hwa⟩ : ∃ wa,wa = w:=⟨_,rfl⟩
 rw [<- hwa] at HH
 rw [show Below w.heap.size w w = Below w.heap.size w wa from by rw [hwa]] at HB
 have HAL := alone_any wa (.methodOf 116 "Sync") #[]
 have HASK := hid (ask48_any (HH.out.below (boxed wa (.cells #[.func (.methodOf 116 "Sync") #[] #[]] 163))) hc hl i wa.heap.size (fun e w' => ∃ z : Int, e = .returned (.tuple #[.agg #[], .int .i64 z]) /\ z = (askS W i sync).1 /\ AfterW w w' S b g (askS W i sync).2)
  (fun h0 w1 hb=>⟨1,rfl,by rw [askS_no h0],by rw [askS_no h0]; exact AfterW.front HB.out ((AfterW.refl (HH.out.below (boxed wa _))).front (boxed wa _) |>.next hb)⟩)
  (fun h0 hd w1 ha=>⟨56,rfl,by rw [askS_dark h0 hd],by rw [askS_dark h0 hd]; exact AfterW.front HB.out (AfterW.front (boxed wa _) ha)⟩)
  (fun h0 hd w1 ha=>by
   obtain ⟨x,hx,hxm,e⟩:=askS_does (f:=sync) h0 hd
   rw [e]
   have hbx : Has w1 wa.heap.size #[.func (.methodOf 116 "Sync") #[] #[]] 163 := ha.has (Has.new wa _ _ _ rfl) fun hS => by
    have:=HH.out.bound _ hS; omega
   have ha1:=AfterW.front HB.out (AfterW.front (boxed wa _) ha)
   obtain ⟨S1,i1,s1,o1⟩:=ha1
   obtain ⟨c0,_,_⟩:=i1.kept hx
   have hgl : g < w1.heap.size:=by obtain ⟨_,_,_,_,_,_,_,h6,h7⟩:=i1; exact h7 g h6
   refine (aloneS w1 g i.toNat x.blk wa.heap.size (hbx.cell 0) hbx.lt c0 hgl (fun z w'=>z = (sync x.st).1 /\ AfterW w w' S b g { countW W with l:=(countW W).l.set i.toNat { x with st:=(sync x.st).2 } }) (fun w2 hb2=>?_)).mono fun e w' ⟨z,h1,h2,h3⟩=>⟨z,h1,z,h1,h2,h3⟩
   obtain ⟨T,t1,_,t3⟩:=(i1.below hb2).call hx
   exact (sync_any t1).mono fun e w3 ⟨h1,h2⟩=>⟨_,h1,rfl,AfterW.trans s1 o1 (AfterW.front hb2 (t3 _ _ h2))⟩))
 unfold ptr at *
 unfold er
 clear h hc hl
 go_enter Tryz.func44,Tryz.ntmps44
 go_wp2_with fail
 rw [<- hwa]
 refine HAL.mono ?_
 clear HAL hwa
 rintro x w1 ⟨rfl,rfl⟩
 go_wp2_with fail
 refine HASK.out.mono ?_
 clear HASK
 rintro x w2 ⟨z,rfl,hz,ha⟩
 have HZ:=hid hz
 have HA:=hid ha
 clear hz ha
 go_wp2_with fail
 go_ret
 exact ⟨by rw [HZ.out]; rfl,HA.out.next (boxed _ _)⟩
section
variable {ev : Operand -> Value} {o : Oper} {w : World} {x y : Operand}
theorem rn_ext0 {u v : Value} (ho : o.op = .extract x 0) (hx : ev x = .tuple #[u,v]) : (execOp ev o).run Tryz.prog w = .ok (.value u) w:=by
 simp [execOp,ho,hx,go_sem]
theorem rn_ext1 {u v : Value} (ho : o.op = .extract x 1) (hx : ev x = .tuple #[u,v]) : (execOp ev o).run Tryz.prog w = .ok (.value v) w:=by
 simp [execOp,ho,hx,go_sem]
theorem enter56 (args : Array Value) : (callFunc 122 args).run Tryz.prog w = .ok (.enter 122 args) w:=by kernel_rfl
end
def gtF (g j blk : Nat) (n d : ByteArray) (z : Int) (i : Nat) (v : Value) (_ : World) : Prop:=match i with
 | 5=>v = .pointer (some ⟨g,j * 2,none⟩) | 6=>v = .pointer (some ⟨g,j * 2,none⟩) | 7=>v = .pointer (some ⟨g,j * 2,none⟩)
 | 8=>v = .pointer (some ⟨blk,0,none⟩) | 9=>v = .string n
 | 10=>v = .tuple #[.string d,.int .i64 z] | 11=>v = .string d | 12=>v = .int .i64 z
 | _=>True
set_option maxHeartbeats 1000000 in
set_option maxRecDepth 20000 in
theorem get1_any (w : World) (j blk B2 : Nat) (n d : ByteArray) (z : Int) (c0 : w.cell? ⟨g,j * 2,none⟩ = some (.pointer (some ⟨blk,0,none⟩))) (hg : g < w.heap.size) (o0 : w.cell? ⟨B2,0,none⟩ = some (.string n)) (hB : B2 < w.heap.size) (hf : ∀ W,Below w.heap.size w W -> Calls Tryz.prog 122 #[.pointer (some ⟨blk,0,none⟩),.string n] W fun e w'=>e = .returned (.tuple #[.string d,.int .i64 z]) /\ Below W.heap.size W w') : Calls Tryz.prog 121 #[.pointer (some ⟨g,j * 2,none⟩),.pointer (some ⟨B2,0,none⟩)] w fun e w'=>e = .returned (.tuple #[.string d,.int .i64 z]) /\ Below w.heap.size w w':=by
 go_enter Tryz.func121,Tryz.ntmps121
 go_wp2_with fail
 refine Tl.wp_mix_lit (by kernel_rfl) 8 [5,6,7,8,9,10,11,12] 13 rfl (by kernel_rfl) (BelW w) (gtF g j blk n d z) ((Below.refl _ _).drew)
  ⟨fun a' W' hC hF=>?_,fun a' W' hC hF=>?_,fun a' W' hC hF=>?_,fun a' W' hC hF=>?_,fun a' W' hC hF=>?_,fun a' W' hC hF=>?_,fun a' W' hC hF=>?_,fun a' W' hC hF=>?_,trivial⟩ ?_
 ·exact Tl.sm_v 5 _ rfl (Tl.wanted_none rfl) hC rfl (rn_move rfl ((hF 0 (by decide +kernel)).2 (by decide)))
 ·exact Tl.sm_v 6 _ rfl (Tl.wanted_none rfl) hC rfl (rn_nilCheck rfl ((hF 5 (by decide +kernel)).1 (by decide)))
 ·exact Tl.sm_v 7 _ rfl (Tl.wanted_none rfl) hC rfl (rn_f66_0 rfl ((hF 6 (by decide +kernel)).1 (by decide)))
 ·exact Tl.sm_v 8 _ rfl (Tl.wanted_none rfl) hC rfl (rn_load63 rfl ((hF 7 (by decide +kernel)).1 (by decide)) (BelW.cell hC (p:=⟨g,j * 2,none⟩) hg c0))
 ·exact Tl.sm_v 9 _ rfl (Tl.wanted_none rfl) hC rfl (rn_load9 rfl ((hF 1 (by decide +kernel)).2 (by decide)) (BelW.cell hC (p:=⟨B2,0,none⟩) hB o0))
 ·refine Tl.sm_call 122 #[.pointer (some ⟨blk,0,none⟩),.string n] (Tl.wanted_none rfl) (rn_call2 rfl rfl ((hF 8 (by decide +kernel)).1 (by decide)) ((hF 9 (by decide +kernel)).1 (by decide)) (enter56 _)) ((hf W' hC).mono ?_)
  rintro e w'' ⟨rfl,b1⟩
  exact ⟨_,rfl,Below.trans hC (b1.mono hC.size),fun _ _ _ h=>h,fun d hd=>by cases hd; rfl⟩
 ·exact Tl.sm_v 11 _ rfl (Tl.wanted_none rfl) hC rfl (rn_ext0 rfl ((hF 10 (by decide +kernel)).1 (by decide)))
 ·exact Tl.sm_v 12 _ rfl (Tl.wanted_none rfl) hC rfl (rn_ext1 rfl ((hF 10 (by decide +kernel)).1 (by decide)))
 intro v wB hw hv
 have v11 : v 11 = .string d:=hv 11 (by decide)
 have v12 : v 12 = .int .i64 z:=hv 12 (by decide)
 have HB:=hid hw
 clear hv c0 o0 hw hf hg hB
 simp only [Tl.fill,List.drop_succ_cons,List.drop_zero]
 simp only [Act.put,List.setIfInBounds_toArray,List.set_cons_succ,List.set_cons_zero,v11,v12]
 clear v11 v12
 go_wp2_with fail
 go_ret2
 exact ⟨rfl,HB.out⟩
def getW (W : Wd) (i : Int) (n : ByteArray) : ByteArray × Int:=if 0 <= i /\ i < (W.l.length : Int) then (if (countW W).dark then (⟨#[]⟩,56) else match (countW W).l[i.toNat]? with
 | some x=>get x.st n
 | none=>(⟨#[]⟩,56)) else (⟨#[]⟩,1)
def askW (W : Wd) (i : Int) : Wd:=if 0 <= i /\ i < (W.l.length : Int) then countW W else W
set_option maxHeartbeats 2000000 in
set_option maxRecDepth 20000 in
theorem wget_any (h : IsWd w S b g W) (hc : W.calls <= 1000000) (hl : W.left < 9223372036854775808) (i : Int) (n : ByteArray) (hn : n.size <= 1000000) : Calls Tryz.prog 73 #[ptr b,.int .i64 i,.string n] w fun e w'=>e = .returned (.tuple #[.string (getW W i n).1,er (getW W i n).2]) /\ AfterW w w' S b g (askW W i):=by
 have HB:=hid (boxed w (.cells #[.string n] 9))
 have HX:=hid (Has.new w w.heap.size #[.string n] 9 rfl)
 have HH:=hid (h.below HB.out)
 have HNS : Hid (¬ S w.heap.size):=hid fun hS=>by have:=h.bound _ hS; omega
 obtain ⟨wa,hwa⟩ : ∃ wa,wa = w.alloc (.cells #[.string n] 9):=⟨_,rfl⟩
 rw [<- hwa] at HB HX HH
 have HASK:=hid (ask54_any HH.out hc hl i w.heap.size (fun e w'=>∃ (d : ByteArray) (z : Int),e = .returned (.tuple #[.string d,.int .i64 z]) /\ (d,z) = getW W i n /\ AfterW w w' S b g (askW W i))
  (fun h0=>⟨_,1,rfl,by unfold getW; rw [if_neg h0],by unfold askW; rw [if_neg h0]; exact AfterW.front HB.out (AfterW.refl HH.out)⟩)
  (fun h0 hd w1 ha=>⟨_,56,rfl,by unfold getW; rw [if_pos h0,if_pos hd],by unfold askW; rw [if_pos h0]; exact AfterW.front HB.out ha⟩)
  (fun h0 hd w1 ha=>by
   obtain ⟨x,hx,hxm,_⟩:=askS_does (f:=fun s=>(0,s)) h0 hd
   have e1 : getW W i n = get x.st n:=by unfold getW; rw [if_pos h0,if_neg (by rw [hd]; decide),hx]
   have e2 : askW W i = countW W:=by unfold askW; rw [if_pos h0]
   rw [e1,e2]
   have hob : Has w1 w.heap.size #[.string n] 9:=ha.has HX.out HNS.out
   have ha1:=AfterW.front HB.out ha
   obtain ⟨S1,i1,s1,o1⟩:=ha1
   obtain ⟨c0,_,_⟩:=i1.kept hx
   have hgl : g < w1.heap.size:=by obtain ⟨_,_,_,_,_,_,_,h6,h7⟩:=i1; exact h7 g h6
   refine (get1_any w1 i.toNat x.blk w.heap.size n (get x.st n).1 (get x.st n).2 c0 hgl (hob.cell 0) hob.lt (fun W2 hb2=>?_)).mono fun e w' ⟨h1,h2⟩=>⟨_,_,h1,_,_,h1,rfl,AfterW.trans s1 o1 ((AfterW.refl i1).next h2)⟩
   obtain ⟨T,t1,_,_⟩:=(i1.below hb2).call hx
   exact get_any t1 n (by unfold maxLen; omega)))
 unfold ptr at *
 unfold er
 clear h hc hl
 go_enter Tryz.func73,Tryz.ntmps73
 go_wp2_with fail
 rw [<- hwa]
 refine HASK.out.mono ?_
 clear HASK hwa
 rintro x w2 ⟨d,z,rfl,hz,ha⟩
 have HZ:=hid hz
 have HA:=hid ha
 clear hz ha
 go_wp2_with fail
 go_ret2
 refine ⟨?_,HA.out⟩
 rw [<- HZ.out]; rfl
end Go.Proofs.YteapbbaollmniaaGreatDoor.W
/- The program's world: List, Suspects. -/
namespace Go.Proofs.YteapbbaollmniaaGreatDoor.W
open Go.RowKit Go.Maps
variable {w w' w1 w2 : World} {S : Nat -> Prop} {b g : Nat} {W W' : Wd}
end Go.Proofs.YteapbbaollmniaaGreatDoor.W
/- The program's world: Clear, Crash, Strike. -/
namespace Go.Proofs.YteapbbaollmniaaGreatDoor.W
open Go.RowKit Go.Maps
variable {w w' w1 w2 : World} {S : Nat -> Prop} {b g : Nat} {W W' : Wd}
theorem kflat_set (l : List Kp) : ∀ (j : Nat) (x : Kp) (v : Bool),l[j]? = some x -> (l.set j { x with sus:=v }).flatMap kcells = (l.flatMap kcells).set (j * 2 + 1) (.bool v):=by
 induction l with
 | nil=>intro j x v h; simp at h
 | cons p r ih =>
  intro j x v h
  cases j with
  | zero=>simp at h; subst h; rfl
  | succ j =>
   rw [List.set_cons_succ,List.flatMap_cons,List.flatMap_cons,ih j x v (by simpa using h)]
   have : (kcells p).length = 2:=rfl
   rw [List.set_append_right _ _ (by omega),this,show (j + 1) * 2 + 1 - 2 = j * 2 + 1 by omega]
/-- whether a store is suspect is written -/
theorem AfterW.sus (h : IsWd w S b g W) {j : Nat} {x : Kp} (hj : W.l[j]? = some x) (v : Bool) : AfterW w (w.setCell ⟨g,j * 2 + 1,none⟩ (.bool v)) S b g { W with l:=W.l.set j { x with sus:=v } }:=by
 obtain ⟨cap,F,h1,h2,h3,h4,h5,h6,h7⟩:=h
 have hl : j < W.l.length:=(List.getElem?_eq_some_iff.1 hj).1
 have ho : Only (fun k=>k = g) w (w.setCell ⟨g,j * 2 + 1,none⟩ (.bool v)):=(Only.refl (fun k=>k = g) w).set (p:=⟨g,j * 2 + 1,none⟩) (.inl rfl) _
 have hbg : b ≠ g:=fun e=>by
  have:=row_ne h2 h1 (by decide) g rfl
  exact this e.symm
 refine ⟨S,⟨cap,F,?_,?_,fun k y hk=>?_,by simpa using h4,h5,h6,fun k hk=>Nat.lt_of_lt_of_le (h7 k hk) ho.size⟩,fun _ h=>.inl h,ho.mono fun k hk=>by subst hk; exact h6⟩
 ·have:=ho.has h1 hbg
  unfold wdcells at this ⊢
  simpa using this
 ·simp only [List.length_set]
  rw [kflat_set W.l j x v hj]
  exact (h2.stored (j * 2 + 1) (.bool v)).1
 ·by_cases e : k = j
  ·subst e
   simp only [List.getElem?_set_self hl,Option.some.injEq] at hk
   subst hk
   obtain ⟨k1,k2,k3,k4⟩:=h3 k x hj
   exact ⟨k1.only ho fun i hi e=>k4 (e ▸ hi),k2,k3,k4⟩
  ·simp only [List.getElem?_set_ne (Ne.symm e)] at hk
   obtain ⟨k1,k2,k3,k4⟩:=h3 k y hk
   exact ⟨k1.only ho fun i hi e=>k4 (e ▸ hi),k2,k3,k4⟩
end Go.Proofs.YteapbbaollmniaaGreatDoor.W
/- The program's world: Crash, Strike. -/
namespace Go.Proofs.YteapbbaollmniaaGreatDoor.W
open Go.RowKit Go.Maps
variable {w w' w1 w2 : World} {S : Nat -> Prop} {b g : Nat} {W W' : Wd}
/-- what survives of a store, as it is read -/
structure Sv where
 kv : Value
 ks : List Int
def RdS (w : World) (v : Value) (l : List Sv) : Prop:=((∃ A c,v = .slice A 0 c /\ l = []) \/ ∃ g o cap,0 < l.length /\ v = .slice (some ⟨g,o,none⟩) l.length cap /\ g < w.heap.size /\ ∀ (j : Nat) (x : Sv),l[j]? = some x -> w.cell? ⟨g,o + j,none⟩ = some x.kv) /\ ∀ x ∈ l,RdI w x.kv x.ks /\ x.ks.length <= 140737488355328
theorem RdS.form {v : Value} {l : List Sv} (h : RdS w v l) : ∃ a c,v = .slice a l.length c:=by
 rcases h.1 with ⟨A,c,rfl,rfl⟩ | ⟨g,o,cap,_,rfl,_⟩
 ·exact ⟨A,c,rfl⟩
 ·exact ⟨_,_,rfl⟩
theorem RdI.lt {v : Value} {ks : List Int} (h : RdI w v ks) {g o n c : Nat} (e : v = .slice (some ⟨g,o,none⟩) n c) (hn : 0 < n) : g < w.heap.size:=by
 rcases h with ⟨A,c',e',_⟩ | ⟨g',o',cap,_,e',hg,_⟩
 ·rw [e] at e'; cases e'; omega
 ·rw [e] at e'; cases e'; exact hg
/-- the first k of them are turned -/
def preL (f : Nat -> Kp -> Kp) (l : List Kp) (k : Nat) : List Kp:=l.mapIdx fun i x=>if i < k then f i x else x
theorem preL_get {f : Nat -> Kp -> Kp} {l : List Kp} {k : Nat} {x : Kp} (h : l[k]? = some x) : (preL f l k)[k]? = some x:=by
 unfold preL
 rw [List.getElem?_mapIdx,h]
 simp
theorem preL_len (f : Nat -> Kp -> Kp) (l : List Kp) (k : Nat) : (preL f l k).length = l.length:=by unfold preL; simp
theorem preL_zero (f : Nat -> Kp -> Kp) (l : List Kp) : preL f l 0 = l:=by
 apply List.ext_getElem?
 intro i
 unfold preL
 rw [List.getElem?_mapIdx]
 cases l[i]? <;> simp
theorem preL_succ {f : Nat -> Kp -> Kp} {l : List Kp} {k : Nat} {x : Kp} (h : l[k]? = some x) : preL f l (k + 1) = (preL f l k).set k (f k x):=by
 have hl : k < l.length:=(List.getElem?_eq_some_iff.1 h).1
 apply List.ext_getElem?
 intro i
 by_cases e : i = k
 ·subst e
  rw [List.getElem?_set_self (by rw [preL_len]; exact hl)]
  unfold preL
  rw [List.getElem?_mapIdx,h]
  simp
 ·rw [List.getElem?_set_ne (Ne.symm e)]
  unfold preL
  rw [List.getElem?_mapIdx,List.getElem?_mapIdx]
  cases l[i]? with
  | none=>rfl
  | some y =>
   simp only [Option.map_some,Option.some.injEq]
   by_cases h1 : i < k
   ·rw [if_pos h1,if_pos (by omega)]
   ·rw [if_neg h1,if_neg (by omega)]
theorem preL_all (f : Nat -> Kp -> Kp) (l : List Kp) : preL f l l.length = l.mapIdx f:=by
 apply List.ext_getElem?
 intro i
 unfold preL
 rw [List.getElem?_mapIdx,List.getElem?_mapIdx]
 cases h : l[i]? with
 | none=>rfl
 | some y =>
  have hl : i < l.length:=(List.getElem?_eq_some_iff.1 h).1
  simp [hl]
def keepOf (sv : List Sv) (i : Nat) : List Int:=(sv[i]?.map (·.ks)).getD []
def crashK (sv : List Sv) (i : Nat) (x : Kp) : Kp:={ x with st:=crashS x.st (keepOf sv i) }
def crashW (W : Wd) (sv : List Sv) : Wd:={ W with l:=W.l.mapIdx (crashK sv),dark:=false,cut:=false,left:=0 }
set_option maxHeartbeats 4000000 in
set_option maxRecDepth 20000 in
theorem wcrash_any {w0 : World} (h : IsWd w S b g W) (hn : W.l.length <= 1000) {N : Nat} (hF : ∀ x ∈ W.l,Fit N x.st /\ (x.st.writes ≠ [] -> x.st.live = true)) (hN : N <= 400000) (hb0 : Below w0.heap.size w0 w) (hS : ∀ i,S i -> w0.heap.size <= i) (lv : Value) (sv : List Sv) (hlv : RdS w0 lv sv) (hsl : sv.length <= 9223372036854775807) : Calls Tryz.prog 18 #[ptr b,lv] w fun e w'=>e = .returned (er 0) /\ AfterW w w' S b g (crashW W sv):=by
 obtain ⟨la,lc,rfl⟩:=hlv.form
 have HLV:=hid hlv
 obtain ⟨cap,⟨c0,c1,c2,c3,c4⟩,hfr,_⟩:=h.cells
 have HH:=hid h
 have HB0:=hid hb0
 have HS:=hid hS
 have HF:=hid hF
 clear h hlv hb0 hS hF c1 c2 c3 c4
 unfold ptr er at *
 generalize hL : W.l.length = L at *
 have HL:=hid hL
 clear hL
 go_enter Tryz.func18,Tryz.ntmps18
 go_wp2_with fail
 clear c0
 go_loopg [14] L (fun gk s14 wx=>∃ k : Nat,k + gk = L /\ s14 = .int .i64 (k : Int) /\ AfterW w wx S b g { W with l:=preL (crashK sv) W.l k })
 case atStart=>exact ⟨0,by omega,rfl,by rw [preL_zero]; exact AfterW.refl HH.out⟩
 case round =>
  obtain ⟨k,hk,rfl,hA⟩:=hrel
  have HA:=hid hA
  cases gk with
  | zero =>
   have q1 : ¬ ((k : Int) < (L : Int)):=by omega
   have HE:=hid (show preL (crashK sv) W.l k = W.l.mapIdx (crashK sv) from by rw [show k = W.l.length by rw [HL.out]; omega,preL_all])
   obtain ⟨S2,i2,s2,o2⟩:=hA
   have a1:=AfterW.turn (W':={ W with l:=preL (crashK sv) W.l k,dark:=false }) i2 2 (.bool false) rfl fun _=>rfl
   have a2:=a1.then fun S' h'=>AfterW.turn (W':={ W with l:=preL (crashK sv) W.l k,dark:=false,cut:=false }) h' 3 (.bool false) rfl fun _=>rfl
   have a3:=a2.then fun S' h'=>AfterW.turn (W':={ W with l:=preL (crashK sv) W.l k,dark:=false,cut:=false,left:=0 }) h' 4 (.int .i64 0) rfl fun _=>rfl
   have HA3:=hid (AfterW.trans s2 o2 a3)
   obtain ⟨cap',F,h1,_⟩:=i2
   have f2:=h1.frozen 2
   have k2 : wr.cell? ⟨b,2,none⟩ = some (.bool W.dark):=h1.cell 2
   have h2:=h1.set 2 (.bool false)
   have f3:=h2.frozen 3
   have k3 : (wr.setCell ⟨b,2,none⟩ (.bool false)).cell? ⟨b,3,none⟩ = some (.bool W.cut):=h2.cell 3
   have h3:=h2.set 3 (.bool false)
   have f4:=h3.frozen 4
   have k4 : ((wr.setCell ⟨b,2,none⟩ (.bool false)).setCell ⟨b,3,none⟩ (.bool false)).cell? ⟨b,4,none⟩ = some (.int .i64 (W.left : Int)):=h3.cell 4
   clear h1 h2 h3 a1 a2 a3 s2 o2 HA
   go_wp2_with fail
   go_ret
   refine ⟨rfl,?_⟩
   have:=HA3.out
   rw [HE.out] at this
   exact this
  | succ g1 =>
   have q1 : (k : Int) < (L : Int):=by omega
   obtain ⟨x,hx⟩ : ∃ x,W.l[k]? = some x:=⟨_,List.getElem?_eq_getElem (by rw [HL.out]; omega)⟩
   have hx2:=preL_get (f:=crashK sv) hx
   have HT:=hid (preL_succ (f:=crashK sv) hx)
   obtain ⟨S2,i2,s2,o2⟩:=hA
   obtain ⟨cap',⟨c0,_,_,_,_⟩,_,_⟩:=i2.cells
   have c0' : wr.cell? ⟨b,0,none⟩ = some (.slice (some ⟨g,0,none⟩) L cap'):=by rw [c0]; simp only; rw [preL_len,HL.out]
   obtain ⟨k0,_,_⟩:=i2.kept hx2
   obtain ⟨T,t1,t2,t3⟩:=i2.call hx2
   have hS2 : ∀ i,S2 i -> w0.heap.size <= i:=fun i hi=>(s2 i hi).elim (HS.out i) (fun h=>Nat.le_trans HB0.out.size h)
   have hb0r : Below w0.heap.size w0 wr:=HB0.out.trans (o2.below HB0.out.size HS.out)
   have HCR:=hid (fun (kv : Value) (ks : List Int) (hk : RdI w0 kv ks) (hkl : ks.length <= 140737488355328)=>crash_any t1 (HF.out x (List.mem_of_getElem? hx)).1 hN (HF.out x (List.mem_of_getElem? hx)).2 kv ks (hk.below hb0r) (by omega) (fun g' o' n' c' e1 e2 hT=>by
    have:=RdI.lt hk e1 e2
    have:=hS2 g' (t2 g' hT)
    omega))
   have HNX:=hid (show ∀ w',After wr w' T x.blk (crashS x.st (keepOf sv k)) -> AfterW w w' S b g { W with l:=preL (crashK sv) W.l (k + 1) } from fun w' ha=>by
    rw [HT.out]
    exact AfterW.trans s2 o2 (t3 _ _ ha))
   unfold ptr at *
   by_cases hks : k < sv.length
   ·obtain ⟨y,hy⟩ : ∃ y,sv[k]? = some y:=⟨_,List.getElem?_eq_getElem hks⟩
    have q2 : (k : Int) < (sv.length : Int):=by omega
    have HCC:=HCR.out y.kv y.ks (HLV.out.2 y (List.mem_of_getElem? hy)).1 (HLV.out.2 y (List.mem_of_getElem? hy)).2
    have HKE:=hid (show keepOf sv k = y.ks from by unfold keepOf; rw [hy]; rfl)
    rw [<- HKE.out] at HCC
    unfold er at HCC
    rcases HLV.out.1 with ⟨_,_,_,e0⟩ | ⟨gs,os,caps,_,es,hgs,hcs⟩
    ·rw [e0] at hks; simp at hks
    cases es
    have l0 : wr.cell? ⟨gs,os + k,none⟩ = some y.kv:=by rw [hb0r.cell (p:=⟨gs,os + k,none⟩) hgs]; exact hcs k y hy
    clear hcs hy hx hx2 i2 s2 o2 c0 t1 t2 t3 hS2 hb0r HCR hks
    go_wp2_with fail
    refine HCC.mono ?_
    clear HCC
    rintro z w3 ⟨rfl,ha⟩
    have HA3:=hid (HNX.out _ ha)
    clear ha HNX
    go_wp2_with fail
    go_roundg g1
    case measure=>omega
    case rel=>exact ⟨k + 1,by omega,by first | rfl | simp,HA3.out⟩
   ·have q2 : ¬ ((k : Int) < (sv.length : Int)):=by omega
    have HCC:=HCR.out (.slice none 0 0) [] (.inl ⟨_,_,rfl,rfl⟩) (Nat.zero_le _)
    have HKE:=hid (show keepOf sv k = [] from by unfold keepOf; rw [List.getElem?_eq_none (by omega)]; rfl)
    rw [<- HKE.out] at HCC
    unfold er at HCC
    clear hx hx2 i2 s2 o2 c0 t1 t2 t3 hS2 hb0r HCR hks
    go_wp2_with fail
    refine HCC.mono ?_
    clear HCC
    rintro z w3 ⟨rfl,ha⟩
    have HA3:=hid (HNX.out _ ha)
    clear ha HNX
    go_wp2_with fail
    go_roundg g1
    case measure=>omega
    case rel=>exact ⟨k + 1,by omega,by first | rfl | simp,HA3.out⟩
def skF (g j blk _B : Nat) (k t n a c : Int) (i : Nat) (v : Value) (_ : World) : Prop:=match i with
 | 15=>v = .pointer (some ⟨g,j * 2,none⟩) | 16=>v = .pointer (some ⟨g,j * 2,none⟩) | 17=>v = .pointer (some ⟨g,j * 2,none⟩)
 | 18=>v = .pointer (some ⟨blk,0,none⟩) | 19=>v = .agg #[.int .u8 k,.int .i64 t,.int .i64 n,.int .i64 a,.int .i64 c]
 | _=>True
def strikeW (W : Wd) (k t n a c : Int) : Int × Wd:=if 0 <= t /\ t < (W.l.length : Int) then (match W.l[t.toNat]? with
 | some x=>((strikeS x.st k n a c).1,{ W with l:=W.l.set t.toNat { x with st:=(strikeS x.st k n a c).2,sus:=x.sus || (decide ((strikeS x.st k n a c).1 = 0) && (decide (k ≠ 5) && decide (k ≠ 7))) } })
 | none=>(1,W)) else (1,W)
set_option maxHeartbeats 4000000 in
set_option maxRecDepth 20000 in
theorem wstrike_any (h : IsWd w S b g W) {N : Nat} (hF : ∀ x ∈ W.l,Fit N x.st) (hN : N <= 1000000) (k t n a c : Int) (hk0 : 0 <= k) (hk : k < 256) (hn : n < 9223372036854775808) (ha : a < 9223372036854775808) : Calls Tryz.prog 20 #[ptr b,fv k t n a c] w fun e w'=>e = .returned (er (strikeW W k t n a c).1) /\ AfterW w w' S b g (strikeW W k t n a c).2:=by
 have HB:=hid (boxed w (.cells #[.int .u8 k,.int .i64 t,.int .i64 n,.int .i64 a,.int .i64 c] 36))
 have HX:=hid (Has.new w w.heap.size #[.int .u8 k,.int .i64 t,.int .i64 n,.int .i64 a,.int .i64 c] 36 rfl)
 have HH:=hid (h.below HB.out)
 have HNS : Hid (¬ S w.heap.size):=hid fun hS=>by have:=h.bound _ hS; omega
 obtain ⟨wa,hwa⟩ : ∃ wa,wa = w.alloc (.cells #[.int .u8 k,.int .i64 t,.int .i64 n,.int .i64 a,.int .i64 c] 36):=⟨_,rfl⟩
 rw [<- hwa] at HB HX HH
 have b0 : wa.cell? ⟨w.heap.size,0,none⟩ = some (.int .u8 k):=HX.out.cell 0
 have b1 : wa.cell? ⟨w.heap.size,1,none⟩ = some (.int .i64 t):=HX.out.cell 1
 have b2 : wa.cell? ⟨w.heap.size,2,none⟩ = some (.int .i64 n):=HX.out.cell 2
 have b3 : wa.cell? ⟨w.heap.size,3,none⟩ = some (.int .i64 a):=HX.out.cell 3
 have b4 : wa.cell? ⟨w.heap.size,4,none⟩ = some (.int .i64 c):=HX.out.cell 4
 have HAT:=at_any HH.out t
 unfold placeV at HAT
 unfold strikeW
 by_cases h0 : 0 <= t /\ t < (W.l.length : Int)
 ·rw [if_pos h0] at HAT
  rw [if_pos h0]
  obtain ⟨x,hx⟩ : ∃ x,W.l[t.toNat]? = some x:=⟨_,List.getElem?_eq_getElem (by omega)⟩
  rw [hx]
  simp only
  generalize t.toNat = j at *
  obtain ⟨k0,_,_⟩:=HH.out.kept hx
  obtain ⟨T,t1,_,t3⟩:=(HH.out.below (Below.refl _ wa).drew).call hx
  have HST:=strike_any t1 (hF x (List.mem_of_getElem? hx)) hN k t n a c hk0 hk hn ha
  have HFX:=hid (show ∀ w',After wa.drew w' T x.blk (strikeS x.st k n a c).2 -> AfterW wa w' S b g { W with l:=W.l.set j { x with st:=(strikeS x.st k n a c).2 } } from fun w' hA=>AfterW.front (Below.refl _ _).drew (t3 _ _ hA))
  have hjl : j < W.l.length:=(List.getElem?_eq_some_iff.1 hx).1
  have HJ:=hid (show ∀ (y : Kp),(W.l.set j y)[j]? = some y from fun y=>List.getElem?_set_self hjl)
  have HJ2:=hid (show ∀ (y z : Kp),(W.l.set j y).set j z = W.l.set j z from fun y z=>List.set_set ..)
  clear h hF hx t1 t3 h0 hjl
  unfold er fv
  unfold ptr fv er at *
  generalize hS : strikeS x.st k n a c = R at *
  clear hS
  go_enter Tryz.func20,Tryz.ntmps20
  go_wp2_with fail
  rw [<- hwa]
  refine HAT.mono ?_
  clear HAT hwa
  rintro z w1 ⟨rfl,rfl⟩
  go_wp2_with fail
  refine Tl.wp_mix_lit (by kernel_rfl) 5 [15,16,17,18,19] 37 rfl (by kernel_rfl) (AtW w1.drew) (skF g j x.blk w.heap.size k t n a c) rfl
   ⟨fun a' W' hC hF=>?_,fun a' W' hC hF=>?_,fun a' W' hC hF=>?_,fun a' W' hC hF=>?_,fun a' W' hC hF=>?_,trivial⟩ ?_
  ·exact Tl.sm_v 15 _ rfl (Tl.wanted_none rfl) hC rfl (rn_move rfl ((hF 5 (by decide +kernel)).2 (by decide)))
  ·exact Tl.sm_v 16 _ rfl (Tl.wanted_none rfl) hC rfl (rn_nilCheck rfl ((hF 15 (by decide +kernel)).1 (by decide)))
  ·exact Tl.sm_v 17 _ rfl (Tl.wanted_none rfl) hC rfl (rn_f66_0 rfl ((hF 16 (by decide +kernel)).1 (by decide)))
  ·exact Tl.sm_v 18 _ rfl (Tl.wanted_none rfl) hC rfl (rn_load63 rfl ((hF 17 (by decide +kernel)).1 (by decide)) (by rw [show W' = _ from hC]; exact k0))
  ·exact Tl.sm_v 19 _ rfl (Tl.wanted_none rfl) hC rfl (rn_load32 rfl ((hF 3 (by decide +kernel)).2 (by decide)) (by rw [show W' = _ from hC]; exact b0) (by rw [show W' = _ from hC]; exact b1) (by rw [show W' = _ from hC]; exact b2) (by rw [show W' = _ from hC]; exact b3) (by rw [show W' = _ from hC]; exact b4))
  intro v wB hw hv
  obtain rfl : wB = _:=hw
  have v18 : v 18 = .pointer (some ⟨x.blk,0,none⟩):=hv 18 (by decide)
  have v19 : v 19 = .agg #[.int .u8 k,.int .i64 t,.int .i64 n,.int .i64 a,.int .i64 c]:=hv 19 (by decide)
  clear hv k0 b0 b1 b2 b3 b4
  simp only [Tl.fill,List.drop_succ_cons,List.drop_zero]
  simp only [Act.put,List.setIfInBounds_toArray,List.set_cons_succ,List.set_cons_zero,v18,v19]
  clear v18 v19
  go_wp2_with fail
  refine HST.mono ?_
  clear HST
  rintro z w2 ⟨rfl,hA⟩
  have HA2:=hid (HFX.out _ hA)
  have b0 : w2.cell? ⟨w.heap.size,0,none⟩ = some (.int .u8 k):=(HA2.out.has HX.out HNS.out).cell 0
  clear hA HFX
  have HNO:=hid (show (decide (R.1 = 0) && (decide (k ≠ 5) && decide (k ≠ 7))) = false -> AfterW w w2 S b g { W with l:=W.l.set j { x with st:=R.2,sus:=x.sus || (decide (R.1 = 0) && (decide (k ≠ 5) && decide (k ≠ 7))) } } from fun e=>by
   rw [e,Bool.or_false]
   exact AfterW.front HB.out HA2.out)
  by_cases hz : R.1 = 0
  ·have q0 : (R.1 == 0) = true:=by rw [hz]; rfl
   by_cases h5 : k = 5
   ·have q5 : (k != 5) = false:=by rw [h5]; rfl
    have HFI:=hid (HNO.out (by simp [h5]))
    clear hz h5 HNO HA2
    go_wp2_with fail
    go_ret
    exact ⟨rfl,HFI.out⟩
   ·have q5 : (k != 5) = true:=bne_iff_ne.2 h5
    by_cases h7 : k = 7
    ·have q7 : (k != 7) = false:=by rw [h7]; rfl
     have HFI:=hid (HNO.out (by simp [h7]))
     clear hz h5 h7 HNO HA2
     go_wp2_with fail
     go_ret
     exact ⟨rfl,HFI.out⟩
    ·have q7 : (k != 7) = true:=bne_iff_ne.2 h7
     obtain ⟨S3,i3,s3,o3⟩:=HA2.out
     obtain ⟨_,k1,kf⟩:=i3.kept (HJ.out _)
     have f1:=kf (j * 2 + 1)
     have HFI:=hid (show AfterW w (w2.setCell ⟨g,j * 2 + 1,none⟩ (.bool true)) S b g { W with l:=W.l.set j { x with st:=R.2,sus:=x.sus || (decide (R.1 = 0) && (decide (k ≠ 5) && decide (k ≠ 7))) } } from by
      have:=AfterW.front HB.out (AfterW.trans s3 o3 (AfterW.sus i3 (HJ.out _) true))
      simp only [HJ2.out] at this
      rw [show (x.sus || (decide (R.1 = 0) && (decide (k ≠ 5) && decide (k ≠ 7)))) = true from by simp [hz,h5,h7]]
      exact this)
     clear hz h5 h7 HNO HA2 i3 s3 o3 kf
     go_wp2_with fail
     go_ret
     exact ⟨rfl,HFI.out⟩
  ·have q0 : (R.1 == 0) = false:=beq_eq_false_iff_ne.2 hz
   have HFI:=hid (HNO.out (by simp [hz]))
   clear hz HNO HA2
   go_wp2_with fail
   go_ret
   exact ⟨rfl,HFI.out⟩
 ·rw [if_neg h0] at HAT
  rw [if_neg h0]
  clear hF h0
  unfold er fv
  unfold ptr at *
  have HR:=hid (AfterW.front HB.out (AfterW.refl HH.out))
  clear h
  go_enter Tryz.func20,Tryz.ntmps20
  go_wp2_with fail
  rw [<- hwa]
  refine HAT.mono ?_
  clear HAT hwa
  rintro z w1 ⟨rfl,rfl⟩
  go_wp2_with fail
  go_ret
  exact ⟨rfl,HR.out⟩
end Go.Proofs.YteapbbaollmniaaGreatDoor.W
