/- Health: gather. Printed by gen_g2.py. -/
import Derived.Test.YteapbbaollmniaaGreatDoorG1
namespace Go.Proofs.YteapbbaollmniaaGreatDoor
open Go.RowKit Go.Maps
open W
set_option linter.unusedVariables false
section
variable {ev : Operand -> Value} {o : Oper} {w : World} {x y z : Operand}
theorem ens71 (args : Array Value) : (callFunc 71 args).run Tryz.prog w = .ok (.enter 71 args) w:=by kernel_rfl
theorem ens61 (args : Array Value) : (callFunc 61 args).run Tryz.prog w = .ok (.enter 61 args) w:=by kernel_rfl
theorem rn_load25 {g k : Nat} {u v : Value} (ho : o.op = .load 23 x) (hx : ev x = .pointer (some ⟨g,k,none⟩)) (hc : w.cell? ⟨g,k,none⟩ = some u) (hd : w.cell? ⟨g,k + 1,none⟩ = some v) : (execOp ev o).run Tryz.prog w = .ok (.value (.agg #[u,v])) w:=by
 simp [execOp,ho,hx,go_sem,hc,hd]
theorem rn_f25_1 {g k : Nat} (ho : o.op = .fieldAddr 23 x 1) (hx : ev x = .pointer (some ⟨g,k,none⟩)) : (execOp ev o).run Tryz.prog w = .ok (.value (.pointer (some ⟨g,k + 1,none⟩))) w:=by
 simp [execOp,ho,hx,go_sem]
theorem rn_not {u : Bool} (ho : o.op = .unOp .not 4 x) (hx : ev x = .bool u) : (execOp ev o).run Tryz.prog w = .ok (.value (.bool (!u))) w:=by
 simp [execOp,ho,hx,go_sem]
theorem rn_eqp27 {b : Nat} (ho : o.op = .binOp .eql 27 x y 27) (hx : ev x = .pointer (some ⟨b,0,none⟩)) (hy : ev y = .pointer none) : (execOp ev o).run Tryz.prog w = .ok (.value (.bool false)) w:=by
 simp [execOp,ho,hx,hy,go_sem]
theorem rn_neq3b {u v : Int} {r : Bool} (ho : o.op = .binOp .neq 3 x y 3) (hx : ev x = .int .i64 u) (hy : ev y = .int .i64 v) (hr : (!decide (u = v)) = r) : (execOp ev o).run Tryz.prog w = .ok (.value (.bool r)) w:=by
 subst hr
 have q : (u != v) = !decide (u = v):=by by_cases h : u = v <;> simp [h]
 simp [execOp,ho,hx,hy,go_sem,q]
end
def gaF1 (b : Nat) (K N : Int) (i : Nat) (v : Value) (_ : World) : Prop:=match i with
 | 13=>v = .pointer (some ⟨b,0,none⟩) | 14=>v = .bool false | 15=>v = .bool false | 16=>v = .agg #[.int .i64 K,.int .i64 N] | 17=>v = .bool false | 18=>v = .bool true
 | 19=>v = .bool true | 20=>v = .bool true | 26=>v = .bool true | 27=>v = .bool true | 31=>v = .bool true
 | _=>True
def gaF2 (b q : Nat) (K N : Int) (n : Nat) (i : Nat) (v : Value) (_ : World) : Prop:=match i with
 | 13=>v = .pointer (some ⟨b,0,none⟩) | 14=>v = .bool false | 15=>v = .bool false | 16=>v = .agg #[.int .i64 K,.int .i64 N] | 17=>v = .bool true | 18=>v = .bool false
 | 19=>v = .bool false | 20=>v = .bool false | 21=>v = .pointer (some ⟨q,1,none⟩) | 22=>v = .int .i64 N | 23=>v = .pointer (some ⟨b,0,none⟩) | 24=>v = .int .i64 (n : Int)
 | 25=>v = .bool true | 26=>v = .bool true | 27=>v = .bool true | 31=>v = .bool true
 | _=>True
def gaF3 (b q : Nat) (K N : Int) (n : Nat) (d : ByteArray) (y : Bool) (i : Nat) (v : Value) (_ : World) : Prop:=match i with
 | 13=>v = .pointer (some ⟨b,0,none⟩) | 14=>v = .bool false | 15=>v = .bool false | 16=>v = .agg #[.int .i64 K,.int .i64 N] | 17=>v = .bool true | 18=>v = .bool false
 | 19=>v = .bool false | 20=>v = .bool false | 21=>v = .pointer (some ⟨q,1,none⟩) | 22=>v = .int .i64 N | 23=>v = .pointer (some ⟨b,0,none⟩) | 24=>v = .int .i64 (n : Int)
 | 25=>v = .bool false | 26=>v = .bool false | 27=>v = .bool false | 28=>v = .string d | 29=>v = .int .i64 (d.size : Int) | 30=>v = .bool y | 31=>v = .bool y
 | _=>True
/-- the list of what was got: the first ones are filled in -/
def zeroG : Gt:=⟨0,false,⟨#[]⟩⟩
def gpad (s : List Gt) (n : Nat) : List Gt:=s ++ List.replicate (n - s.length) zeroG
def gRow (s : List Gt) (n : Nat) : Array Value:=((gpad s n).flatMap gcell).toArray
theorem gpad_len {s : List Gt} {n : Nat} (h : s.length <= n) : (gpad s n).length = n:=by unfold gpad; simp; omega
theorem gpad_all (s : List Gt) : gpad s s.length = s:=by unfold gpad; simp
theorem gpad_set {s : List Gt} {n : Nat} (h : s.length < n) (x : Gt) : (gpad s n).set s.length x = gpad (s ++ [x]) n:=by
 unfold gpad
 rw [List.set_append,if_neg (by omega),Nat.sub_self]
 obtain ⟨k,hk⟩ : ∃ k,n - s.length = k + 1:=⟨n - s.length - 1,by omega⟩
 rw [hk,List.replicate_succ,List.set_cons_zero]
 rw [show n - (s ++ [x]).length = k by simp; omega]
 simp
theorem gflat_set : ∀ (l : List Gt) (k : Nat) (x : Gt),k < l.length -> (l.set k x).flatMap gcell = (((l.flatMap gcell).set (k * 3) (.int .i64 x.e)).set (k * 3 + 1) (.bool x.sd)).set (k * 3 + 2) (.string x.pl)
 | [],k,x,h=>by simp at h
 | y :: r,0,x,_=>rfl
 | y :: r,k + 1,x,h=>by
  have ih:=gflat_set r k x (by simpa using h)
  rw [List.set_cons_succ,List.flatMap_cons,List.flatMap_cons,ih]
  rw [show (k + 1) * 3 = (k * 3) + 1 + 1 + 1 by omega,show k * 3 + 1 + 1 + 1 + 1 = (k * 3 + 1) + 1 + 1 + 1 by omega,show k * 3 + 1 + 1 + 1 + 2 = (k * 3 + 2) + 1 + 1 + 1 by omega]
  rfl
theorem gflat_get : ∀ (l : List Gt) (k : Nat) (x : Gt),l[k]? = some x -> (l.flatMap gcell)[k * 3]? = some (.int .i64 x.e) /\ (l.flatMap gcell)[k * 3 + 1]? = some (.bool x.sd) /\ (l.flatMap gcell)[k * 3 + 2]? = some (.string x.pl)
 | [],k,x,h=>by simp at h
 | y :: r,0,x,h=>by
  simp at h; subst h
  exact ⟨rfl,rfl,rfl⟩
 | y :: r,k + 1,x,h=>by
  have ih:=gflat_get r k x (by simpa using h)
  rw [show (k + 1) * 3 = (k * 3) + 1 + 1 + 1 by omega,show k * 3 + 1 + 1 + 1 + 1 = (k * 3 + 1) + 1 + 1 + 1 by omega,show k * 3 + 1 + 1 + 1 + 2 = (k * 3 + 2) + 1 + 1 + 1 by omega]
  exact ih
theorem gRow_set {s : List Gt} {n : Nat} (h : s.length < n) (x : Gt) : (((gRow s n).setIfInBounds (s.length * 3) (.int .i64 x.e)).setIfInBounds (s.length * 3 + 1) (.bool x.sd)).setIfInBounds (s.length * 3 + 2) (.string x.pl) = gRow (s ++ [x]) n:=by
 unfold gRow
 rw [<- gpad_set h x,gflat_set _ _ _ (by rw [gpad_len (by omega)]; exact h)]
 simp
theorem gRow_get {s : List Gt} {n k : Nat} {x : Gt} (h : (gpad s n)[k]? = some x) : (gRow s n)[k * 3]? = some (.int .i64 x.e) /\ (gRow s n)[k * 3 + 1]? = some (.bool x.sd) /\ (gRow s n)[k * 3 + 2]? = some (.string x.pl):=by
 unfold gRow
 simp only [List.getElem?_toArray]
 exact gflat_get _ _ _ h
theorem zeroG_get : ∀ (n k : Nat),k < n * 3 -> ((List.replicate n zeroG).flatMap gcell)[k]? = some (if k % 3 = 0 then .int .i64 0 else if k % 3 = 1 then .bool false else .string ⟨#[]⟩)
 | 0,k,h=>by omega
 | n + 1,0,_=>rfl
 | n + 1,1,_=>rfl
 | n + 1,2,_=>rfl
 | n + 1,k + 3,h=>by
  rw [List.replicate_succ,List.flatMap_cons]
  show ((List.replicate n zeroG).flatMap gcell)[k]? = _
  rw [zeroG_get n k (by omega),show (k + 3) % 3 = k % 3 by omega]
theorem gRow_size {s : List Gt} {n : Nat} (h : s.length <= n) : (gRow s n).size = n * 3:=by
 have : ∀ l : List Gt,(l.flatMap gcell).length = l.length * 3:=fun l=>by
  induction l with
  | nil=>rfl
  | cons x r ih=>rw [List.flatMap_cons,List.length_append,ih]; show 3 + r.length * 3 = (r.length + 1) * 3; omega
 unfold gRow
 rw [List.size_toArray,this,gpad_len h]
theorem makes_got (n : Nat) (hn : n <= 1000000) (w : World) : (Instr.makeSlice 82 (.int .i64 (n : Int)) (.int .i64 (n : Int))).run Tryz.prog w = .ok (.slice (some ⟨w.heap.size,0,none⟩) n n) (w.alloc (.cells (gRow [] n) 144)):=by
 obtain ⟨i,hi⟩ : ∃ i,Tryz.prog.info? 144 = some i:=by
  cases h : Tryz.prog.info? 144 with
  | none=>have : (Tryz.prog.info? 144).isSome = true:=by kernel_rfl
          rw [h] at this; cases this
  | some i=>exact ⟨i,rfl⟩
 have hz : (Tryz.prog.info? 144).map (fun i=>(i.zero,i.size,i.bytes)) = some (some (.agg #[.int .i64 0,.bool false,.string ⟨#[]⟩]),3,32):=by kernel_rfl
 rw [hi] at hz
 simp only [Option.map_some,Option.some.injEq,Prod.mk.injEq] at hz
 obtain ⟨h1,h2,h3⟩:=hz
 rw [run_make w 82 144 i (.agg #[.int .i64 0,.bool false,.string ⟨#[]⟩]) Tryz.underlying82 hi h1 .i64 .i64 (n : Int) (n : Int) (by omega) (Int.le_refl _) (by rw [h3]; omega) (by omega)]
 have e : madeCells (Value.agg #[.int .i64 0,.bool false,.string ⟨#[]⟩]).cells (n * 3) = gRow [] n:=by
  apply Array.toList_inj.1
  apply List.ext_getElem?
  intro k
  have hz : (Value.agg #[.int .i64 0,.bool false,.string ⟨#[]⟩]).cells = #[.int .i64 0,.bool false,.string ⟨#[]⟩]:=rfl
  rw [hz]
  by_cases hk : k < n * 3
  ·show _ = ((gpad [] n).flatMap gcell)[k]?
   have hg : gpad [] n = List.replicate n zeroG:=by simp [gpad]
   rw [hg,zeroG_get n k hk]
   have h3 : k % 3 = 0 \/ k % 3 = 1 \/ k % 3 = 2:=by omega
   rcases h3 with h | h | h <;> simp [madeCells,hk,h]
  ·rw [List.getElem?_eq_none (by simp [madeCells]; omega)]
   have:=gRow_size (s:=[]) (n:=n) (by simp)
   rw [List.getElem?_eq_none (by rw [Array.length_toList,this]; omega)]
 rw [h2,Int.toNat_natCast,e]
variable {w0 w w' : World} {b : Nat} {V V' : Wd} {T : Nat -> Prop}
/-- each store is asked in its row -/
def gnx (K N : Int) (d : ByteArray) (s : List Gt) (i : Nat) (x : ByteArray) (e : Int) : Bool × List Gt:=(true,s ++ [gtOf K N (nmS d i) x e])
def gath (V : Wd) (K N : Int) (d : ByteArray) : Int × Wd × List Gt:=askG d (gnx K N d) V.l.length 0 V []
def gaE (V : Wd) (K N : Int) (d : ByteArray) : Int:=if C.Mx.mayC K N = true /\ N = (V.l.length : Int) /\ d.size = 32 then 0 else 1
theorem okC_may (K N : Int) : H.okC K N = C.Mx.mayC K N:=by
 unfold H.okC C.Mx.mayC
 rw [Bool.eq_iff_iff]
 simp only [Bool.and_eq_true,decide_eq_true_eq,and_assoc]
set_option maxHeartbeats 8000000 in
set_option maxRecDepth 20000 in
theorem gather_any (h : WT w0 w b V T) (hl : H.Lay w0) (K N : Int) (d : ByteArray) (hc : V.calls <= 900000) (hf : V.left < 9223372036854775808) (Q : Ending -> World -> Prop)
  (hqA : gaE V K N d = 1 -> ∀ w',WT w0 w' b V T -> Kpt T w w' -> Q (.returned (.tuple #[.slice none 0 0,.int .i64 1])) w')
  (hqC : gaE V K N d = 0 -> (gath V K N d).1 = 56 -> ∀ w',WT w0 w' b (gath V K N d).2.1 T -> Kpt T w w' -> Q (.returned (.tuple #[.slice none 0 0,.int .i64 56])) w')
  (hqO : gaE V K N d = 0 -> (gath V K N d).1 = 0 -> (gath V K N d).2.2.length = V.l.length -> ∀ w' g,WT w0 w' b (gath V K N d).2.1 (fun i=>T i \/ i = g) -> Kpt T w w' -> Has w' g (gRow (gath V K N d).2.2 V.l.length) 144 -> w.heap.size <= g -> Q (.returned (.tuple #[.slice (some ⟨g,0,none⟩) V.l.length V.l.length,.int .i64 0])) w') : Calls Tryz.prog 32 #[.pointer (some ⟨b,0,none⟩),.agg #[.int .i64 K,.int .i64 N],.string d] w Q:=by
 have HQA:=hid hqA
 have HQC:=hid hqC
 have HQO:=hid hqO
 have HL:=hid hl
 have HC:=hid hc
 have HF:=hid hf
 have HH:=hid h
 have HGE : Hid (gaE V K N d = if C.Mx.mayC K N = true /\ N = (V.l.length : Int) /\ d.size = 32 then 0 else 1):=hid rfl
 obtain ⟨q,hqq⟩ : ∃ q,q = w.heap.size:=⟨_,rfl⟩
 obtain ⟨wa,hwa⟩ : ∃ wa,wa = w.alloc (.cells #[.int .i64 K,.int .i64 N] 23):=⟨_,rfl⟩
 have HB:=hid (boxed w (.cells #[.int .i64 K,.int .i64 N] 23))
 have HX:=hid (Has.new w w.heap.size #[.int .i64 K,.int .i64 N] 23 rfl)
 rw [<- hwa] at HB HX
 rw [<- hqq] at HX
 have HQQ:=hid hqq
 have HWA:=hid (h.below HB.out)
 have HKA:=hid (Kpt.below h HB.out)
 have HLT : Hid (q < wa.heap.size):=hid HX.out.lt
 have HTQ : Hid (∀ i,T i -> i < q):=hid (by rw [hqq]; exact h.lt)
 obtain ⟨n,hn⟩ : ∃ n,n = V.l.length:=⟨_,rfl⟩
 have HNE:=hid hn
 have HN : Hid (∀ W',BelW wa W' -> Calls Tryz.prog 61 #[.pointer (some ⟨b,0,none⟩)] W' fun e w'=>e = .returned (.int .i64 (n : Int)) /\ w' = W'):=hid fun W' hW=>by
  have:=(HWA.out.below hW).n
  rw [<- hn] at this
  exact this
 rw [<- hn] at HGE HQO
 clear h hl hc hf hqA hqC hqO hn
 obtain ⟨c0,c1,f0,f1⟩:=two_cells HX.out
 cases hm : C.Mx.mayC K N with
 | false =>
  have HM : Hid (H.okC K N = false):=hid ((okC_may K N).trans hm)
  rw [hm,if_neg (by simp)] at HGE
  clear hm
  go_enter Tryz.func32,Tryz.ntmps32
  go_wp2_with fail
  rw [<- hwa,<- hqq]
  clear hwa hqq
  refine Tl.wp_mix_lit (by kernel_rfl) 19 [13,14,15,16,17,18,19,20,21,22,23,24,25,26,27,28,29,30,31] 64 rfl (by kernel_rfl) (BelW wa) (gaF1 b K N) ((Below.refl _ _).drew)
   ⟨fun a' W' hC hF=>?_,fun a' W' hC hF=>?_,fun a' W' hC hF=>?_,fun a' W' hC hF=>?_,fun a' W' hC hF=>?_,fun a' W' hC hF=>?_,fun a' W' hC hF=>?_,fun a' W' hC hF=>?_,fun a' W' hC hF=>?_,fun a' W' hC hF=>?_,fun a' W' hC hF=>?_,fun a' W' hC hF=>?_,fun a' W' hC hF=>?_,fun a' W' hC hF=>?_,fun a' W' hC hF=>?_,fun a' W' hC hF=>?_,fun a' W' hC hF=>?_,fun a' W' hC hF=>?_,fun a' W' hC hF=>?_,trivial⟩ ?_
  ·exact Tl.sm_v 13 _ rfl (Tl.wanted_none rfl) hC rfl (rn_move rfl ((hF 0 (by decide +kernel)).2 (by decide)))
  ·exact Tl.sm_v 14 _ rfl (Tl.wanted_none rfl) hC rfl (rn_eqp27 rfl ((hF 13 (by decide +kernel)).1 (by decide)) rfl)
  ·exact Tl.sm_v 15 _ rfl (Tl.wanted_none rfl) hC rfl (rn_move rfl ((hF 14 (by decide +kernel)).1 (by decide)))
  ·exact Tl.sm_v 16 _ rfl (Tl.wanted_is rfl rfl ((hF 15 (by decide +kernel)).1 (by decide))) hC rfl (rn_load25 rfl ((hF 4 (by decide +kernel)).2 (by decide)) (BelW.cell hC (p:=⟨q,0,none⟩) HLT.out c0) (BelW.cell hC (p:=⟨q,1,none⟩) HLT.out c1))
  ·refine Tl.sm_call 71 #[_] (Tl.wanted_is rfl rfl ((hF 15 (by decide +kernel)).1 (by decide))) (rn_call1 rfl rfl ((hF 16 (by decide +kernel)).1 (by decide)) (ens71 _)) ((H.code_any K N W').mono ?_)
   rintro e w'' ⟨rfl,hb⟩
   exact ⟨_,rfl,Below.trans hC (hb.mono (Below.size hC)),fun d v _ h=>h,fun d hd=>by cases hd; exact congrArg Value.bool HM.out⟩
  ·exact Tl.sm_v 18 _ rfl (Tl.wanted_is rfl rfl ((hF 15 (by decide +kernel)).1 (by decide))) hC rfl (rn_not (u:=false) rfl ((hF 17 (by decide +kernel)).1 (by decide)))
  ·exact Tl.sm_v 19 _ rfl (Tl.wanted_none rfl) hC rfl (rn_pickF rfl ((hF 15 (by decide +kernel)).1 (by decide)) ((hF 18 (by decide +kernel)).1 (by decide)))
  ·exact Tl.sm_v 20 _ rfl (Tl.wanted_none rfl) hC rfl (rn_move rfl ((hF 19 (by decide +kernel)).1 (by decide)))
  ·exact Tl.sm_skip (Tl.wanted_not rfl rfl ((hF 20 (by decide +kernel)).1 (by decide))) (fun d hd=>by cases hd; trivial)
  ·exact Tl.sm_skip (Tl.wanted_not rfl rfl ((hF 20 (by decide +kernel)).1 (by decide))) (fun d hd=>by cases hd; trivial)
  ·exact Tl.sm_skip (Tl.wanted_not rfl rfl ((hF 20 (by decide +kernel)).1 (by decide))) (fun d hd=>by cases hd; trivial)
  ·exact Tl.sm_skip (Tl.wanted_not rfl rfl ((hF 20 (by decide +kernel)).1 (by decide))) (fun d hd=>by cases hd; trivial)
  ·exact Tl.sm_skip (Tl.wanted_not rfl rfl ((hF 20 (by decide +kernel)).1 (by decide))) (fun d hd=>by cases hd; trivial)
  ·exact Tl.sm_v 26 _ rfl (Tl.wanted_none rfl) hC rfl (rn_pickT rfl ((hF 20 (by decide +kernel)).1 (by decide)) rfl)
  ·exact Tl.sm_v 27 _ rfl (Tl.wanted_none rfl) hC rfl (rn_move rfl ((hF 26 (by decide +kernel)).1 (by decide)))
  ·exact Tl.sm_skip (Tl.wanted_not rfl rfl ((hF 27 (by decide +kernel)).1 (by decide))) (fun d hd=>by cases hd; trivial)
  ·exact Tl.sm_skip (Tl.wanted_not rfl rfl ((hF 27 (by decide +kernel)).1 (by decide))) (fun d hd=>by cases hd; trivial)
  ·exact Tl.sm_skip (Tl.wanted_not rfl rfl ((hF 27 (by decide +kernel)).1 (by decide))) (fun d hd=>by cases hd; trivial)
  ·exact Tl.sm_v 31 _ rfl (Tl.wanted_none rfl) hC rfl (rn_pickT rfl ((hF 27 (by decide +kernel)).1 (by decide)) rfl)
  intro v w1 hw hv
  have v31 : v 31 = .bool true:=hv 31 (by decide)
  have HB1:=hid (show Below wa.heap.size wa w1 from hw)
  clear hv hw
  simp only [Tl.fill,List.drop_succ_cons,List.drop_zero,wpList]
  simp only [Act.put,List.setIfInBounds_toArray,List.set_cons_succ,List.set_cons_zero,v31]
  clear v31
  have HE:=hid (HQA.out HGE.out w1 (HWA.out.below HB1.out) (HKA.out.trans (Kpt.below HWA.out HB1.out)))
  clear c0 c1 f0 f1
  go_wp2_with fail
  exact HE.out
 | true =>
  have HM : Hid (H.okC K N = true):=hid ((okC_may K N).trans hm)
  have HMA:=hid hm
  by_cases hN : N = (n : Int)
  ·have HZ : Hid ((!decide (N = (n : Int))) = false):=hid (by rw [decide_eq_true hN]; rfl)
   have HNN:=hid hN
   by_cases h32 : d.size = 32
   ·have hY : (!decide ((d.size : Int) = 32)) = false:=by rw [decide_eq_true (by omega)]; rfl
    obtain ⟨y,hy⟩ : ∃ y,y = false:=⟨_,rfl⟩
    have HY : Hid ((!decide ((d.size : Int) = 32)) = y):=hid (by rw [hy]; exact hY)
    have HYF:=hid hy
    have HD:=hid h32
    rw [hm,if_pos ⟨rfl,hN,h32⟩] at HGE
    have hn12 : n <= 12:=by
     unfold C.Mx.mayC at hm
     have:=of_decide_eq_true hm
     omega
    have HN12:=hid hn12
    clear hm hN h32 hY hy
    go_enter Tryz.func32,Tryz.ntmps32
    go_wp2_with fail
    rw [<- hwa,<- hqq]
    clear hwa hqq
    refine Tl.wp_mix_lit (by kernel_rfl) 19 [13,14,15,16,17,18,19,20,21,22,23,24,25,26,27,28,29,30,31] 64 rfl (by kernel_rfl) (BelW wa) (gaF3 b q K N n d y) ((Below.refl _ _).drew)
     ⟨fun a' W' hC hF=>?_,fun a' W' hC hF=>?_,fun a' W' hC hF=>?_,fun a' W' hC hF=>?_,fun a' W' hC hF=>?_,fun a' W' hC hF=>?_,fun a' W' hC hF=>?_,fun a' W' hC hF=>?_,fun a' W' hC hF=>?_,fun a' W' hC hF=>?_,fun a' W' hC hF=>?_,fun a' W' hC hF=>?_,fun a' W' hC hF=>?_,fun a' W' hC hF=>?_,fun a' W' hC hF=>?_,fun a' W' hC hF=>?_,fun a' W' hC hF=>?_,fun a' W' hC hF=>?_,fun a' W' hC hF=>?_,trivial⟩ ?_
    ·exact Tl.sm_v 13 _ rfl (Tl.wanted_none rfl) hC rfl (rn_move rfl ((hF 0 (by decide +kernel)).2 (by decide)))
    ·exact Tl.sm_v 14 _ rfl (Tl.wanted_none rfl) hC rfl (rn_eqp27 rfl ((hF 13 (by decide +kernel)).1 (by decide)) rfl)
    ·exact Tl.sm_v 15 _ rfl (Tl.wanted_none rfl) hC rfl (rn_move rfl ((hF 14 (by decide +kernel)).1 (by decide)))
    ·exact Tl.sm_v 16 _ rfl (Tl.wanted_is rfl rfl ((hF 15 (by decide +kernel)).1 (by decide))) hC rfl (rn_load25 rfl ((hF 4 (by decide +kernel)).2 (by decide)) (BelW.cell hC (p:=⟨q,0,none⟩) HLT.out c0) (BelW.cell hC (p:=⟨q,1,none⟩) HLT.out c1))
    ·refine Tl.sm_call 71 #[_] (Tl.wanted_is rfl rfl ((hF 15 (by decide +kernel)).1 (by decide))) (rn_call1 rfl rfl ((hF 16 (by decide +kernel)).1 (by decide)) (ens71 _)) ((H.code_any K N W').mono ?_)
     rintro e w'' ⟨rfl,hb⟩
     exact ⟨_,rfl,Below.trans hC (hb.mono (Below.size hC)),fun d v _ h=>h,fun d hd=>by cases hd; exact congrArg Value.bool HM.out⟩
    ·exact Tl.sm_v 18 _ rfl (Tl.wanted_is rfl rfl ((hF 15 (by decide +kernel)).1 (by decide))) hC rfl (rn_not (u:=true) rfl ((hF 17 (by decide +kernel)).1 (by decide)))
    ·exact Tl.sm_v 19 _ rfl (Tl.wanted_none rfl) hC rfl (rn_pickF rfl ((hF 15 (by decide +kernel)).1 (by decide)) ((hF 18 (by decide +kernel)).1 (by decide)))
    ·exact Tl.sm_v 20 _ rfl (Tl.wanted_none rfl) hC rfl (rn_move rfl ((hF 19 (by decide +kernel)).1 (by decide)))
    ·exact Tl.sm_v 21 _ rfl (Tl.wanted_is rfl rfl ((hF 20 (by decide +kernel)).1 (by decide))) hC rfl (rn_f25_1 rfl ((hF 4 (by decide +kernel)).2 (by decide)))
    ·exact Tl.sm_v 22 _ rfl (Tl.wanted_is rfl rfl ((hF 20 (by decide +kernel)).1 (by decide))) hC rfl (rn_load3 rfl ((hF 21 (by decide +kernel)).1 (by decide)) (BelW.cell hC (p:=⟨q,1,none⟩) HLT.out c1))
    ·exact Tl.sm_v 23 _ rfl (Tl.wanted_is rfl rfl ((hF 20 (by decide +kernel)).1 (by decide))) hC rfl (rn_move rfl ((hF 0 (by decide +kernel)).2 (by decide)))
    ·refine Tl.sm_call 61 #[_] (Tl.wanted_is rfl rfl ((hF 20 (by decide +kernel)).1 (by decide))) (rn_call1 rfl rfl ((hF 23 (by decide +kernel)).1 (by decide)) (ens61 _)) ((HN.out W' hC).mono ?_)
     rintro e w'' ⟨rfl,rfl⟩
     exact ⟨_,rfl,hC,fun d v _ h=>h,fun d hd=>by cases hd; rfl⟩
    ·exact Tl.sm_v 25 _ rfl (Tl.wanted_is rfl rfl ((hF 20 (by decide +kernel)).1 (by decide))) hC rfl (rn_neq3b rfl ((hF 22 (by decide +kernel)).1 (by decide)) ((hF 24 (by decide +kernel)).1 (by decide)) HZ.out)
    ·exact Tl.sm_v 26 _ rfl (Tl.wanted_none rfl) hC rfl (rn_pickF rfl ((hF 20 (by decide +kernel)).1 (by decide)) ((hF 25 (by decide +kernel)).1 (by decide)))
    ·exact Tl.sm_v 27 _ rfl (Tl.wanted_none rfl) hC rfl (rn_move rfl ((hF 26 (by decide +kernel)).1 (by decide)))
    ·exact Tl.sm_v 28 _ rfl (Tl.wanted_is rfl rfl ((hF 27 (by decide +kernel)).1 (by decide))) hC rfl (rn_move rfl ((hF 2 (by decide +kernel)).2 (by decide)))
    ·exact Tl.sm_v 29 _ rfl (Tl.wanted_is rfl rfl ((hF 27 (by decide +kernel)).1 (by decide))) hC rfl (rn_len9 rfl ((hF 28 (by decide +kernel)).1 (by decide)))
    ·exact Tl.sm_v 30 _ rfl (Tl.wanted_is rfl rfl ((hF 27 (by decide +kernel)).1 (by decide))) hC rfl (rn_neq3b rfl ((hF 29 (by decide +kernel)).1 (by decide)) rfl HY.out)
    ·exact Tl.sm_v 31 _ rfl (Tl.wanted_none rfl) hC rfl (rn_pickF rfl ((hF 27 (by decide +kernel)).1 (by decide)) ((hF 30 (by decide +kernel)).1 (by decide)))
    intro v w1 hw hv
    have v31 : v 31 = .bool y:=hv 31 (by decide)
    have HB1:=hid (show Below wa.heap.size wa w1 from hw)
    clear hv hw
    simp only [Tl.fill,List.drop_succ_cons,List.drop_zero,wpList]
    simp only [Act.put,List.setIfInBounds_toArray,List.set_cons_succ,List.set_cons_zero,v31]
    clear v31
    rw [HYF.out]
    have HX1:=hid (HX.out.below HB1.out HX.out.lt)
    clear c0 c1 f0 f1
    obtain ⟨c0,c1,f0,f1⟩:=two_cells HX1.out
    have hmk : ∀ W : World,(Instr.makeSlice 82 (.int .i64 N) (.int .i64 N)).run Tryz.prog W = .ok (.slice (some ⟨W.heap.size,0,none⟩) n n) (W.alloc (.cells (gRow [] n) 144)):=fun W=>by
     rw [HNN.out]
     exact makes_got n (by omega) W
    obtain ⟨ga,hga⟩ : ∃ ga,ga = w1.heap.size:=⟨_,rfl⟩
    obtain ⟨w2,hw2⟩ : ∃ w2,w2 = w1.alloc (.cells (gRow [] n) 144):=⟨_,rfl⟩
    have HB2:=hid (boxed w1 (.cells (gRow [] n) 144))
    have HG2:=hid (Has.new w1 w1.heap.size (gRow [] n) 144 rfl)
    rw [<- hw2] at HB2 HG2
    rw [<- hga] at HG2
    have HX2:=hid (HX1.out.below HB2.out HX1.out.lt)
    have HQG : Hid (q < ga):=hid (by rw [hga]; exact HX1.out.lt)
    have HW1:=hid (HWA.out.below HB1.out)
    have HW2:=hid (HW1.out.below HB2.out)
    have HWT : Hid (WT w0 w2 b V (fun i=>T i \/ i = q \/ i = ga)):=hid (by
     obtain ⟨S,g,s1,s2,s3,s4⟩:=HH.out
     refine ⟨S,g,((s1.below HB.out).below HB1.out).below HB2.out,s2,HW2.out.base,fun i hi=>?_⟩
     have hsz:=HB.out.size
     have hsz1:=HB1.out.size
     have hsz2:=HB2.out.size
     rcases hi with hi | hi | hi
     ·exact ⟨(s4 i hi).1,by have:=(s4 i hi).2; omega⟩
     ·rw [hi]; exact ⟨fun hs=>by have:=s1.bound _ hs; have:=HQQ.out; omega,by have:=HLT.out; omega⟩
     ·rw [hi]; exact ⟨fun hs=>by have:=s1.bound _ hs; have:=HQG.out; have:=HQQ.out; omega,HG2.out.lt⟩)
    have HK2:=hid ((HKA.out.trans (Kpt.below HWA.out HB1.out)).trans (Kpt.below HW1.out HB2.out))
    have HB3:=hid (HB.out.trans ((HB1.out.trans (HB2.out.mono HB1.out.size)).mono HB.out.size))
    clear HWA HKA HX1 HW1 HW2 HX
    go_wp2_with fail
    rw [<- hw2,<- hga]
    clear hmk hw2 hga c0 c1 f0 f1
    go_loopg [9,10,11,12,37] n (fun gk s9 s10 s11 s12 s37 wx=>∃ (k : Nat) (V1 : Wd) (s : List Gt),k + gk = n /\ s37 = .int .i64 (k : Int) /\ Hid (WT w0 wx b V1 (fun i=>T i \/ i = q \/ i = ga) /\ Has wx q #[.int .i64 K,.int .i64 N] 23 /\ Has wx ga (gRow s n) 144 /\ Kpt T w wx /\ s.length = k /\ V1.l.length = n /\ V1.calls <= V.calls + k /\ V1.left < 9223372036854775808 /\ askG d (gnx K N d) gk k V1 s = gath V K N d))
    case atStart=>exact ⟨0,V,[],by omega,rfl,hid ⟨HWT.out,HX2.out,HG2.out,HK2.out,rfl,HNE.out.symm,Nat.le_refl _,HF.out,by unfold gath; rw [<- HNE.out]⟩⟩
    case round =>
     clear HWT HX2 HG2 HK2
     obtain ⟨k,V1,s,hk,rfl,HJ⟩:=hrel
     obtain ⟨j1,j2,j3,j4,j5,j6,j7,j8,j9⟩:=HJ.out
     cases gk with
     | zero =>
      have q1 : ¬ ((k : Int) < (n : Int)):=by omega
      have HE : Hid (Q (.returned (.tuple #[.slice (some ⟨ga,0,none⟩) n n,.int .i64 0])) wr):=hid (by
       have:=HQO.out HGE.out
       rw [<- j9] at this
       refine this rfl (by show s.length = n; omega) wr ga (j1.sub fun i hi=>?_) j4 (by
        show Has wr ga (gRow s n) 144
        exact j3) (by have:=HQG.out; have:=HQQ.out; omega)
       rcases hi with hi | hi
       ·exact .inl hi
       ·exact .inr (.inr hi))
      clear j1 j2 j3 j4 j5 j6 j7 j8 j9
      go_wp2_with fail
      exact HE.out
     | succ g1 =>
      have q1 : (k : Int) < (n : Int):=by omega
      have hkn : k < n:=by omega
      have wk : IntKind.i64.wrap ((k : Int) + 1) = ((k + 1 : Nat) : Int):=wrapN (b:=1) (by have:=HN12.out; omega)
      have HNM : Calls Tryz.prog 72 #[.string d,.int .i64 (k : Int)] wr fun e w'=>e = .returned (.string (nmS d k)) /\ Below wr.heap.size wr w':=H.name_any d (k : Int) (by have:=HD.out; omega) (by omega) (by have:=HN12.out; omega) wr (j1.lay HL.out)
      clear j1 j2 j3 j4 j5 j6 j7 j8 j9
      go_wp2_with fail
      refine HNM.mono ?_
      clear HNM
      rintro _ w3 ⟨rfl,hb3⟩
      obtain ⟨j1,j2,j3,j4,j5,j6,j7,j8,j9⟩:=HJ.out
      have hw3:=j1.below hb3
      have HX3:=hid (j2.below hb3 j2.lt)
      have HG3:=hid (j3.below hb3 j3.lt)
      have HK3:=hid (j4.trans (Kpt.below (j1.sub fun i hi=>.inl hi) hb3))
      have HGT:=hw3.get (by have:=HC.out; have:=HN12.out; omega) j8 (k : Int) (nmS d k) (nmS_size d (by have:=HD.out; omega) k (by have:=HN12.out; omega))
      unfold ptr er at HGT
      have h9:=j9
      rw [askG_succ] at h9
      have HJ5:=hid j5
      have hsm:=askW_small V1 (k : Int)
      have HJ6 : Hid ((askW V1 (k : Int)).l.length = n /\ (askW V1 (k : Int)).calls <= V.calls + (k + 1) /\ (askW V1 (k : Int)).left < 9223372036854775808):=hid ⟨by rw [hsm.2.2]; exact j6,by omega,by omega⟩
      clear j1 j2 j3 j4 j5 j6 j7 j8 j9 HJ hb3 hw3 hsm
      generalize getW V1 (k : Int) (nmS d k) = gg at *
      generalize askW V1 (k : Int) = V2 at *
      obtain ⟨dt,ge⟩:=gg
      simp only at HGT h9
      go_wp2_with fail
      refine HGT.mono ?_
      clear HGT
      rintro _ w4 ⟨rfl,h4,k4⟩
      have HX4:=hid (k4.has (.inr (.inl rfl)) HX3.out)
      have HG4:=hid (k4.has (.inr (.inr rfl)) HG3.out)
      have HK4:=hid (HK3.out.trans (k4.sub fun i hi=>.inl hi))
      have HW4:=hid h4
      clear h4 k4 HX3 HG3 HK3
      by_cases he : ge = 56
      ·rw [if_pos he] at h9
       have HE : Hid (Q (.returned (.tuple #[.slice none 0 0,.int .i64 56])) w4):=hid (by
        have:=HQC.out HGE.out
        rw [<- h9] at this
        exact this rfl w4 (HW4.out.sub fun i hi=>.inl hi) HK4.out)
       subst he
       clear h9
       go_wp2_with fail
       exact HE.out
      ·rw [if_neg he] at h9
       have h9' : askG d (gnx K N d) g1 (k + 1) V2 (s ++ [gtOf K N (nmS d k) dt ge]) = gath V K N d:=h9
       have HA:=hid h9'
       have p1 : ¬ (ge = 56):=he
       clear h9 h9' he
       obtain ⟨c0,c1,f0,f1⟩:=two_cells HX4.out
       have HLK:=looked_any K N (nmS d k) dt ge w4 (HW4.out.lay HL.out)
       obtain ⟨gx,hgx⟩ : ∃ gx,gx = gtOf K N (nmS d k) dt ge:=⟨_,rfl⟩
       rw [<- hgx] at HLK HA
       clear hgx
       obtain ⟨xe,xs,xp⟩:=gx
       unfold gcell at HLK
       simp only at HLK
       go_wp2_with fail
       refine HLK.mono ?_
       clear HLK c0 c1 f0 f1
       rintro _ w5 ⟨rfl,hb5⟩
       have HX5:=hid (HX4.out.below hb5 HX4.out.lt)
       have hg5:=HG4.out.below hb5 HG4.out.lt
       have HK5:=hid (HK4.out.trans (Kpt.below (HW4.out.sub fun i hi=>.inl hi) hb5))
       have hw5:=HW4.out.below hb5
       obtain ⟨z,hz⟩ : ∃ z,(gpad s n)[k]? = some z:=⟨_,List.getElem?_eq_getElem (by rw [gpad_len (by have:=HJ5.out; omega)]; exact hkn)⟩
       obtain ⟨u0,u1,u2⟩:=gRow_get hz
       have e0 : w5.cell? ⟨ga,k * 3,none⟩ = some (.int .i64 z.e):=(hg5.cell _).trans u0
       have e1 : ∀ a,(w5.setCell ⟨ga,k * 3,none⟩ a).cell? ⟨ga,k * 3 + 1,none⟩ = some (.bool z.sd):=fun a=>by
        have:=((hg5.set (k * 3) a).cell (k * 3 + 1))
        rw [Array.getElem?_setIfInBounds_ne (by omega)] at this
        exact this.trans u1
       have e2 : ∀ a c,((w5.setCell ⟨ga,k * 3,none⟩ a).setCell ⟨ga,k * 3 + 1,none⟩ c).cell? ⟨ga,k * 3 + 2,none⟩ = some (.string z.pl):=fun a c=>by
        have:=(((hg5.set (k * 3) a).set (k * 3 + 1) c).cell (k * 3 + 2))
        rw [Array.getElem?_setIfInBounds_ne (by omega),Array.getElem?_setIfInBounds_ne (by omega)] at this
        exact this.trans u2
       have e3 : w5.frozen? ⟨ga,k * 3,none⟩ = false:=hg5.frozen _
       have e4 : ∀ a,(w5.setCell ⟨ga,k * 3,none⟩ a).frozen? ⟨ga,k * 3 + 1,none⟩ = false:=fun a=>(hg5.set (k * 3) a).frozen _
       have e5 : ∀ a c,((w5.setCell ⟨ga,k * 3,none⟩ a).setCell ⟨ga,k * 3 + 1,none⟩ c).frozen? ⟨ga,k * 3 + 2,none⟩ = false:=fun a c=>((hg5.set (k * 3) a).set (k * 3 + 1) c).frozen _
       obtain ⟨w6,hw6⟩ : ∃ w6,w6 = ((w5.setCell ⟨ga,k * 3,none⟩ (.int .i64 xe)).setCell ⟨ga,k * 3 + 1,none⟩ (.bool xs)).setCell ⟨ga,k * 3 + 2,none⟩ (.string xp):=⟨_,rfl⟩
       have ho : Only (fun i=>i = ga) w5 w6:=by
        rw [hw6]
        exact Only.set (p:=⟨ga,k * 3 + 2,none⟩) (Only.set (p:=⟨ga,k * 3 + 1,none⟩) (Only.set (p:=⟨ga,k * 3,none⟩) (Only.refl (fun i=>i = ga) w5) (.inl rfl) _) (.inl rfl) _) (.inl rfl) _
       have HG6 : Hid (Has w6 ga (gRow (s ++ [⟨xe,xs,xp⟩]) n) 144):=hid (by
        rw [hw6,<- gRow_set (by have:=HJ5.out; omega) ⟨xe,xs,xp⟩,HJ5.out]
        exact ((hg5.set _ _).set _ _).set _ _)
       have HX6:=hid (ho.has HX5.out (fun h=>by have:=HQG.out; omega))
       have HW6:=hid (hw5.only2 ho (fun i hi=>.inr (.inr hi)) (fun i hi=>by rw [hi]; have:=HQG.out; have:=HQQ.out; have:=HH.out.base.size; omega))
       have HK6 : Hid (Kpt T w w6):=hid (HK5.out.trans ⟨ho.size,fun i hi=>ho.block i (hw5.lt i (.inl hi)) (fun h=>by have:=HTQ.out i hi; have:=HQG.out; omega)⟩)
       clear u0 u1 u2 hz hg5 hw5 hb5 ho HX4 HG4 HK4 HW4 HX5 HK5
       go_wp2_with fail
       rw [<- hw6]
       go_roundg g1
       case measure=>omega
       case rel=>exact ⟨k + 1,V2,s ++ [⟨xe,xs,xp⟩],by omega,by first | rfl | simp,hid ⟨HW6.out,HX6.out,HG6.out,HK6.out,by simp [HJ5.out],HJ6.out.1,HJ6.out.2.1,HJ6.out.2.2,HA.out⟩⟩
   ·have hY : (!decide ((d.size : Int) = 32)) = true:=by rw [decide_eq_false (by omega)]; rfl
    obtain ⟨y,hy⟩ : ∃ y,y = true:=⟨_,rfl⟩
    have HY : Hid ((!decide ((d.size : Int) = 32)) = y):=hid (by rw [hy]; exact hY)
    have HYF:=hid hy
    rw [if_neg (fun e=>h32 e.2.2)] at HGE
    clear hm hN h32 hY hy
    go_enter Tryz.func32,Tryz.ntmps32
    go_wp2_with fail
    rw [<- hwa,<- hqq]
    clear hwa hqq
    refine Tl.wp_mix_lit (by kernel_rfl) 19 [13,14,15,16,17,18,19,20,21,22,23,24,25,26,27,28,29,30,31] 64 rfl (by kernel_rfl) (BelW wa) (gaF3 b q K N n d y) ((Below.refl _ _).drew)
     ⟨fun a' W' hC hF=>?_,fun a' W' hC hF=>?_,fun a' W' hC hF=>?_,fun a' W' hC hF=>?_,fun a' W' hC hF=>?_,fun a' W' hC hF=>?_,fun a' W' hC hF=>?_,fun a' W' hC hF=>?_,fun a' W' hC hF=>?_,fun a' W' hC hF=>?_,fun a' W' hC hF=>?_,fun a' W' hC hF=>?_,fun a' W' hC hF=>?_,fun a' W' hC hF=>?_,fun a' W' hC hF=>?_,fun a' W' hC hF=>?_,fun a' W' hC hF=>?_,fun a' W' hC hF=>?_,fun a' W' hC hF=>?_,trivial⟩ ?_
    ·exact Tl.sm_v 13 _ rfl (Tl.wanted_none rfl) hC rfl (rn_move rfl ((hF 0 (by decide +kernel)).2 (by decide)))
    ·exact Tl.sm_v 14 _ rfl (Tl.wanted_none rfl) hC rfl (rn_eqp27 rfl ((hF 13 (by decide +kernel)).1 (by decide)) rfl)
    ·exact Tl.sm_v 15 _ rfl (Tl.wanted_none rfl) hC rfl (rn_move rfl ((hF 14 (by decide +kernel)).1 (by decide)))
    ·exact Tl.sm_v 16 _ rfl (Tl.wanted_is rfl rfl ((hF 15 (by decide +kernel)).1 (by decide))) hC rfl (rn_load25 rfl ((hF 4 (by decide +kernel)).2 (by decide)) (BelW.cell hC (p:=⟨q,0,none⟩) HLT.out c0) (BelW.cell hC (p:=⟨q,1,none⟩) HLT.out c1))
    ·refine Tl.sm_call 71 #[_] (Tl.wanted_is rfl rfl ((hF 15 (by decide +kernel)).1 (by decide))) (rn_call1 rfl rfl ((hF 16 (by decide +kernel)).1 (by decide)) (ens71 _)) ((H.code_any K N W').mono ?_)
     rintro e w'' ⟨rfl,hb⟩
     exact ⟨_,rfl,Below.trans hC (hb.mono (Below.size hC)),fun d v _ h=>h,fun d hd=>by cases hd; exact congrArg Value.bool HM.out⟩
    ·exact Tl.sm_v 18 _ rfl (Tl.wanted_is rfl rfl ((hF 15 (by decide +kernel)).1 (by decide))) hC rfl (rn_not (u:=true) rfl ((hF 17 (by decide +kernel)).1 (by decide)))
    ·exact Tl.sm_v 19 _ rfl (Tl.wanted_none rfl) hC rfl (rn_pickF rfl ((hF 15 (by decide +kernel)).1 (by decide)) ((hF 18 (by decide +kernel)).1 (by decide)))
    ·exact Tl.sm_v 20 _ rfl (Tl.wanted_none rfl) hC rfl (rn_move rfl ((hF 19 (by decide +kernel)).1 (by decide)))
    ·exact Tl.sm_v 21 _ rfl (Tl.wanted_is rfl rfl ((hF 20 (by decide +kernel)).1 (by decide))) hC rfl (rn_f25_1 rfl ((hF 4 (by decide +kernel)).2 (by decide)))
    ·exact Tl.sm_v 22 _ rfl (Tl.wanted_is rfl rfl ((hF 20 (by decide +kernel)).1 (by decide))) hC rfl (rn_load3 rfl ((hF 21 (by decide +kernel)).1 (by decide)) (BelW.cell hC (p:=⟨q,1,none⟩) HLT.out c1))
    ·exact Tl.sm_v 23 _ rfl (Tl.wanted_is rfl rfl ((hF 20 (by decide +kernel)).1 (by decide))) hC rfl (rn_move rfl ((hF 0 (by decide +kernel)).2 (by decide)))
    ·refine Tl.sm_call 61 #[_] (Tl.wanted_is rfl rfl ((hF 20 (by decide +kernel)).1 (by decide))) (rn_call1 rfl rfl ((hF 23 (by decide +kernel)).1 (by decide)) (ens61 _)) ((HN.out W' hC).mono ?_)
     rintro e w'' ⟨rfl,rfl⟩
     exact ⟨_,rfl,hC,fun d v _ h=>h,fun d hd=>by cases hd; rfl⟩
    ·exact Tl.sm_v 25 _ rfl (Tl.wanted_is rfl rfl ((hF 20 (by decide +kernel)).1 (by decide))) hC rfl (rn_neq3b rfl ((hF 22 (by decide +kernel)).1 (by decide)) ((hF 24 (by decide +kernel)).1 (by decide)) HZ.out)
    ·exact Tl.sm_v 26 _ rfl (Tl.wanted_none rfl) hC rfl (rn_pickF rfl ((hF 20 (by decide +kernel)).1 (by decide)) ((hF 25 (by decide +kernel)).1 (by decide)))
    ·exact Tl.sm_v 27 _ rfl (Tl.wanted_none rfl) hC rfl (rn_move rfl ((hF 26 (by decide +kernel)).1 (by decide)))
    ·exact Tl.sm_v 28 _ rfl (Tl.wanted_is rfl rfl ((hF 27 (by decide +kernel)).1 (by decide))) hC rfl (rn_move rfl ((hF 2 (by decide +kernel)).2 (by decide)))
    ·exact Tl.sm_v 29 _ rfl (Tl.wanted_is rfl rfl ((hF 27 (by decide +kernel)).1 (by decide))) hC rfl (rn_len9 rfl ((hF 28 (by decide +kernel)).1 (by decide)))
    ·exact Tl.sm_v 30 _ rfl (Tl.wanted_is rfl rfl ((hF 27 (by decide +kernel)).1 (by decide))) hC rfl (rn_neq3b rfl ((hF 29 (by decide +kernel)).1 (by decide)) rfl HY.out)
    ·exact Tl.sm_v 31 _ rfl (Tl.wanted_none rfl) hC rfl (rn_pickF rfl ((hF 27 (by decide +kernel)).1 (by decide)) ((hF 30 (by decide +kernel)).1 (by decide)))
    intro v w1 hw hv
    have v31 : v 31 = .bool y:=hv 31 (by decide)
    have HB1:=hid (show Below wa.heap.size wa w1 from hw)
    clear hv hw
    simp only [Tl.fill,List.drop_succ_cons,List.drop_zero,wpList]
    simp only [Act.put,List.setIfInBounds_toArray,List.set_cons_succ,List.set_cons_zero,v31]
    clear v31
    rw [HYF.out]
    have HE:=hid (HQA.out HGE.out w1 (HWA.out.below HB1.out) (HKA.out.trans (Kpt.below HWA.out HB1.out)))
    clear c0 c1 f0 f1
    go_wp2_with fail
    exact HE.out
  ·have HZ : Hid ((!decide (N = (n : Int))) = true):=hid (by rw [decide_eq_false hN]; rfl)
   rw [if_neg (fun e=>hN e.2.1)] at HGE
   clear hm hN
   go_enter Tryz.func32,Tryz.ntmps32
   go_wp2_with fail
   rw [<- hwa,<- hqq]
   clear hwa hqq
   refine Tl.wp_mix_lit (by kernel_rfl) 19 [13,14,15,16,17,18,19,20,21,22,23,24,25,26,27,28,29,30,31] 64 rfl (by kernel_rfl) (BelW wa) (gaF2 b q K N n) ((Below.refl _ _).drew)
    ⟨fun a' W' hC hF=>?_,fun a' W' hC hF=>?_,fun a' W' hC hF=>?_,fun a' W' hC hF=>?_,fun a' W' hC hF=>?_,fun a' W' hC hF=>?_,fun a' W' hC hF=>?_,fun a' W' hC hF=>?_,fun a' W' hC hF=>?_,fun a' W' hC hF=>?_,fun a' W' hC hF=>?_,fun a' W' hC hF=>?_,fun a' W' hC hF=>?_,fun a' W' hC hF=>?_,fun a' W' hC hF=>?_,fun a' W' hC hF=>?_,fun a' W' hC hF=>?_,fun a' W' hC hF=>?_,fun a' W' hC hF=>?_,trivial⟩ ?_
   ·exact Tl.sm_v 13 _ rfl (Tl.wanted_none rfl) hC rfl (rn_move rfl ((hF 0 (by decide +kernel)).2 (by decide)))
   ·exact Tl.sm_v 14 _ rfl (Tl.wanted_none rfl) hC rfl (rn_eqp27 rfl ((hF 13 (by decide +kernel)).1 (by decide)) rfl)
   ·exact Tl.sm_v 15 _ rfl (Tl.wanted_none rfl) hC rfl (rn_move rfl ((hF 14 (by decide +kernel)).1 (by decide)))
   ·exact Tl.sm_v 16 _ rfl (Tl.wanted_is rfl rfl ((hF 15 (by decide +kernel)).1 (by decide))) hC rfl (rn_load25 rfl ((hF 4 (by decide +kernel)).2 (by decide)) (BelW.cell hC (p:=⟨q,0,none⟩) HLT.out c0) (BelW.cell hC (p:=⟨q,1,none⟩) HLT.out c1))
   ·refine Tl.sm_call 71 #[_] (Tl.wanted_is rfl rfl ((hF 15 (by decide +kernel)).1 (by decide))) (rn_call1 rfl rfl ((hF 16 (by decide +kernel)).1 (by decide)) (ens71 _)) ((H.code_any K N W').mono ?_)
    rintro e w'' ⟨rfl,hb⟩
    exact ⟨_,rfl,Below.trans hC (hb.mono (Below.size hC)),fun d v _ h=>h,fun d hd=>by cases hd; exact congrArg Value.bool HM.out⟩
   ·exact Tl.sm_v 18 _ rfl (Tl.wanted_is rfl rfl ((hF 15 (by decide +kernel)).1 (by decide))) hC rfl (rn_not (u:=true) rfl ((hF 17 (by decide +kernel)).1 (by decide)))
   ·exact Tl.sm_v 19 _ rfl (Tl.wanted_none rfl) hC rfl (rn_pickF rfl ((hF 15 (by decide +kernel)).1 (by decide)) ((hF 18 (by decide +kernel)).1 (by decide)))
   ·exact Tl.sm_v 20 _ rfl (Tl.wanted_none rfl) hC rfl (rn_move rfl ((hF 19 (by decide +kernel)).1 (by decide)))
   ·exact Tl.sm_v 21 _ rfl (Tl.wanted_is rfl rfl ((hF 20 (by decide +kernel)).1 (by decide))) hC rfl (rn_f25_1 rfl ((hF 4 (by decide +kernel)).2 (by decide)))
   ·exact Tl.sm_v 22 _ rfl (Tl.wanted_is rfl rfl ((hF 20 (by decide +kernel)).1 (by decide))) hC rfl (rn_load3 rfl ((hF 21 (by decide +kernel)).1 (by decide)) (BelW.cell hC (p:=⟨q,1,none⟩) HLT.out c1))
   ·exact Tl.sm_v 23 _ rfl (Tl.wanted_is rfl rfl ((hF 20 (by decide +kernel)).1 (by decide))) hC rfl (rn_move rfl ((hF 0 (by decide +kernel)).2 (by decide)))
   ·refine Tl.sm_call 61 #[_] (Tl.wanted_is rfl rfl ((hF 20 (by decide +kernel)).1 (by decide))) (rn_call1 rfl rfl ((hF 23 (by decide +kernel)).1 (by decide)) (ens61 _)) ((HN.out W' hC).mono ?_)
    rintro e w'' ⟨rfl,rfl⟩
    exact ⟨_,rfl,hC,fun d v _ h=>h,fun d hd=>by cases hd; rfl⟩
   ·exact Tl.sm_v 25 _ rfl (Tl.wanted_is rfl rfl ((hF 20 (by decide +kernel)).1 (by decide))) hC rfl (rn_neq3b rfl ((hF 22 (by decide +kernel)).1 (by decide)) ((hF 24 (by decide +kernel)).1 (by decide)) HZ.out)
   ·exact Tl.sm_v 26 _ rfl (Tl.wanted_none rfl) hC rfl (rn_pickF rfl ((hF 20 (by decide +kernel)).1 (by decide)) ((hF 25 (by decide +kernel)).1 (by decide)))
   ·exact Tl.sm_v 27 _ rfl (Tl.wanted_none rfl) hC rfl (rn_move rfl ((hF 26 (by decide +kernel)).1 (by decide)))
   ·exact Tl.sm_skip (Tl.wanted_not rfl rfl ((hF 27 (by decide +kernel)).1 (by decide))) (fun d hd=>by cases hd; trivial)
   ·exact Tl.sm_skip (Tl.wanted_not rfl rfl ((hF 27 (by decide +kernel)).1 (by decide))) (fun d hd=>by cases hd; trivial)
   ·exact Tl.sm_skip (Tl.wanted_not rfl rfl ((hF 27 (by decide +kernel)).1 (by decide))) (fun d hd=>by cases hd; trivial)
   ·exact Tl.sm_v 31 _ rfl (Tl.wanted_none rfl) hC rfl (rn_pickT rfl ((hF 27 (by decide +kernel)).1 (by decide)) rfl)
   intro v w1 hw hv
   have v31 : v 31 = .bool true:=hv 31 (by decide)
   have HB1:=hid (show Below wa.heap.size wa w1 from hw)
   clear hv hw
   simp only [Tl.fill,List.drop_succ_cons,List.drop_zero,wpList]
   simp only [Act.put,List.setIfInBounds_toArray,List.set_cons_succ,List.set_cons_zero,v31]
   clear v31
   have HE:=hid (HQA.out HGE.out w1 (HWA.out.below HB1.out) (HKA.out.trans (Kpt.below HWA.out HB1.out)))
   clear c0 c1 f0 f1
   go_wp2_with fail
   exact HE.out
end Go.Proofs.YteapbbaollmniaaGreatDoor
