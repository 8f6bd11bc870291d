/- Health: Mend. Printed by gen_g9.py. -/
import Derived.Test.YteapbbaollmniaaGreatDoorG8
namespace Go.Proofs.YteapbbaollmniaaGreatDoor
open Go.RowKit Go.Maps
open W
set_option linter.unusedVariables false
section
variable {ev : Operand -> Value} {o : Oper} {w : World} {x y z : Operand}
theorem ens35 (args : Array Value) : (callFunc 35 args).run Tryz.prog w = .ok (.enter 35 args) w:=by kernel_rfl
theorem ens38 (args : Array Value) : (callFunc 38 args).run Tryz.prog w = .ok (.enter 38 args) w:=by kernel_rfl
theorem rn_neq28 {u v : Int} {r : Bool} (ho : o.op = .binOp .neq 28 x y 28) (hx : ev x = .int .i64 u) (hy : ev y = .int .i64 v) (hr : (!decide (u = v)) = r) : (execOp ev o).run Tryz.prog w = .ok (.value (.bool r)) w:=by
 subst hr
 have q : (u != v) = !decide (u = v):=by by_cases h : u = v <;> simp [h]
 simp [execOp,ho,hx,hy,go_sem,q]
theorem rn_neq9b {u v : ByteArray} {r : Bool} (ho : o.op = .binOp .neq 9 x y 9) (hx : ev x = .string u) (hy : ev y = .string v) (hr : (!decide (u = v)) = r) : (execOp ev o).run Tryz.prog w = .ok (.value (.bool r)) w:=by
 subst hr
 have h:=str_eq u v
 simp [execOp,ho,hx,hy,go_sem,h]
end
def mdF1 (ge : Int) (i : Nat) (v : Value) (_ : World) : Prop:=match i with
 | 20=>v = .int .i64 ge | 21=>v = .bool true | 22=>v = .bool true | 28=>v = .bool true
 | _=>True
def mdF2 (va : Value) (q : Nat) (N : Int) (cn : Nat) (z : Bool) (i : Nat) (v : Value) (_ : World) : Prop:=match i with
 | 20=>v = .int .i64 0 | 21=>v = .bool false | 22=>v = .bool false | 23=>v = va | 24=>v = .int .i64 (cn : Int) | 25=>v = .pointer (some ⟨q,1,none⟩) | 26=>v = .int .i64 N | 27=>v = .bool z | 28=>v = .bool z
 | _=>True
def mdF3 (er : Int) (i : Nat) (v : Value) (_ : World) : Prop:=match i with
 | 44=>v = .int .i64 er | 45=>v = .bool true | 46=>v = .bool true | 51=>v = .bool true
 | _=>True
def mdF4 (bb d sd : ByteArray) (z : Bool) (i : Nat) (v : Value) (_ : World) : Prop:=match i with
 | 44=>v = .int .i64 0 | 45=>v = .bool false | 46=>v = .bool false | 47=>v = .string bb | 48=>v = .string sd | 49=>v = .string d | 50=>v = .bool z | 51=>v = .bool z
 | _=>True
variable {w0 w w' : World} {b : Nat} {V V' : Wd} {T : Nat -> Prop}
/-- the first K that are sound -/
def frs (K : Int) (gs : List Gt) : List (Nat × ByteArray):=(gsnd 0 gs).take K.toNat
theorem gsnd_lt : ∀ (i : Nat) (l : List Gt) (p : Nat × ByteArray),p ∈ gsnd i l -> p.1 < i + l.length
 | _,[],p,h=>by cases h
 | i,x :: r,p,h=>by
  unfold gsnd at h
  rcases List.mem_append.1 h with h | h
  ·split at h
   ·rw [List.mem_singleton.1 h]; simp
   ·cases h
  ·have:=gsnd_lt (i + 1) r p h
   simp only [List.length_cons]
   omega
theorem sumN (w : World) (hl : H.Lay w) {s : List Nat} (hs : s.length <= 40000) (hlt : ∀ x ∈ s,x < 256) : Calls Tryz.prog 38 #[.string (C.ofBs s)] w fun e w'=>e = .returned (.string (dig s)) /\ Below w.heap.size w w':=by
 have hz : (C.ofBs s).size = s.length:=H.ofBs_size s
 have:=H.sum_any w hl.ht (C.ofBs s) (by omega)
 rw [show H.ofBs (H.Sha.digest (H.bs (C.ofBs s))) = dig s from by unfold dig; rw [show H.bs (C.ofBs s) = s from H.bs_ofBs s hlt]] at this
 exact this
set_option maxHeartbeats 16000000 in
set_option maxRecDepth 20000 in
theorem mend_any (h : WT w0 w b V T) (hl : H.Lay w0) (K N : Int) (d : ByteArray) {M : Nat} (hok : Ok M V.l.length V) (hM : M + 300 <= 900000) (Q : Ending -> World -> Prop)
  (hqA : gaE V K N d = 1 -> ∀ w',WT w0 w' b V T -> Kpt T w w' -> Q (.returned (.tuple #[.int .i64 0,.int .i64 1])) w')
  (hqC : gaE V K N d = 0 -> (gath V K N d).1 = 56 -> ∀ w',WT w0 w' b (gath V K N d).2.1 T -> Kpt T w w' -> Q (.returned (.tuple #[.int .i64 0,.int .i64 56])) w')
  (hqW : gaE V K N d = 0 -> (gath V K N d).1 = 0 -> (gsnd 0 (gath V K N d).2.2).length = V.l.length -> ∀ w',WT w0 w' b (gath V K N d).2.1 T -> Kpt T w w' -> Q (.returned (.tuple #[.int .i64 0,.int .i64 0])) w')
  (hqD : gaE V K N d = 0 -> (gath V K N d).1 = 0 -> (gath V K N d).2.2.length = V.l.length -> (gsnd 0 (gath V K N d).2.2).length ≠ V.l.length -> ∀ s er,C.DecIs K N (zsOf (frs K (gath V K N d).2.2)) (psOf (frs K (gath V K N d).2.2)) s er ->
   ((er ≠ 0 \/ dig s ≠ d) -> ∀ w',WT w0 w' b (gath V K N d).2.1 T -> Kpt T w w' -> Q (.returned (.tuple #[.int .i64 0,.int .i64 54])) w') /\
   (er = 0 -> dig s = d -> ∃ og : Nat -> Ob,(∀ i,i < V.l.length -> ∀ p e,C.RebIs K N (zsOf (frs K (gath V K N d).2.2)) (psOf (frs K (gath V K N d).2.2)) (i : Int) p e -> (H.mkN K N d (i : Int) (C.ofBs p),H.mkD K N d (i : Int) (C.ofBs p)) = og i) /\
    ∀ w',WT w0 w' b (mendG og (gath V K N d).2.2 0 0 0 (gath V K N d).2.1).2 T -> Kpt T w w' -> Q (.returned (.tuple #[.int .i64 ((mendG og (gath V K N d).2.2 0 0 0 (gath V K N d).2.1).1.1 : Int),.int .i64 (mendG og (gath V K N d).2.2 0 0 0 (gath V K N d).2.1).1.2])) w')) : Calls Tryz.prog 13 #[.pointer (some ⟨b,0,none⟩),.agg #[.int .i64 K,.int .i64 N],.string d] w Q:=by
 have HQA:=hid hqA
 have HQC:=hid hqC
 have HQW:=hid hqW
 have HQD:=hid hqD
 have HL:=hid hl
 have HOK:=hid hok
 have HH:=hid h
 obtain ⟨q1,hq1⟩ : ∃ q1,q1 = w.heap.size:=⟨_,rfl⟩
 obtain ⟨q2,hq2⟩ : ∃ q2,q2 = w.heap.size + 1:=⟨_,rfl⟩
 obtain ⟨q3,hq3⟩ : ∃ q3,q3 = w.heap.size + 2:=⟨_,rfl⟩
 obtain ⟨wa,hwa⟩ : ∃ wa,wa = ((w.alloc (.cells #[.pointer (some ⟨b,0,none⟩)] 27)).alloc (.cells #[.int .i64 K,.int .i64 N] 23)).alloc (.cells #[.string d] 9):=⟨_,rfl⟩
 have HB : Hid (Below w.heap.size w wa):=hid (by rw [hwa]; exact (((Below.refl _ _).alloc (Nat.le_refl _) _).alloc (by simp) _).alloc (by simp; omega) _)
 have HX1 : Hid (Has wa q1 #[.pointer (some ⟨b,0,none⟩)] 27):=hid (by rw [hwa,hq1]; exact ((Has.new w w.heap.size _ _ rfl).alloc _).alloc _)
 have HX2 : Hid (Has wa q2 #[.int .i64 K,.int .i64 N] 23):=hid (by rw [hwa,hq2]; exact (Has.new _ (w.heap.size + 1) _ _ (by simp)).alloc _)
 have HX3 : Hid (Has wa q3 #[.string d] 9):=hid (by rw [hwa,hq3]; exact Has.new _ (w.heap.size + 2) _ _ (by simp))
 have HSZ : Hid (wa.heap.size = w.heap.size + 3):=hid (by rw [hwa]; simp)
 have HQ1:=hid hq1
 have HQ2:=hid hq2
 have HQ3:=hid hq3
 obtain ⟨TA,hTA⟩ : ∃ TA : Nat -> Prop,TA = fun i=>T i \/ i = q1 \/ i = q2 \/ i = q3:=⟨_,rfl⟩
 have HTA:=hid hTA
 have HTS : Hid (∀ i,T i -> TA i):=hid (fun i hi=>by rw [hTA]; exact .inl hi)
 have HT1 : Hid (TA q1 /\ TA q2 /\ TA q3):=hid (by rw [hTA]; exact ⟨.inr (.inl rfl),.inr (.inr (.inl rfl)),.inr (.inr (.inr rfl))⟩)
 have HWA : Hid (WT w0 wa b V TA):=hid (by
  refine (h.new HB.out).sub fun i hi=>?_
  rw [hTA] at hi
  rcases hi with hi | hi | hi | hi
  ·exact .inl hi
  ·exact .inr (by have:=HSZ.out; omega)
  ·exact .inr (by have:=HSZ.out; omega)
  ·exact .inr (by have:=HSZ.out; omega))
 have HKA:=hid (Kpt.below h HB.out)
 clear h hl hok hqA hqC hqW hqD hTA
 have c0 : wa.cell? ⟨q1,0,none⟩ = some (.pointer (some ⟨b,0,none⟩)):=HX1.out.cell 0
 obtain ⟨c1,c2,_,_⟩:=two_cells HX2.out
 have c3 : wa.cell? ⟨q3,0,none⟩ = some (.string d):=HX3.out.cell 0
 go_enter Tryz.func13,Tryz.ntmps13
 rw [hwa,hq1] at c0
 rw [hwa,hq2] at c1 c2
 rw [hwa,hq3] at c3
 go_wp2_with fail
 try simp only [World.size_alloc]
 rw [<- hwa]
 have hq31 : q1 + 1 + 1 = q3:=by omega
 have hq21 : q1 + 1 = q2:=by omega
 rw [<- hq1,hq31,hq21]
 clear hq31 hq21
 clear c0 c1 c2 c3 hwa hq1 hq2 hq3
 have hcc:=HOK.out.calls
 refine gather_any HWA.out HL.out K N d (by omega) HOK.out.left _ (fun e1 w1 h1 k1=>?_) (fun e1 e2 w1 h1 k1=>?_) (fun e1 e2 e3 w1 g h1 k1 hg hgs=>?_)
 ·have HW1:=hid h1
  have HK1:=hid (HKA.out.trans (k1.sub HTS.out))
  obtain ⟨ge,hge⟩ : ∃ ge : Int,ge = 1:=⟨_,rfl⟩
  have HGE0 : Hid ((!decide (ge = 0)) = true):=hid (by rw [hge]; rfl)
  have HGE:=hid hge
  have HE : Hid (∀ w2,Below w1.heap.size w1 w2 -> Q (.returned (.tuple #[.int .i64 0,.int .i64 ge])) w2):=hid (fun w2 h2=>by
   rw [HGE.out]
   exact HQA.out e1 w2 ((HW1.out.below h2).sub HTS.out) (HK1.out.trans (Kpt.below (HW1.out.sub HTS.out) h2)))
  rw [<- hge]
  clear e1 h1 k1 hge
  go_wp2_with fail
  refine Tl.wp_mix_lit (by kernel_rfl) 9 [20,21,22,23,24,25,26,27,28] 57 rfl (by kernel_rfl) (BelW w1) (mdF1 ge) ((Below.refl _ _).drew)
   ⟨fun a' W' hC hF=>?_,fun a' W' hC hF=>?_,fun a' W' hC hF=>?_,fun a' W' hC hF=>?_,fun a' W' hC hF=>?_,fun a' W' hC hF=>?_,fun a' W' hC hF=>?_,fun a' W' hC hF=>?_,fun a' W' hC hF=>?_,trivial⟩ ?_
  ·exact Tl.sm_v 20 _ rfl (Tl.wanted_none rfl) hC rfl (rn_move rfl ((hF 9 (by decide +kernel)).2 (by decide)))
  ·exact Tl.sm_v 21 _ rfl (Tl.wanted_none rfl) hC rfl (rn_neq28 rfl ((hF 20 (by decide +kernel)).1 (by decide)) rfl HGE0.out)
  ·exact Tl.sm_v 22 _ rfl (Tl.wanted_none rfl) hC rfl (rn_move rfl ((hF 21 (by decide +kernel)).1 (by decide)))
  ·exact Tl.sm_skip (Tl.wanted_not rfl rfl ((hF 22 (by decide +kernel)).1 (by decide))) (fun d hd=>by cases hd; trivial)
  ·exact Tl.sm_skip (Tl.wanted_not rfl rfl ((hF 22 (by decide +kernel)).1 (by decide))) (fun d hd=>by cases hd; trivial)
  ·exact Tl.sm_skip (Tl.wanted_not rfl rfl ((hF 22 (by decide +kernel)).1 (by decide))) (fun d hd=>by cases hd; trivial)
  ·exact Tl.sm_skip (Tl.wanted_not rfl rfl ((hF 22 (by decide +kernel)).1 (by decide))) (fun d hd=>by cases hd; trivial)
  ·exact Tl.sm_skip (Tl.wanted_not rfl rfl ((hF 22 (by decide +kernel)).1 (by decide))) (fun d hd=>by cases hd; trivial)
  ·exact Tl.sm_v 28 _ rfl (Tl.wanted_none rfl) hC rfl (rn_pickT rfl ((hF 22 (by decide +kernel)).1 (by decide)) rfl)
  intro v w2 hw hv
  have v28 : v 28 = .bool true:=hv 28 (by decide)
  have HB2:=hid (show Below w1.heap.size w1 w2 from hw)
  clear hv hw
  simp only [Tl.fill,List.drop_succ_cons,List.drop_zero,wpList]
  simp only [Act.put,List.setIfInBounds_toArray,List.set_cons_succ,List.set_cons_zero,v28]
  clear v28
  go_wp2_with fail
  exact HE.out w2 HB2.out
 ·have HW1:=hid h1
  have HK1:=hid (HKA.out.trans (k1.sub HTS.out))
  obtain ⟨ge,hge⟩ : ∃ ge : Int,ge = 56:=⟨_,rfl⟩
  have HGE0 : Hid ((!decide (ge = 0)) = true):=hid (by rw [hge]; rfl)
  have HGE:=hid hge
  have HE : Hid (∀ w2,Below w1.heap.size w1 w2 -> Q (.returned (.tuple #[.int .i64 0,.int .i64 ge])) w2):=hid (fun w2 h2=>by
   rw [HGE.out]
   exact HQC.out e1 e2 w2 ((HW1.out.below h2).sub HTS.out) (HK1.out.trans (Kpt.below (HW1.out.sub HTS.out) h2)))
  rw [<- hge]
  clear e1 e2 h1 k1 hge
  go_wp2_with fail
  refine Tl.wp_mix_lit (by kernel_rfl) 9 [20,21,22,23,24,25,26,27,28] 57 rfl (by kernel_rfl) (BelW w1) (mdF1 ge) ((Below.refl _ _).drew)
   ⟨fun a' W' hC hF=>?_,fun a' W' hC hF=>?_,fun a' W' hC hF=>?_,fun a' W' hC hF=>?_,fun a' W' hC hF=>?_,fun a' W' hC hF=>?_,fun a' W' hC hF=>?_,fun a' W' hC hF=>?_,fun a' W' hC hF=>?_,trivial⟩ ?_
  ·exact Tl.sm_v 20 _ rfl (Tl.wanted_none rfl) hC rfl (rn_move rfl ((hF 9 (by decide +kernel)).2 (by decide)))
  ·exact Tl.sm_v 21 _ rfl (Tl.wanted_none rfl) hC rfl (rn_neq28 rfl ((hF 20 (by decide +kernel)).1 (by decide)) rfl HGE0.out)
  ·exact Tl.sm_v 22 _ rfl (Tl.wanted_none rfl) hC rfl (rn_move rfl ((hF 21 (by decide +kernel)).1 (by decide)))
  ·exact Tl.sm_skip (Tl.wanted_not rfl rfl ((hF 22 (by decide +kernel)).1 (by decide))) (fun d hd=>by cases hd; trivial)
  ·exact Tl.sm_skip (Tl.wanted_not rfl rfl ((hF 22 (by decide +kernel)).1 (by decide))) (fun d hd=>by cases hd; trivial)
  ·exact Tl.sm_skip (Tl.wanted_not rfl rfl ((hF 22 (by decide +kernel)).1 (by decide))) (fun d hd=>by cases hd; trivial)
  ·exact Tl.sm_skip (Tl.wanted_not rfl rfl ((hF 22 (by decide +kernel)).1 (by decide))) (fun d hd=>by cases hd; trivial)
  ·exact Tl.sm_skip (Tl.wanted_not rfl rfl ((hF 22 (by decide +kernel)).1 (by decide))) (fun d hd=>by cases hd; trivial)
  ·exact Tl.sm_v 28 _ rfl (Tl.wanted_none rfl) hC rfl (rn_pickT rfl ((hF 22 (by decide +kernel)).1 (by decide)) rfl)
  intro v w2 hw hv
  have v28 : v 28 = .bool true:=hv 28 (by decide)
  have HB2:=hid (show Below w1.heap.size w1 w2 from hw)
  clear hv hw
  simp only [Tl.fill,List.drop_succ_cons,List.drop_zero,wpList]
  simp only [Act.put,List.setIfInBounds_toArray,List.set_cons_succ,List.set_cons_zero,v28]
  clear v28
  go_wp2_with fail
  exact HE.out w2 HB2.out
 ·obtain ⟨n,hn⟩ : ∃ n,n = V.l.length:=⟨_,rfl⟩
  have HNE:=hid hn
  have hge:=e1
  unfold gaE at hge
  by_cases hh : C.Mx.mayC K N = true /\ N = (V.l.length : Int) /\ d.size = 32
  case neg=>rw [if_neg hh] at hge; cases hge
  have HNN : Hid (N = (n : Int)):=hid (by rw [hn]; exact hh.2.1)
  have hkn:=may_of hh.1
  have HMA:=hid hh.1
  have HN12 : Hid (n <= 12 /\ 1 <= K):=hid ⟨by have:=HNN.out; omega,hkn.1⟩
  clear hge hh hkn
  have HQW':=hid (HQW.out e1 e2)
  have HQD':=hid (HQD.out e1 e2 e3)
  have HOG : Hid (Ok (M + n) V.l.length (gath V K N d).2.1):=hid (by
   have : ∀ (j i M : Nat) (V : Wd) (s : List Gt) (nn : Nat),Ok M nn V -> Ok (M + j) nn (askG d (gnx K N d) j i V s).2.1:=fun j=>by
    induction j with
    | zero=>intro i M V s nn h; exact h
    | succ j ih =>
     intro i M V s nn h
     rw [askG_succ]
     split
     ·exact (h.get (i : Int)).more (by omega)
     ·have:=ih (i + 1) (M + 1) (askW V (i : Int)) (s ++ [gtOf K N (nmS d i) (getW V (i : Int) (nmS d i)).1 (getW V (i : Int) (nmS d i)).2]) nn (h.get (i : Int))
      exact this.more (by omega)
   rw [hn]
   exact this V.l.length 0 M V [] V.l.length HOK.out)
  rw [<- hn] at e3 hg HQW' HQD' HOG ⊢
  generalize (gath V K N d).2.2 = gs at *
  generalize (gath V K N d).2.1 = V1 at *
  clear e1 e2 HQA HQC HQW HQD hn
  have HE3:=hid e3
  have HW1:=hid h1
  have HK1:=hid (HKA.out.trans (k1.sub HTS.out))
  have HY1:=hid (k1.has HT1.out.1 HX1.out)
  have HY2:=hid (k1.has HT1.out.2.1 HX2.out)
  have HY3:=hid (k1.has HT1.out.2.2 HX3.out)
  have HG1:=hid hg
  have HGS:=hid hgs
  have HCN : Hid (∀ W',BelW w1 W' -> Calls Tryz.prog 35 #[.slice (some ⟨g,0,none⟩) n n] W' fun e w'=>e = .returned (.int .i64 ((gsnd 0 gs).length : Int)) /\ Below W'.heap.size W' w'):=hid fun W' hW=>by
   have:=count_any (w:=W') (g:=g) (gs:=gs) (by
    have:=hg.below hW hg.lt
    rw [e3]
    exact this) (by have:=HN12.out; omega)
   rw [e3] at this
   exact this
  obtain ⟨cn,hcn⟩ : ∃ cn,cn = (gsnd 0 gs).length:=⟨_,rfl⟩
  rw [<- hcn] at HCN HQW' HQD'
  have HLT : Hid (q2 < w1.heap.size):=hid HY2.out.lt
  clear h1 k1 hg hgs e3 hcn
  obtain ⟨c0,c1,_,_⟩:=two_cells HY2.out
  by_cases hall : cn = n
  ·obtain ⟨z,hz⟩ : ∃ z,z = true:=⟨_,rfl⟩
   have HZ : Hid (decide ((cn : Int) = N) = z):=hid (by rw [hz]; exact decide_eq_true (by have:=HNN.out; omega))
   have HZT:=hid hz
   have HE : Hid (∀ w2,Below w1.heap.size w1 w2 -> Q (.returned (.tuple #[.int .i64 0,.int .i64 0])) w2):=hid (fun w2 h2=>HQW'.out hall w2 ((HW1.out.below h2).sub fun i hi=>.inl (HTS.out i hi)) (HK1.out.trans (Kpt.below (HW1.out.sub fun i hi=>.inl (HTS.out i hi)) h2)))
   clear hall hz
   go_wp2_with fail
   refine Tl.wp_mix_lit (by kernel_rfl) 9 [20,21,22,23,24,25,26,27,28] 57 rfl (by kernel_rfl) (BelW w1) (mdF2 (.slice (some ⟨g,0,none⟩) n n) q2 N cn z) ((Below.refl _ _).drew)
    ⟨fun a' W' hC hF=>?_,fun a' W' hC hF=>?_,fun a' W' hC hF=>?_,fun a' W' hC hF=>?_,fun a' W' hC hF=>?_,fun a' W' hC hF=>?_,fun a' W' hC hF=>?_,fun a' W' hC hF=>?_,fun a' W' hC hF=>?_,trivial⟩ ?_
   ·exact Tl.sm_v 20 _ rfl (Tl.wanted_none rfl) hC rfl (rn_move rfl ((hF 9 (by decide +kernel)).2 (by decide)))
   ·exact Tl.sm_v 21 _ rfl (Tl.wanted_none rfl) hC rfl (rn_neq28 rfl ((hF 20 (by decide +kernel)).1 (by decide)) rfl rfl)
   ·exact Tl.sm_v 22 _ rfl (Tl.wanted_none rfl) hC rfl (rn_move rfl ((hF 21 (by decide +kernel)).1 (by decide)))
   ·exact Tl.sm_v 23 _ rfl (Tl.wanted_is rfl rfl ((hF 22 (by decide +kernel)).1 (by decide))) hC rfl (rn_move rfl ((hF 8 (by decide +kernel)).2 (by decide)))
   ·refine Tl.sm_call 35 #[_] (Tl.wanted_is rfl rfl ((hF 22 (by decide +kernel)).1 (by decide))) (rn_call1 rfl rfl ((hF 23 (by decide +kernel)).1 (by decide)) (ens35 _)) ((HCN.out W' hC).mono ?_)
    rintro e w'' ⟨rfl,hb⟩
    exact ⟨_,rfl,Below.trans hC (hb.mono (Below.size hC)),fun d v _ h=>h,fun d hd=>by cases hd; rfl⟩
   ·exact Tl.sm_v 25 _ rfl (Tl.wanted_is rfl rfl ((hF 22 (by decide +kernel)).1 (by decide))) hC rfl (rn_f25_1 rfl ((hF 4 (by decide +kernel)).2 (by decide)))
   ·exact Tl.sm_v 26 _ rfl (Tl.wanted_is rfl rfl ((hF 22 (by decide +kernel)).1 (by decide))) hC rfl (rn_load3 rfl ((hF 25 (by decide +kernel)).1 (by decide)) (BelW.cell hC (p:=⟨q2,1,none⟩) HLT.out c1))
   ·exact Tl.sm_v 27 _ rfl (Tl.wanted_is rfl rfl ((hF 22 (by decide +kernel)).1 (by decide))) hC rfl (rn_eql3 rfl ((hF 24 (by decide +kernel)).1 (by decide)) ((hF 26 (by decide +kernel)).1 (by decide)) HZ.out)
   ·exact Tl.sm_v 28 _ rfl (Tl.wanted_none rfl) hC rfl (rn_pickF rfl ((hF 22 (by decide +kernel)).1 (by decide)) ((hF 27 (by decide +kernel)).1 (by decide)))
   intro v w2 hw hv
   have v28 : v 28 = .bool z:=hv 28 (by decide)
   have HB2:=hid (show Below w1.heap.size w1 w2 from hw)
   clear hv hw
   simp only [Tl.fill,List.drop_succ_cons,List.drop_zero,wpList]
   simp only [Act.put,List.setIfInBounds_toArray,List.set_cons_succ,List.set_cons_zero,v28]
   clear v28
   rw [HZT.out]
   clear c0 c1
   go_wp2_with fail
   exact HE.out w2 HB2.out
  ·obtain ⟨z,hz⟩ : ∃ z,z = false:=⟨_,rfl⟩
   have HZ : Hid (decide ((cn : Int) = N) = z):=hid (by rw [hz]; exact decide_eq_false (by have:=HNN.out; omega))
   have HZT:=hid hz
   have HQ9:=hid (HQD'.out hall)
   clear hall hz HQW' HQD'
   go_wp2_with fail
   refine Tl.wp_mix_lit (by kernel_rfl) 9 [20,21,22,23,24,25,26,27,28] 57 rfl (by kernel_rfl) (BelW w1) (mdF2 (.slice (some ⟨g,0,none⟩) n n) q2 N cn z) ((Below.refl _ _).drew)
    ⟨fun a' W' hC hF=>?_,fun a' W' hC hF=>?_,fun a' W' hC hF=>?_,fun a' W' hC hF=>?_,fun a' W' hC hF=>?_,fun a' W' hC hF=>?_,fun a' W' hC hF=>?_,fun a' W' hC hF=>?_,fun a' W' hC hF=>?_,trivial⟩ ?_
   ·exact Tl.sm_v 20 _ rfl (Tl.wanted_none rfl) hC rfl (rn_move rfl ((hF 9 (by decide +kernel)).2 (by decide)))
   ·exact Tl.sm_v 21 _ rfl (Tl.wanted_none rfl) hC rfl (rn_neq28 rfl ((hF 20 (by decide +kernel)).1 (by decide)) rfl rfl)
   ·exact Tl.sm_v 22 _ rfl (Tl.wanted_none rfl) hC rfl (rn_move rfl ((hF 21 (by decide +kernel)).1 (by decide)))
   ·exact Tl.sm_v 23 _ rfl (Tl.wanted_is rfl rfl ((hF 22 (by decide +kernel)).1 (by decide))) hC rfl (rn_move rfl ((hF 8 (by decide +kernel)).2 (by decide)))
   ·refine Tl.sm_call 35 #[_] (Tl.wanted_is rfl rfl ((hF 22 (by decide +kernel)).1 (by decide))) (rn_call1 rfl rfl ((hF 23 (by decide +kernel)).1 (by decide)) (ens35 _)) ((HCN.out W' hC).mono ?_)
    rintro e w'' ⟨rfl,hb⟩
    exact ⟨_,rfl,Below.trans hC (hb.mono (Below.size hC)),fun d v _ h=>h,fun d hd=>by cases hd; rfl⟩
   ·exact Tl.sm_v 25 _ rfl (Tl.wanted_is rfl rfl ((hF 22 (by decide +kernel)).1 (by decide))) hC rfl (rn_f25_1 rfl ((hF 4 (by decide +kernel)).2 (by decide)))
   ·exact Tl.sm_v 26 _ rfl (Tl.wanted_is rfl rfl ((hF 22 (by decide +kernel)).1 (by decide))) hC rfl (rn_load3 rfl ((hF 25 (by decide +kernel)).1 (by decide)) (BelW.cell hC (p:=⟨q2,1,none⟩) HLT.out c1))
   ·exact Tl.sm_v 27 _ rfl (Tl.wanted_is rfl rfl ((hF 22 (by decide +kernel)).1 (by decide))) hC rfl (rn_eql3 rfl ((hF 24 (by decide +kernel)).1 (by decide)) ((hF 26 (by decide +kernel)).1 (by decide)) HZ.out)
   ·exact Tl.sm_v 28 _ rfl (Tl.wanted_none rfl) hC rfl (rn_pickF rfl ((hF 22 (by decide +kernel)).1 (by decide)) ((hF 27 (by decide +kernel)).1 (by decide)))
   intro v w2 hw hv
   have v28 : v 28 = .bool z:=hv 28 (by decide)
   have HB2:=hid (show Below w1.heap.size w1 w2 from hw)
   clear hv hw
   simp only [Tl.fill,List.drop_succ_cons,List.drop_zero,wpList]
   simp only [Act.put,List.setIfInBounds_toArray,List.set_cons_succ,List.set_cons_zero,v28]
   clear v28
   rw [HZT.out]
   clear c0 c1 HZ HCN
   have HW2:=hid (HW1.out.below HB2.out)
   have HK2:=hid (HK1.out.trans (Kpt.below (HW1.out.sub fun i hi=>.inl (HTS.out i hi)) HB2.out))
   have HY1':=hid (HY1.out.below HB2.out HY1.out.lt)
   have HY2':=hid (HY2.out.below HB2.out HY2.out.lt)
   have HY3':=hid (HY3.out.below HB2.out HY3.out.lt)
   have HG2:=hid (HG1.out.below HB2.out HG1.out.lt)
   clear HY1 HY2 HY3 HG1 HW1 HK1 HB2
   obtain ⟨c0,c1,_,_⟩:=two_cells HY2'.out
   have HFR:=first_any (w:=w2) (g:=g) (gs:=gs) (by rw [HE3.out]; exact HG2.out) (by have:=HN12.out; have:=HE3.out; omega) K HN12.out.2
   rw [HE3.out] at HFR
   go_wp2_with fail
   refine HFR.mono ?_
   clear HFR c0 c1
   rintro _ w3 ⟨vh,vp,rfl,rh,rp,hb3⟩
   obtain ⟨ah,ch,rfl⟩:=row_slice rh
   obtain ⟨ap,cp,rfl⟩:=row_slice rp
   have HRH:=hid rh
   have HRP:=hid rp
   have HB3:=hid hb3
   clear rh rp hb3
   obtain ⟨fl,hfl⟩ : ∃ fl,fl = ((gsnd 0 gs).take K.toNat).length:=⟨_,rfl⟩
   rw [<- hfl] at HRH HRP ⊢
   have HFL : Hid (fl = (frs K gs).length):=hid hfl
   have HF12 : Hid ((frs K gs).length <= 1000 /\ ∀ p ∈ frs K gs,p.1 <= 1000):=hid (by
    have h1:=gsnd_len 0 gs
    have h2:=HE3.out
    have h3:=HN12.out
    refine ⟨by unfold frs; rw [List.length_take]; omega,fun p hp=>?_⟩
    have:=gsnd_lt 0 gs p (List.mem_of_mem_take hp)
    omega)
   clear hfl
   obtain ⟨w4,hw4⟩ : ∃ w4,w4 = (w3.alloc (.cells #[.slice ah fl ch] 56)).alloc (.cells #[.slice ap fl cp] 80):=⟨_,rfl⟩
   have hb4 : Below w2.heap.size w2 w4:=by rw [hw4]; exact (HB3.out.alloc HB3.out.size _).alloc (by have:=HB3.out.size; simp; omega) _
   have HH4:=hid (show Has w4 w3.heap.size #[.slice ah fl ch] 56 from by rw [hw4]; exact (Has.new w3 w3.heap.size _ _ rfl).alloc _)
   have HP4:=hid (show Has w4 (w3.heap.size + 1) #[.slice ap fl cp] 80 from by rw [hw4]; exact Has.new _ (w3.heap.size + 1) _ _ (by simp))
   have HRH4 : Hid (w4.ownsRow w2.heap.size 3 1 (.slice ah fl ch) (frs K gs).length (rdInts (frs K gs))):=hid (by rw [hw4,<- HFL.out]; exact (HRH.out.alloc _).alloc _)
   have HRP4 : Hid (w4.ownsRow w2.heap.size 9 1 (.slice ap fl cp) (frs K gs).length (rdStrs (frs K gs))):=hid (by rw [hw4,<- HFL.out]; exact (HRP.out.alloc _).alloc _)
   have HB4:=hid hb4
   have HY24:=hid (HY2'.out.below hb4 HY2'.out.lt)
   have HY34:=hid (HY3'.out.below hb4 HY3'.out.lt)
   obtain ⟨c0,c1,_,_⟩:=two_cells HY24.out
   have k0:=HH4.out.cell 0
   have k1:=HP4.out.cell 0
   simp only [List.getElem?_toArray,List.getElem?_cons_zero] at k0 k1
   have HDC:=C.decode_any K N (.slice ah fl ch) (.slice ap fl cp) (zsOf (frs K gs)) (psOf (frs K gs)) w4 (ints_of HRH4.out HF12.out.1 HF12.out.2) (strs_of HRP4.out HF12.out.1)
   unfold C.cv at HDC
   rw [hw4] at c0 c1 k0 k1 HDC
   clear hb4 HRH HRP
   go_wp2_with fail
   refine HDC.mono ?_
   clear HDC c0 c1 k0 k1
   rw [<- hw4]
   rintro _ w6 ⟨s,er,rfl,hdec,hb6⟩
   have HB6:=hid (HB4.out.trans (hb6.mono HB4.out.size))
   have HB46:=hid hb6
   have HQS:=hid (HQ9.out s er hdec)
   have HDZ:=hid (fun h0=>C.DecIs.zero hdec h0)
   have c3 : w6.cell? ⟨q3,0,none⟩ = some (.string d):=(HY3'.out.below HB6.out HY3'.out.lt).cell 0
   have HLD : Hid (q3 < w6.heap.size):=hid (HY3'.out.below HB6.out HY3'.out.lt).lt
   have HLB : Hid (∀ w7,Below w6.heap.size w6 w7 -> Below w2.heap.size w2 w7):=hid fun w7 h7=>HB6.out.trans (h7.mono HB6.out.size)
   have HLO : Hid ((er ≠ 0 \/ dig s ≠ d) -> ∀ w7,Below w6.heap.size w6 w7 -> Q (.returned (.tuple #[.int .i64 0,.int .i64 54])) w7):=hid fun hh w7 h7=>HQS.out.1 hh w7 ((HW2.out.below (HLB.out w7 h7)).sub fun i hi=>.inl (HTS.out i hi)) (HK2.out.trans (Kpt.below (HW2.out.sub fun i hi=>.inl (HTS.out i hi)) (HLB.out w7 h7)))
   have HK6:=hid (Kpt.below (HW2.out.new (Below.refl _ _)) HB4.out)
   clear hdec hb6 HQ9
   by_cases her : er = 0
   ·have hiso:=(HDZ.out her).2
    have HSM : Hid (∀ W',BelW w6 W' -> Calls Tryz.prog 38 #[.string (C.ofBs s)] W' fun e w'=>e = .returned (.string (dig s)) /\ Below W'.heap.size W' w'):=hid fun W' hW=>sumN W' ((HW2.out.below (HLB.out W' hW)).lay HL.out) (by have:=hiso.1; omega) hiso.2.1
    have HER:=hid her
    subst her
    obtain ⟨bb,hbb⟩ : ∃ bb,bb = C.ofBs s:=⟨_,rfl⟩
    obtain ⟨sd,hsd⟩ : ∃ sd,sd = dig s:=⟨_,rfl⟩
    rw [<- hbb,<- hsd] at HSM
    rw [<- hbb]
    have HSD:=hid hsd
    clear hiso hbb hsd HDZ
    by_cases hdd : sd = d
    ·obtain ⟨z,hz⟩ : ∃ z,z = false:=⟨_,rfl⟩
     have HZ : Hid ((!decide (sd = d)) = z):=hid (by rw [hz,decide_eq_true hdd]; rfl)
     have HZT':=hid hz
     obtain ⟨og,hog,hfin⟩:=HQS.out.2 rfl (HSD.out.symm.trans hdd)
     have HOGG:=hid hog
     have HFIN:=hid hfin
     clear hog hfin hdd hz HLO HQS
     go_wp2_with fail
     refine Tl.wp_mix_lit (by kernel_rfl) 8 [44,45,46,47,48,49,50,51] 57 rfl (by kernel_rfl) (BelW w6) (mdF4 bb d sd z) ((Below.refl _ _).drew)
      ⟨fun a' W' hC hF=>?_,fun a' W' hC hF=>?_,fun a' W' hC hF=>?_,fun a' W' hC hF=>?_,fun a' W' hC hF=>?_,fun a' W' hC hF=>?_,fun a' W' hC hF=>?_,fun a' W' hC hF=>?_,trivial⟩ ?_
     ·exact Tl.sm_v 44 _ rfl (Tl.wanted_none rfl) hC rfl (rn_move rfl ((hF 9 (by decide +kernel)).2 (by decide)))
     ·exact Tl.sm_v 45 _ rfl (Tl.wanted_none rfl) hC rfl (rn_neq28 rfl ((hF 44 (by decide +kernel)).1 (by decide)) rfl rfl)
     ·exact Tl.sm_v 46 _ rfl (Tl.wanted_none rfl) hC rfl (rn_move rfl ((hF 45 (by decide +kernel)).1 (by decide)))
     ·exact Tl.sm_v 47 _ rfl (Tl.wanted_is rfl rfl ((hF 46 (by decide +kernel)).1 (by decide))) hC rfl (rn_move rfl ((hF 12 (by decide +kernel)).2 (by decide)))
     ·refine Tl.sm_call 38 #[_] (Tl.wanted_is rfl rfl ((hF 46 (by decide +kernel)).1 (by decide))) (rn_call1 rfl rfl ((hF 47 (by decide +kernel)).1 (by decide)) (ens38 _)) ((HSM.out W' hC).mono ?_)
      rintro e w'' ⟨rfl,hb⟩
      exact ⟨_,rfl,Below.trans hC (hb.mono (Below.size hC)),fun d v _ h=>h,fun d hd=>by cases hd; rfl⟩
     ·exact Tl.sm_v 49 _ rfl (Tl.wanted_is rfl rfl ((hF 46 (by decide +kernel)).1 (by decide))) hC rfl (rn_load9 rfl ((hF 5 (by decide +kernel)).2 (by decide)) (BelW.cell hC (p:=⟨q3,0,none⟩) HLD.out c3))
     ·exact Tl.sm_v 50 _ rfl (Tl.wanted_is rfl rfl ((hF 46 (by decide +kernel)).1 (by decide))) hC rfl (rn_neq9b rfl ((hF 48 (by decide +kernel)).1 (by decide)) ((hF 49 (by decide +kernel)).1 (by decide)) HZ.out)
     ·exact Tl.sm_v 51 _ rfl (Tl.wanted_none rfl) hC rfl (rn_pickF rfl ((hF 46 (by decide +kernel)).1 (by decide)) ((hF 50 (by decide +kernel)).1 (by decide)))
     intro v w7 hw hv
     have v51 : v 51 = .bool z:=hv 51 (by decide)
     have HB7:=hid (show Below w6.heap.size w6 w7 from hw)
     clear hv hw
     simp only [Tl.fill,List.drop_succ_cons,List.drop_zero,wpList]
     simp only [Act.put,List.setIfInBounds_toArray,List.set_cons_succ,List.set_cons_zero,v51]
     clear v51
     rw [HZT'.out]
     have HB27:=hid (HLB.out w7 HB7.out)
     have HB47:=hid (HB46.out.trans (HB7.out.mono HB46.out.size))
     have HS3:=hid HB3.out.size
     have HL34 : Hid (w3.heap.size + 1 < w4.heap.size):=hid HP4.out.lt
     have HW7:=hid (HW2.out.new HB27.out)
     have HK7:=hid (HK2.out.trans (Kpt.below (HW2.out.sub fun i hi=>.inl (HTS.out i hi)) HB27.out))
     obtain ⟨TB,hTB⟩ : ∃ TB : Nat -> Prop,TB = fun i=>(TA i \/ i = g) \/ (w2.heap.size <= i /\ i < w7.heap.size):=⟨_,rfl⟩
     have hTBA : ∀ i,TA i -> TB i:=fun i hi=>by rw [hTB]; exact .inl (.inl hi)
     have hTBN : ∀ i,w2.heap.size <= i -> i < w4.heap.size -> TB i:=fun i h1 h2=>by rw [hTB]; exact .inr ⟨h1,by have:=HB47.out.size; omega⟩
     have HMX : Hid (MX TB q2 w3.heap.size (w3.heap.size + 1) q3 q1 b K N d (frs K gs) w2.heap.size (.slice ah fl ch) (.slice ap fl cp) w7):=hid
      {c:=HY2'.out.below HB27.out HY2'.out.lt,h:=HH4.out.below HB47.out HH4.out.lt,p:=HP4.out.below HB47.out HP4.out.lt,dg:=HY3'.out.below HB27.out HY3'.out.lt,wp:=HY1'.out.below HB27.out HY1'.out.lt,
       rh:=row_below HRH4.out HB47.out,rp:=row_below HRP4.out HB47.out,tc:=hTBA _ HT1.out.2.1,th:=hTBN _ HS3.out (by have:=HL34.out; omega),tp:=hTBN _ (by have:=HS3.out; omega) HL34.out,td:=hTBA _ HT1.out.2.2,tw:=hTBA _ HT1.out.1,
       trh:=fun q hq=>hTBN q (row_has HRH4.out hq).1 (by obtain ⟨_,cur,hh⟩:=row_has HRH4.out hq; exact hh.lt),
       trp:=fun q hq=>hTBN q (row_has HRP4.out hq).1 (by obtain ⟨_,cur,hh⟩:=row_has HRP4.out hq; exact hh.lt) }
     rw [<- hTB] at HW7
     have hTBg : TB g:=by rw [hTB]; exact .inl (.inr rfl)
     have HTBT : Hid (∀ i,T i -> TB i):=hid fun i hi=>hTBA i (HTS.out i hi)
     have HMD : ∀ Q',(∀ w',WT w0 w' b (mendG og gs 0 0 0 V1).2 TB -> Kpt TB w7 w' -> Q' (.returned (.tuple #[.int .i64 ((mendG og gs 0 0 0 V1).1.1 : Int),.int .i64 (mendG og gs 0 0 0 V1).1.2])) w') -> Calls Tryz.prog 39 #[.slice (some ⟨g,0,none⟩) n n,.func (.func 40) #[] #[.pointer (some ⟨q2,0,none⟩),.pointer (some ⟨w3.heap.size,0,none⟩),.pointer (some ⟨w3.heap.size + 1,0,none⟩),.pointer (some ⟨q3,0,none⟩),.pointer (some ⟨q1,0,none⟩)]] w7 Q':=fun Q' hq'=>mended_any HW7.out HMX.out (HG2.out.below HB27.out HG2.out.lt) hTBg HE3.out HN12.out.1 HL.out HF12.out.1 HF12.out.2 HOG.out (by have:=HN12.out; omega) og HOGG.out Q' hq'
     generalize mendG og gs 0 0 0 V1 = mg at *
     obtain ⟨⟨mm,me⟩,V9⟩:=mg
     simp only at HMD HFIN
     clear hTB hTBA hTBN c3
     go_wp2_with fail
     refine HMD _ ?_
     clear HMD
     intro w9 h9 k9
     have HE:=hid (HFIN.out w9 (h9.sub HTBT.out) (HK7.out.trans (k9.sub HTBT.out)))
     clear h9 k9
     go_wp2_with fail
     exact HE.out
    ·obtain ⟨z,hz⟩ : ∃ z,z = true:=⟨_,rfl⟩
     have HZ : Hid ((!decide (sd = d)) = z):=hid (by rw [hz,decide_eq_false hdd]; rfl)
     have HZT':=hid hz
     have HE:=hid (HLO.out (.inr (by rw [<- HSD.out]; exact hdd)))
     clear hdd hz HLO HQS
     go_wp2_with fail
     refine Tl.wp_mix_lit (by kernel_rfl) 8 [44,45,46,47,48,49,50,51] 57 rfl (by kernel_rfl) (BelW w6) (mdF4 bb d sd z) ((Below.refl _ _).drew)
      ⟨fun a' W' hC hF=>?_,fun a' W' hC hF=>?_,fun a' W' hC hF=>?_,fun a' W' hC hF=>?_,fun a' W' hC hF=>?_,fun a' W' hC hF=>?_,fun a' W' hC hF=>?_,fun a' W' hC hF=>?_,trivial⟩ ?_
     ·exact Tl.sm_v 44 _ rfl (Tl.wanted_none rfl) hC rfl (rn_move rfl ((hF 9 (by decide +kernel)).2 (by decide)))
     ·exact Tl.sm_v 45 _ rfl (Tl.wanted_none rfl) hC rfl (rn_neq28 rfl ((hF 44 (by decide +kernel)).1 (by decide)) rfl rfl)
     ·exact Tl.sm_v 46 _ rfl (Tl.wanted_none rfl) hC rfl (rn_move rfl ((hF 45 (by decide +kernel)).1 (by decide)))
     ·exact Tl.sm_v 47 _ rfl (Tl.wanted_is rfl rfl ((hF 46 (by decide +kernel)).1 (by decide))) hC rfl (rn_move rfl ((hF 12 (by decide +kernel)).2 (by decide)))
     ·refine Tl.sm_call 38 #[_] (Tl.wanted_is rfl rfl ((hF 46 (by decide +kernel)).1 (by decide))) (rn_call1 rfl rfl ((hF 47 (by decide +kernel)).1 (by decide)) (ens38 _)) ((HSM.out W' hC).mono ?_)
      rintro e w'' ⟨rfl,hb⟩
      exact ⟨_,rfl,Below.trans hC (hb.mono (Below.size hC)),fun d v _ h=>h,fun d hd=>by cases hd; rfl⟩
     ·exact Tl.sm_v 49 _ rfl (Tl.wanted_is rfl rfl ((hF 46 (by decide +kernel)).1 (by decide))) hC rfl (rn_load9 rfl ((hF 5 (by decide +kernel)).2 (by decide)) (BelW.cell hC (p:=⟨q3,0,none⟩) HLD.out c3))
     ·exact Tl.sm_v 50 _ rfl (Tl.wanted_is rfl rfl ((hF 46 (by decide +kernel)).1 (by decide))) hC rfl (rn_neq9b rfl ((hF 48 (by decide +kernel)).1 (by decide)) ((hF 49 (by decide +kernel)).1 (by decide)) HZ.out)
     ·exact Tl.sm_v 51 _ rfl (Tl.wanted_none rfl) hC rfl (rn_pickF rfl ((hF 46 (by decide +kernel)).1 (by decide)) ((hF 50 (by decide +kernel)).1 (by decide)))
     intro v w7 hw hv
     have v51 : v 51 = .bool z:=hv 51 (by decide)
     have HB7:=hid (show Below w6.heap.size w6 w7 from hw)
     clear hv hw
     simp only [Tl.fill,List.drop_succ_cons,List.drop_zero,wpList]
     simp only [Act.put,List.setIfInBounds_toArray,List.set_cons_succ,List.set_cons_zero,v51]
     clear v51
     rw [HZT'.out]
     clear c3
     go_wp2_with fail
     exact HE.out w7 HB7.out
   ·have HER : Hid ((!decide (er = 0)) = true):=hid (by rw [decide_eq_false her]; rfl)
    have HE:=hid (HLO.out (.inl her))
    clear her HLO HQS HDZ
    go_wp2_with fail
    refine Tl.wp_mix_lit (by kernel_rfl) 8 [44,45,46,47,48,49,50,51] 57 rfl (by kernel_rfl) (BelW w6) (mdF3 er) ((Below.refl _ _).drew)
     ⟨fun a' W' hC hF=>?_,fun a' W' hC hF=>?_,fun a' W' hC hF=>?_,fun a' W' hC hF=>?_,fun a' W' hC hF=>?_,fun a' W' hC hF=>?_,fun a' W' hC hF=>?_,fun a' W' hC hF=>?_,trivial⟩ ?_
    ·exact Tl.sm_v 44 _ rfl (Tl.wanted_none rfl) hC rfl (rn_move rfl ((hF 9 (by decide +kernel)).2 (by decide)))
    ·exact Tl.sm_v 45 _ rfl (Tl.wanted_none rfl) hC rfl (rn_neq28 rfl ((hF 44 (by decide +kernel)).1 (by decide)) rfl HER.out)
    ·exact Tl.sm_v 46 _ rfl (Tl.wanted_none rfl) hC rfl (rn_move rfl ((hF 45 (by decide +kernel)).1 (by decide)))
    ·exact Tl.sm_skip (Tl.wanted_not rfl rfl ((hF 46 (by decide +kernel)).1 (by decide))) (fun d hd=>by cases hd; trivial)
    ·exact Tl.sm_skip (Tl.wanted_not rfl rfl ((hF 46 (by decide +kernel)).1 (by decide))) (fun d hd=>by cases hd; trivial)
    ·exact Tl.sm_skip (Tl.wanted_not rfl rfl ((hF 46 (by decide +kernel)).1 (by decide))) (fun d hd=>by cases hd; trivial)
    ·exact Tl.sm_skip (Tl.wanted_not rfl rfl ((hF 46 (by decide +kernel)).1 (by decide))) (fun d hd=>by cases hd; trivial)
    ·exact Tl.sm_v 51 _ rfl (Tl.wanted_none rfl) hC rfl (rn_pickT rfl ((hF 46 (by decide +kernel)).1 (by decide)) rfl)
    intro v w7 hw hv
    have v51 : v 51 = .bool true:=hv 51 (by decide)
    have HB7:=hid (show Below w6.heap.size w6 w7 from hw)
    clear hv hw
    simp only [Tl.fill,List.drop_succ_cons,List.drop_zero,wpList]
    simp only [Act.put,List.setIfInBounds_toArray,List.set_cons_succ,List.set_cons_zero,v51]
    clear v51
    clear c3
    go_wp2_with fail
    exact HE.out w7 HB7.out
end Go.Proofs.YteapbbaollmniaaGreatDoor
