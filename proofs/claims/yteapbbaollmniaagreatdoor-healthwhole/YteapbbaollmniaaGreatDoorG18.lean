/- HealthWhole: the walk. -/
import Derived.Test.YteapbbaollmniaaGreatDoorG17
namespace Go.Proofs.YteapbbaollmniaaGreatDoor
open Go.RowKit Go.Maps
open W
set_option linter.unusedVariables false
variable {w0 w w' : World} {b : Nat} {V V' : Wd} {T : Nat -> Prop} {K N : Int} {bl : List Nat}
theorem place3 (z : Int) : ∃ k : Nat,(1 <= k /\ k <= 3) /\ wrap64 (1 + wrap64 ((IntKind.u64.wrap z).tmod 3)) = (k : Int):=by
 have e2 : 0 <= IntKind.u64.wrap z:=by rw [IntKind.wrap_u64]; omega
 generalize IntKind.u64.wrap z = u at *
 obtain ⟨m,rfl⟩:=Int.eq_ofNat_of_zero_le e2
 have hm : m % 3 < 3:=Nat.mod_lt _ (by decide)
 refine ⟨m % 3 + 1,by omega,?_⟩
 rw [Int.tmod_eq_emod_of_nonneg (by omega)]
 unfold wrap64
 omega
theorem RdS.at {v : Value} {l : List Sv} (h : RdS w v l) (hb : Below w.heap.size w w') {k : Nat} {x : Sv} (hx : l[k]? = some x) : ∃ g o c A cc,v = .slice (some ⟨g,o,none⟩) l.length c /\ w'.cell? ⟨g,o + k,none⟩ = some (.slice A x.ks.length cc):=by
 rcases h.1 with ⟨A,c,rfl,rfl⟩ | ⟨g,o,cap,_,rfl,hg,hc⟩
 ·simp at hx
 ·obtain ⟨A,cc,hf⟩:=((h.2 x (List.mem_of_getElem? hx)).1).form
  refine ⟨g,o,cap,A,cc,rfl,?_⟩
  rw [hb.cell (p:=⟨g,o + k,none⟩) hg,hc k x hx,hf]
section
variable {ev : Operand -> Value} {o : Oper} {w : World} {x y : Operand}
theorem rn_ixF {g f n c i : Nat} (ho : o.op = .indexAddr 55 x y) (hx : ev x = .slice (some ⟨g,f,none⟩) n c) (hy : ev y = .int .i64 (i : Int)) (hi : i < n) : (execOp ev o).run Tryz.prog w = .ok (.value (.pointer (some ⟨g,f + i * 5,none⟩))) w:=by
 have h1 : (i : Int) < (n : Int):=by omega
 simp [execOp,ho,hx,hy,go_sem,h1]
theorem rn_fF_1 {g k : Nat} (ho : o.op = .fieldAddr 36 x 1) (hx : ev x = .pointer (some ⟨g,k,none⟩)) : (execOp ev o).run Tryz.prog w = .ok (.value (.pointer (some ⟨g,k + 1,none⟩))) w:=by
 simp [execOp,ho,hx,go_sem]
theorem ens26 (args : Array Value) : (callFunc 26 args).run Tryz.prog w = .ok (.enter 26 args) w:=by kernel_rfl
theorem ens25 (args : Array Value) : (callFunc 25 args).run Tryz.prog w = .ok (.enter 25 args) w:=by kernel_rfl
end
def foV (b b2 g o n c k : Nat) (ft : Int) (fo : Bool) : Nat -> Value
 | 95=>.pointer (some ⟨b,0,none⟩) | 96=>.slice (some ⟨g,o,none⟩) n c | 97=>.int .i64 (k : Int) | 98=>.pointer (some ⟨g,o + k * 5,none⟩) | 99=>.pointer (some ⟨g,o + k * 5 + 1,none⟩) | 100=>.int .i64 ft
 | 102=>.pointer (some ⟨b2,0,none⟩) | 103=>.slice (some ⟨g,o,none⟩) n c | 104=>.int .i64 (k : Int) | 105=>.pointer (some ⟨g,o + k * 5,none⟩) | 106=>.pointer (some ⟨g,o + k * 5 + 1,none⟩) | 107=>.int .i64 ft
 | _=>.bool fo
def foF (b b2 g o n c k : Nat) (ft : Int) (fo : Bool) (O4 O5 : List Ob) (d : Nat) (v : Value) (W : World) : Prop:=match d with
 | 101=>RdO W v O4
 | 108=>RdO W v O5
 | _=>v = foV b b2 g o n c k ft fo d
theorem foF_mono {b b2 g o n c k : Nat} {ft : Int} {fo : Bool} {O4 O5 : List Ob} (d : Nat) (v : Value) (w w' : World) (h : foF b b2 g o n c k ft fo O4 O5 d v w) (hb : Below w.heap.size w w') : foF b b2 g o n c k ft fo O4 O5 d v w':=by
 unfold foF at h ⊢
 split <;> simp only at h
 ·exact h.below hb
 ·exact h.below hb
 ·exact h
theorem strikeW_calls (V : Wd) (k t n a c : Int) : (strikeW V k t n a c).2.calls = V.calls:=by
 unfold strikeW
 split
 ·cases V.l[t.toNat]? <;> rfl
 ·rfl
theorem strikeS_size (s : St) (hF : Fit 100 s) (k n a c : Int) : ∀ p ∈ (strikeS s k n a c).2.seen,p.2.size <= 1000000:=by
 intro p hp
 have hold : ∀ q ∈ s.seen,q.2.size <= 1000000:=fun q hq=>Nat.le_trans (hF.datas q hq) (by decide)
 unfold strikeS at hp
 by_cases hb : badF k n a c = true
 ·rw [if_pos hb] at hp; exact hold p hp
 ·rw [if_neg hb] at hp
  have hb' : badF k n a c = false:=by simpa using hb
  unfold badF at hb'
  simp only [Bool.or_eq_false_iff,decide_eq_false_iff_not] at hb'
  have h1 : k = 1 \/ k = 2 \/ k = 3 \/ k = 4 \/ k = 5 \/ k = 6 \/ k = 7:=by omega
  rcases h1 with rfl | rfl | rfl | rfl | rfl | rfl | rfl
  ·cases hp
  ·have hp' : p ∈ (loseS s n.toNat).seen:=hp
   unfold loseS at hp'
   simp only at hp'
   split at hp'
   ·exact hold p hp'
   ·exact hold p (List.mem_filter.1 hp').1
  ·have hp' : p ∈ (bendS s n.toNat a.toNat c.toNat).seen:=hp
   unfold bendS at hp'
   split at hp'
   ·exact hold p hp'
   ·rename_i q hq
    split at hp'
    ·exact hold p hp'
    ·have hq':=hold q (stk_mem hq)
     rcases mem_put.1 hp' with rfl | ⟨h2,_⟩
     ·show (bent q.2 _ _).size <= _
      rw [bent_size]
      exact hq'
     ·exact hold p h2
  ·exact hold p hp
  ·exact hold p hp
  ·exact hold p hp
  ·exact hold p hp
theorem strikeW_size (h : ∀ x ∈ V.l,Fit 100 x.st) (k t n a c : Int) : ∀ p ∈ objsW (strikeW V k t n a c).2 t,p.2.size <= 1000000:=by
 have hall : ∀ x ∈ (strikeW V k t n a c).2.l,∀ p ∈ x.st.seen,p.2.size <= 1000000:=by
  unfold strikeW
  split
  ·cases hx : V.l[t.toNat]? with
   | none=>exact fun x hx' p hp=>Nat.le_trans ((h x hx').datas p hp) (by decide)
   | some y =>
    intro x hx'
    rcases List.mem_or_eq_of_mem_set hx' with h1 | rfl
    ·exact fun p hp=>Nat.le_trans ((h x h1).datas p hp) (by decide)
    ·exact strikeS_size y.st (h y (List.mem_of_getElem? hx)) k n a c
  ·exact fun x hx' p hp=>Nat.le_trans ((h x hx').datas p hp) (by decide)
 generalize (strikeW V k t n a c).2 = V2 at *
 intro p hp
 unfold objsW at hp
 split at hp
 ·split at hp
  ·rename_i x hx
   exact hall x (List.mem_of_getElem? hx) p hp
  ·cases hp
 ·cases hp
/-- a younger world: it lies from M on, below N -/
def Yng (M N : Nat) (w0 w : World) (b : Nat) (V : Wd) : Prop:=∃ S g,IsWd w S b g V /\ (∀ i,S i -> M <= i /\ i < N) /\ Below w0.heap.size w0 w /\ N <= w.heap.size
theorem Yng.kept {M N : Nat} {T : Nat -> Prop} (h : Yng M N w0 w b V) (hk : Kpt T w w') (hT : ∀ i,M <= i -> i < N -> T i) (hb : Below w0.heap.size w0 w') : Yng M N w0 w' b V:=by
 obtain ⟨S,g,h1,h2,h3,h5⟩:=h
 exact ⟨S,g,h1.only (S':=fun i=>¬ (M <= i /\ i < N)) ⟨hb.os.trans h3.os.symm,hb.tape.trans h3.tape.symm,hb.output.trans h3.output.symm,hk.1,fun i _ hn=>hk.2 i (hT i (by omega) (by omega))⟩ (fun i hi hN=>hN (h2 i hi)),h2,hb,Nat.le_trans h5 hk.1⟩
theorem Yng.up {M N : Nat} (h : Yng M N w0 w b V) (i : Int) : Calls Tryz.prog 28 #[.pointer (some ⟨b,0,none⟩),.int .i64 i] w fun e w'=>e = .returned (.bool (upW V i)) /\ w' = w:=by
 obtain ⟨S,g,h1,_⟩:=h
 exact wup_any h1 i
theorem sdL_crash {n : Nat} (h : LeftW K N bl n V) (sv : List Sv) : sdL K N (dig bl) (crashW V sv).l = sdL K N (dig bl) V.l:=by
 apply List.ext_getElem?
 intro i
 cases hx : (crashW V sv).l[i]? with
 | none =>
  have hl : (crashW V sv).l.length = V.l.length:=crashW_len sv
  have h1:=List.getElem?_eq_none_iff.1 hx
  rw [List.getElem?_eq_none (by rw [sdL_len]; exact h1),List.getElem?_eq_none (by rw [sdL_len]; omega)]
 | some y =>
  obtain ⟨x,hx',e⟩:=crashW_at hx
  rw [sdL_at hx,sdL_at hx',e,(h.st i x hx').crash]
theorem bcell {W : World} {g i : Nat} {l : List Bool} (h : Has W g (bRow l) 4) (hi : i < l.length) : W.cell? ⟨g,i,none⟩ = some (.bool (l.getD i false)):=by
 rw [h.cell i]
 exact bRow_get hi
theorem ens27 (args : Array Value) : (callFunc 27 args).run Tryz.prog w = .ok (.enter 27 args) w:=by kernel_rfl
theorem rn_f23_0 {ev : Operand -> Value} {o : Oper} {x : Operand} {g : Nat} (ho : o.op = .fieldAddr 23 x 0) (hx : ev x = .pointer (some ⟨g,0,none⟩)) : (execOp ev o).run Tryz.prog w = .ok (.value (.pointer (some ⟨g,0,none⟩))) w:=by
 simp [execOp,ho,hx,go_sem]
theorem rn_lss3b {ev : Operand -> Value} {o : Oper} {x y : Operand} {u v : Int} (ho : o.op = .binOp .lss 3 x y 3) (hx : ev x = .int .i64 u) (hy : ev y = .int .i64 v) : (execOp ev o).run Tryz.prog w = .ok (.value (.bool (decide (u < v)))) w:=by
 simp [execOp,ho,hx,hy,go_sem]
theorem rn_call1b {ev : Operand -> Value} {o : Oper} {x : Operand} {f : FuncId} {t : TypeId} {u : Value} (ho : o.op = .call { callee:=.value (.func f),args:=#[x],argTypes:=#[t] }) (hf : ev (.func f) = .func (.func f) #[] #[]) (hx : ev x = u) (hb : (callFunc f #[u]).run Tryz.prog w = .ok (.enter f #[u]) w) : (execOp ev o).run Tryz.prog w = .ok (.enter f #[u]) w:=by
 simp [execOp,ho,hx,hf,go_sem,hb]
theorem Yng.below {M N : Nat} (h : Yng M N w0 w b V) (hb : Below w.heap.size w w') : Yng M N w0 w' b V:=by
 obtain ⟨S,g,h1,h2,h3,h5⟩:=id h
 exact h.kept (T:=fun i=>i < w.heap.size) ⟨hb.size,fun i hi=>hb.block i hi⟩ (fun i _ h=>Nat.lt_of_lt_of_le h h5) (h3.trans (hb.mono h3.size))
def ltV (g q : Nat) (A K : Int) : Nat -> Value
 | 184=>.slice (some ⟨g,0,none⟩) 3 3 | 185=>.int .i64 A | 186=>.pointer (some ⟨q,0,none⟩) | 187=>.int .i64 K
 | _=>.bool (decide (A < K))
set_option maxHeartbeats 16000000 in
set_option maxRecDepth 20000 in
theorem whole_walk (hl : H.Lay w) (kz : Int) (s : ByteArray) {vl vc : Value} {fl : List Flt} {sv : List Sv} (hfl : RdF w vl fl) (hsv : RdS w vc sv) (hsl : sv.length <= 9223372036854775807) : Calls Tryz.prog 5 #[.int .i64 kz,.string s,vl,vc] w fun e w'=>e = .returned (.bool true) /\ Below w.heap.size w w':=by
 have HL:=hid hl
 have HFL:=hid hfl
 have HSV:=hid hsv
 have HSL:=hid hsl
 obtain ⟨al,cl,rfl⟩:=hfl.form
 obtain ⟨ac,cc,rfl⟩:=hsv.form
 obtain ⟨hb1,hb2,hb3⟩:=bl_of s
 obtain ⟨bl,hbl⟩ : ∃ bl,bl = H.bs s:=⟨_,rfl⟩
 rw [<- hbl] at hb1 hb2 hb3
 have HB1:=hid hb1
 have HB2:=hid hb2
 have HB3:=hid hb3
 clear hl hfl hsv hsl hbl hb1 hb2 hb3
 generalize hL1 : fl.length = L1 at *
 generalize hL2 : sv.length = L2 at *
 have HL1:=hid hL1
 have HL2:=hid hL2
 clear hL1 hL2
 have big : ∀ w2,Below w.heap.size w w2 -> Calls Tryz.prog 7 #[] w2 fun e w'=>e = .returned (.bool true) /\ Below w.heap.size w w':=fun w2 h2=>(awake_true w2 (HL.out.below h2)).mono fun e w3 h3=>⟨h3.1,h2.trans (h3.2.mono h2.size)⟩
 have HBIG:=hid big
 clear big
 go_enter Tryz.func5,Tryz.ntmps5
 by_cases n1 : 5000 < s.size
 ·have p1 : (5000 : Int) < (s.size : Int):=by omega
  clear n1
  go_wp2_with fail
  refine (HBIG.out w (Below.refl _ _)).mono ?_
  rintro _ w2 ⟨rfl,hb⟩
  go_wp2_with fail
  go_ret
  exact ⟨rfl,hb⟩
 have p1 : ¬ (5000 : Int) < (s.size : Int):=by omega
 by_cases n2 : 30 < L1
 ·have p2 : (30 : Int) < (L1 : Int):=by omega
  clear n2
  go_wp2_with fail
  refine (HBIG.out w (Below.refl _ _)).mono ?_
  rintro _ w2 ⟨rfl,hb⟩
  go_wp2_with fail
  go_ret
  exact ⟨rfl,hb⟩
 have p2 : ¬ (30 : Int) < (L1 : Int):=by omega
 by_cases n3 : 30 < L2
 ·have p3 : (30 : Int) < (L2 : Int):=by omega
  clear n3
  go_wp2_with fail
  refine (HBIG.out w (Below.refl _ _)).mono ?_
  rintro _ w2 ⟨rfl,hb⟩
  go_wp2_with fail
  go_ret
  exact ⟨rfl,hb⟩
 have p3 : ¬ (30 : Int) < (L2 : Int):=by omega
 have HBL : Hid (bl.length <= 32768):=hid (by rw [HB3.out]; omega)
 have HL30 : Hid (L1 <= 30):=hid (by omega)
 have HL31 : Hid (L2 <= 30):=hid (by omega)
 clear n1 n2 n3
 go_wp2_with fail
 refine (HBIG.out w (Below.refl _ _)).mono ?_
 rintro _ w1 ⟨rfl,hbw⟩
 have HBw:=hid hbw
 clear hbw HBIG p1 p2 p3
 go_wp2_with fail
 have l31 : L2 <= 30:=HL31.out
 go_loopg [9] L2 (fun gk s9 wx=>∃ k : Nat,k + gk = L2 /\ s9 = .int .i64 (k : Int) /\ wx = w1)
 case atStart=>exact ⟨0,by omega,rfl,rfl⟩
 case round =>
  obtain ⟨k,hk,rfl,rfl⟩:=hrel
  cases gk with
  | succ g1 =>
   have q1 : (k : Int) < (L2 : Int):=by omega
   have wk : IntKind.i64.wrap ((k : Int) + 1) = ((k + 1 : Nat) : Int):=wrapN (b:=1) (by omega)
   obtain ⟨x,hx⟩ : ∃ x,sv[k]? = some x:=⟨_,List.getElem?_eq_getElem (by have:=HL2.out; omega)⟩
   obtain ⟨g,o,c9,A,c8,hv,hcell⟩:=RdS.at HSV.out HBw.out hx
   rw [HL2.out] at hv
   cases hv
   clear hx
   by_cases n4 : 60 < x.ks.length
   ·have p4 : (60 : Int) < (x.ks.length : Int):=by omega
    clear n4
    go_wp2_with fail
    go_ret
    exact ⟨rfl,HBw.out⟩
   ·have p4 : ¬ (60 : Int) < (x.ks.length : Int):=by omega
    clear n4
    go_wp2_with fail
    go_roundg g1
    case measure=>omega
    case rel=>exact ⟨k + 1,by omega,by first | rfl | simp,rfl⟩
  | zero =>
   have q1 : ¬ ((k : Int) < (L2 : Int)):=by omega
   obtain ⟨kk,hkk,hK⟩:=place3 kz
   have HKK:=hid hkk
   have hm3 : C.Mx.mayC (kk : Int) ((3 : Nat) : Int) = true:=by
    have : kk = 1 \/ kk = 2 \/ kk = 3:=by omega
    rcases this with rfl | rfl | rfl <;> decide
   have HM3:=hid hm3
   clear hkk hm3
   obtain ⟨q,hq⟩ : ∃ q,q = wr.heap.size:=⟨_,rfl⟩
   obtain ⟨wa,hwa⟩ : ∃ wa,wa = wr.alloc (.cells #[.int .i64 (kk : Int),.int .i64 3] 23):=⟨_,rfl⟩
   have HBa:=hid (boxed wr (.cells #[.int .i64 (kk : Int),.int .i64 3] 23))
   have HX:=hid (Has.new wr wr.heap.size #[.int .i64 (kk : Int),.int .i64 3] 23 rfl)
   rw [<- hwa] at HBa HX
   rw [<- hq] at HX
   go_wp2_with fail
   rw [<- hwa,<- hq]
   clear hwa hq hK
   have HBW:=hid (HBw.out.trans (HBa.out.mono HBw.out.size))
   clear HBa
   refine wnew_any _ 3 _ (fun h=>absurd ⟨by decide,by decide⟩ h) ?_
   intro _ b g S l w2 h1 h2 h3 h4 h5
   have HX2:=hid (HX.out.below h5 HX.out.lt)
   have HW2:=hid (show WT w w2 b (newW l) (fun i=>i = q) from ⟨S,g,h1,fun i hi=>Nat.le_trans HBW.out.size (h4 i hi),HBW.out.trans (h5.mono HBW.out.size),fun i hi=>by
    rw [hi]
    refine ⟨fun hs=>?_,HX2.out.lt⟩
    have:=h4 _ hs
    have:=HX.out.lt
    omega⟩)
   have HI2:=hid (show WI 3 (fun _ s=>s = st0) (newW l) from WI.fresh h2 h3)
   clear h1 h2 h3 h4 h5 HX HBW
   obtain ⟨c0,c1,f0,f1⟩:=two_cells HX2.out
   go_wp2_with fail
   rw [<- HB2.out]
   refine fill_any (kk:=kk) (n:=3) HW2.out HL.out HI2.out rfl HM3.out HBL.out HB1.out _ ?_
   intro V3 w3 h3 k3 f3 n3
   have HX3:=hid (k3.has rfl HX2.out)
   have HW3:=hid h3
   have HI3:=hid f3
   have HC3:=hid n3
   clear h3 k3 f3 n3 c0 c1 f0 f1 HX2 HW2 HI2
   have HLW : Hid (LeftW (kk : Int) 3 bl 3 V3):=hid ⟨HI3.out.lit,HI3.out.len,fun m x hx=>by
    have h1:=HI3.out.st m x hx
    have h2 : m < 3:=by have:=(List.getElem?_eq_some_iff.1 hx).1; have:=HI3.out.len; omega
    unfold fillP at h1
    rw [if_pos h2] at h1
    rw [h1]
    exact Left.held HM3.out HBL.out (by omega),HI3.out.calls,HI3.out.left⟩
   have HRM : Hid (∀ x ∈ V3.l,x.st.room = none):=hid (HI3.out.all (R:=fun s=>s.room = none) fun m s hmn hs=>by unfold fillP at hs; rw [if_pos hmn] at hs; rw [hs]; rfl)
   have HRF : Hid (∀ x ∈ V3.l,x.st.refuse = none):=hid (HI3.out.all (R:=fun s=>s.refuse = none) fun m s hmn hs=>by unfold fillP at hs; rw [if_pos hmn] at hs; rw [hs]; rfl)
   clear HI3
   have l30 : L1 <= 30:=HL30.out
   go_wp2_with fail
   go_loopg [15,16,17] L1 (fun gk s15 s16 s17 wx=>∃ (k : Nat) (V : Wd) (r : Bool),k + gk = L1 /\ s16 = .int .i64 (k : Int) /\ s15 = .bool r /\ Hid (WT w wx b V (fun i=>i = q)) /\ Hid (LeftW (kk : Int) 3 bl 3 V) /\ Hid (V.calls = 6) /\ Hid (r = true -> ∀ x ∈ V.l,x.st.room = none) /\ Hid ((∀ f ∈ fl.take k,f.k ≠ 6) -> ∀ x ∈ V.l,x.st.refuse = none) /\ Hid (Has wx q #[.int .i64 (kk : Int),.int .i64 3] 23))
   case atStart=>exact ⟨0,V3,true,by omega,rfl,rfl,HW3,HLW,HC3,hid fun _=>HRM.out,hid fun _=>HRF.out,HX3⟩
   case round =>
    clear HW3 HLW HC3 HRM HRF HX3
    obtain ⟨k,V,r,hk,rfl,rfl,HW,HLW,HC,HRM,HRF,HX⟩:=hrel
    cases gk with
    | succ g1 =>
     have q1 : (k : Int) < (L1 : Int):=by omega
     have hk1 : k < L1:=by omega
     have wk : IntKind.i64.wrap ((k : Int) + 1) = ((k + 1 : Nat) : Int):=wrapN (b:=1) (by omega)
     obtain ⟨f,hf⟩ : ∃ f,fl[k]? = some f:=⟨_,List.getElem?_eq_getElem (by have:=HL1.out; omega)⟩
     have HF:=hid hf
     obtain ⟨g,o,c9,hv,hok,_⟩:=RdF.at HFL.out HW.out.base hf
     rw [HL1.out] at hv
     cases hv
     have HCE : Hid (∀ W,Below w.heap.size w W -> ∀ (i : Nat) (u : Value),(fcells f)[i]? = some u -> W.cell? ⟨g,o + k * 5 + i,none⟩ = some u):=hid fun W hW i u hu=>by
      obtain ⟨g',o',c',e',_,hh⟩:=RdF.at HFL.out hW hf
      rw [HL1.out] at e'
      cases e'
      exact hh i u hu
     have HOK:=hid hok
     clear hf hok
     obtain ⟨fk,ft,fn,fa,fc⟩:=f
     go_wp2_with fail
     refine (HW.out.copy (by rw [HLW.out.len]; decide) (fun x hx=>Nat.le_trans (HLW.out.fit x hx).writes (by decide))).mono ?_
     rintro _ w2 ⟨b2,rfl,l',h2,hsk,hb2⟩
     have HSK:=hid hsk
     have HC2:=hid (h2.rebase HW.out.base)
     have HO2:=hid (HW.out.old.below hb2)
     have HX2:=hid (HX.out.below hb2 HX.out.lt)
     have HQL : Hid (q < wr.heap.size):=hid HX.out.lt
     clear h2 hsk hb2 HW HX
     have d0:=HCE.out _ HC2.out.base 0 _ rfl
     have d1:=HCE.out _ HC2.out.base 1 _ rfl
     have d2:=HCE.out _ HC2.out.base 2 _ rfl
     have d3:=HCE.out _ HC2.out.base 3 _ rfl
     have d4:=HCE.out _ HC2.out.base 4 _ rfl
     unfold ptr
     simp only [Nat.add_zero] at d0
     go_wp2_with fail
     refine strikeB HC2.out (sameK_fit HSK.out HLW.out.fit) HOK.out (Prod.eta _).symm _ ?_
     intro w3 h3 k3
     have HC3:=hid h3
     have HO3:=hid (HO2.out.kept k3 h3.base)
     have HX3:=hid (k3.has HQL.out HX2.out)
     clear h3 k3 HC2 HO2 HX2 d0 d1 d2 d3 d4
     obtain ⟨O4,hO4⟩ : ∃ O4,O4 = objsW V ft:=⟨_,rfl⟩
     obtain ⟨O5,hO5⟩ : ∃ O5,O5 = objsW (strikeW V fk ft fn fa fc).2 ft:=⟨_,rfl⟩
     obtain ⟨fo,hfo⟩ : ∃ fo,fo = forgedB O4 O5:=⟨_,rfl⟩
     have HT4 : Hid (∀ W,Below w3.heap.size w3 W -> Calls Tryz.prog 26 #[.pointer (some ⟨b,0,none⟩),.int .i64 ft] W fun e w'=>∃ v,e = .returned v /\ RdO w' v O4 /\ Below W.heap.size W w'):=hid fun W hW =>
      ((HO3.out.below hW).back.objs (fun x hx=>Nat.le_trans (HLW.out.fit x hx).seen (by decide)) ft).mono fun e w' ⟨v,h1,h2,h3⟩=>⟨v,h1,by rw [hO4]; exact RdO.of h2,h3⟩
     have HT5 : Hid (∀ W,Below w3.heap.size w3 W -> Calls Tryz.prog 26 #[.pointer (some ⟨b2,0,none⟩),.int .i64 ft] W fun e w'=>∃ v,e = .returned v /\ RdO w' v O5 /\ Below W.heap.size W w'):=hid fun W hW =>
      ((HC3.out.below hW).objs (strikeW_len (sameK_fit HSK.out HLW.out.fit) fk ft fn fa fc) ft).mono fun e w' ⟨v,h1,h2,h3⟩=>⟨v,h1,by rw [hO5]; rw [strike_copy HSK.out] at h2; exact RdO.of h2,h3⟩
     have HFG : Hid (∀ W v4 v5,RdO W v4 O4 -> RdO W v5 O5 -> Calls Tryz.prog 25 #[v4,v5] W fun e w'=>e = .returned (.bool fo) /\ Below W.heap.size W w'):=hid fun W v4 v5 r4 r5=>by
      have:=forged_any r4 r5 (by rw [hO4]; exact objsW_len (fun x hx=>Nat.le_trans (HLW.out.fit x hx).seen (by decide)) ft) (by rw [hO5]; exact objsW_len (strikeW_len HLW.out.fit fk ft fn fa fc) ft) (by rw [hO5]; exact strikeW_size HLW.out.fit fk ft fn fa fc)
      rw [<- hfo] at this
      exact this
     have HFO : Hid (fo = forgedB (objsW V ft) (objsW (strikeW V fk ft fn fa fc).2 ft)):=hid (by rw [hfo,hO4,hO5])
     have HB3 : Hid (Below w.heap.size w w3):=hid HC3.out.base
     clear hO4 hO5 hfo
     go_wp2_with fail
     refine H.Tl.wp_tail_lit (by kernel_rfl) 15 [95,96,97,98,99,100,101,102,103,104,105,106,107,108,109] 256 rfl (by kernel_rfl) (fun W=>Below w3.heap.size w3 W) (foF b b2 g o L1 cl k ft fo O4 O5) foF_mono ((Below.refl _ _).drew)
      ⟨fun a' W' hC hF=>?_,fun a' W' hC hF=>?_,fun a' W' hC hF=>?_,fun a' W' hC hF=>?_,fun a' W' hC hF=>?_,fun a' W' hC hF=>?_,fun a' W' hC hF=>?_,fun a' W' hC hF=>?_,fun a' W' hC hF=>?_,fun a' W' hC hF=>?_,fun a' W' hC hF=>?_,fun a' W' hC hF=>?_,fun a' W' hC hF=>?_,fun a' W' hC hF=>?_,fun a' W' hC hF=>?_,trivial⟩ ?_
     ·exact H.Tl.st_v 95 _ rfl rfl hC rfl (rn_move rfl ((hF 11 (by decide +kernel)).2 (by decide)))
     ·exact H.Tl.st_v 96 _ rfl rfl hC rfl (rn_move rfl ((hF 2 (by decide +kernel)).2 (by decide)))
     ·exact H.Tl.st_v 97 _ rfl rfl hC rfl (rn_move rfl ((hF 16 (by decide +kernel)).2 (by decide)))
     ·exact H.Tl.st_v 98 _ rfl rfl hC rfl (rn_ixF rfl ((hF 96 (by decide +kernel)).1 (by decide)) ((hF 97 (by decide +kernel)).1 (by decide)) hk1)
     ·exact H.Tl.st_v 99 _ rfl rfl hC rfl (rn_fF_1 rfl ((hF 98 (by decide +kernel)).1 (by decide)))
     ·exact H.Tl.st_v 100 _ rfl rfl hC rfl (rn_load3 rfl ((hF 99 (by decide +kernel)).1 (by decide)) (HCE.out _ (HB3.out.trans (Below.mono hC HB3.out.size)) 1 _ rfl))
     ·exact H.Tl.st_call 101 26 _ rfl (H.Tl.wanted_none rfl) (rn_call2 rfl rfl ((hF 95 (by decide +kernel)).1 (by decide)) ((hF 100 (by decide +kernel)).1 (by decide)) (ens26 _)) ((HT4.out W' hC).mono fun e w'' ⟨v,h1,h2,h3⟩=>⟨v,h1,Below.trans hC (h3.mono (Below.size hC)),h3,h2⟩)
     ·exact H.Tl.st_v 102 _ rfl rfl hC rfl (rn_move rfl ((hF 17 (by decide +kernel)).2 (by decide)))
     ·exact H.Tl.st_v 103 _ rfl rfl hC rfl (rn_move rfl ((hF 2 (by decide +kernel)).2 (by decide)))
     ·exact H.Tl.st_v 104 _ rfl rfl hC rfl (rn_move rfl ((hF 16 (by decide +kernel)).2 (by decide)))
     ·exact H.Tl.st_v 105 _ rfl rfl hC rfl (rn_ixF rfl ((hF 103 (by decide +kernel)).1 (by decide)) ((hF 104 (by decide +kernel)).1 (by decide)) hk1)
     ·exact H.Tl.st_v 106 _ rfl rfl hC rfl (rn_fF_1 rfl ((hF 105 (by decide +kernel)).1 (by decide)))
     ·exact H.Tl.st_v 107 _ rfl rfl hC rfl (rn_load3 rfl ((hF 106 (by decide +kernel)).1 (by decide)) (HCE.out _ (HB3.out.trans (Below.mono hC HB3.out.size)) 1 _ rfl))
     ·exact H.Tl.st_call 108 26 _ rfl (H.Tl.wanted_none rfl) (rn_call2 rfl rfl ((hF 102 (by decide +kernel)).1 (by decide)) ((hF 107 (by decide +kernel)).1 (by decide)) (ens26 _)) ((HT5.out W' hC).mono fun e w'' ⟨v,h1,h2,h3⟩=>⟨v,h1,Below.trans hC (h3.mono (Below.size hC)),h3,h2⟩)
     ·have r4 : RdO W' (a'.tmps.getD 101 undef) O4:=(hF 101 (by decide +kernel)).1 (by decide)
      have r5 : RdO W' (a'.tmps.getD 108 undef) O5:=(hF 108 (by decide +kernel)).1 (by decide)
      exact H.Tl.st_call 109 25 _ rfl (H.Tl.wanted_none rfl) (rn_call2 rfl rfl rfl rfl (ens25 _)) ((HFG.out W' _ _ r4 r5).mono fun e w'' h=>⟨_,h.1,Below.trans hC (h.2.mono (Below.size hC)),h.2,rfl⟩)
     intro v wB hw hv
     have v109 : v 109 = .bool fo:=hv 109 (by decide)
     have HOB:=hid (HO3.out.below hw)
     have HXB:=hid (HX3.out.below hw HX3.out.lt)
     have HBB : Hid (Below w.heap.size w wB):=hid (HB3.out.trans (Below.mono hw HB3.out.size))
     clear hv hw HT4 HT5 HFG HC3 HO3 HX3 HB3
     simp only [H.Tl.fill,v109,List.drop_succ_cons,List.drop_zero,wpList]
     simp only [Act.put,List.setIfInBounds_toArray,List.set_cons_succ,List.set_cons_zero]
     clear v109
     cases fo with
     | true =>
      go_wp2_with fail
      go_roundg g1
      case measure=>omega
      case rel=>exact ⟨k + 1,V,r,by omega,by first | rfl | simp,rfl,hid HOB.out.back,HLW,HC,HRM,hid fun hh=>HRF.out fun f' hf'=>hh f' (by rw [List.take_add_one]; exact List.mem_append_left _ hf'),HXB⟩
     | false =>
      have HFAIR:=hid (forged_fair HFO.out.symm)
      have d0:=HCE.out _ HBB.out 0 _ rfl
      have d1:=HCE.out _ HBB.out 1 _ rfl
      have d2:=HCE.out _ HBB.out 2 _ rfl
      have d3:=HCE.out _ HBB.out 3 _ rfl
      have d4:=HCE.out _ HBB.out 4 _ rfl
      simp only [Nat.add_zero] at d0
      go_wp2_with fail
      refine strikeB HOB.out.back HLW.out.fit HOK.out (Prod.eta _).symm _ ?_
      intro w6 h6 k6
      have HW6:=hid h6
      have HX6:=hid (k6.has rfl HXB.out)
      have HL6:=hid (HLW.out.strike (V':=(strikeW V fk ft fn fa fc).2) HOK.out.2.1 (.inr ⟨HFAIR.out,rfl⟩))
      have HC6 : Hid ((strikeW V fk ft fn fa fc).2.calls = 6):=hid (by rw [strikeW_calls]; exact HC.out)
      have HR6 : Hid (fk ≠ 7 -> r = true -> ∀ x ∈ (strikeW V fk ft fn fa fc).2.l,x.st.room = none):=hid fun h7 hr=>strikeW_all (P:=fun s=>s.room = none) (fun s hs=>by rw [strikeS_room s h7]; exact hs) (HRM.out hr)
      have HF6 : Hid ((∀ f ∈ fl.take (k + 1),f.k ≠ 6) -> ∀ x ∈ (strikeW V fk ft fn fa fc).2.l,x.st.refuse = none):=hid fun hh=>strikeW_all (P:=fun s=>s.refuse = none) (fun s hs=>by rw [strikeS_refuse s (hh ⟨fk,ft,fn,fa,fc⟩ (by rw [List.take_add_one,HF.out]; simp))]; exact hs) (HRF.out fun f' hf'=>hh f' (by rw [List.take_add_one]; exact List.mem_append_left _ hf'))
      clear h6 k6 HOB HXB HLW HC HRM HRF d0 d1 d2 d3 d4 HFAIR HFO
      have d0:=HCE.out _ HW6.out.base 0 _ rfl
      simp only [Nat.add_zero] at d0
      cases r with
      | false =>
       go_wp2_with fail
       go_roundg g1
       case measure=>omega
       case rel=>exact ⟨k + 1,_,false,by omega,by first | rfl | simp,rfl,HW6,HL6,HC6,hid (fun h=>Bool.noConfusion h),HF6,HX6⟩
      | true =>
       by_cases h7 : fk = 7
       ·have q7 : (fk != 7) = false:=by rw [h7]; rfl
        clear h7
        go_wp2_with fail
        go_roundg g1
        case measure=>omega
        case rel=>exact ⟨k + 1,_,false,by omega,by first | rfl | simp,by first | rfl | simp,HW6,HL6,HC6,hid (fun h=>Bool.noConfusion h),HF6,HX6⟩
       ·have q7 : (fk != 7) = true:=by rw [bne_iff_ne]; exact h7
        have HR7 : Hid (true = true -> ∀ x ∈ (strikeW V fk ft fn fa fc).2.l,x.st.room = none):=hid fun _=>HR6.out h7 (by first | rfl | trivial)
        clear h7
        go_wp2_with fail
        go_roundg g1
        case measure=>omega
        case rel=>exact ⟨k + 1,_,true,by omega,by first | rfl | simp,by first | rfl | simp,HW6,HL6,HC6,hid (fun _=>HR7.out (by first | rfl | trivial)),HF6,HX6⟩
    | zero =>
     have q1 : ¬ ((k : Int) < (L1 : Int)):=by omega
     have HRF' : Hid ((∀ f ∈ fl,f.k ≠ 6) -> ∀ x ∈ V.l,x.st.refuse = none):=hid (by
      have:=HRF.out
      rw [List.take_of_length_le (by have:=HL1.out; omega)] at this
      exact this)
     clear HRF
     obtain ⟨c0,c1,f0,f1⟩:=two_cells HX.out
     go_wp2_with fail
     refine of_n (n:=3) HW.out HL.out HLW.out HM3.out rfl _ ?_
     intro w2 g1 h2 k2 hg1 hge1
     have HW2:=hid h2
     have HX2:=hid (k2.has rfl HX.out)
     have HG1:=hid hg1
     have HLV1 : Hid (LeftW (kk : Int) 3 bl 3 { V with calls:=V.calls + 3 }):=hid (HLW.out.more (by rw [HC.out]; decide))
     have HC2 : Hid (({ V with calls:=V.calls + 3 } : Wd).calls = 9):=hid (by show V.calls + 3 = 9; rw [HC.out])
     have HRM2 : Hid (r = true -> ∀ x ∈ ({ V with calls:=V.calls + 3 } : Wd).l,x.st.room = none):=HRM
     have HRF2 : Hid ((∀ f ∈ fl,f.k ≠ 6) -> ∀ x ∈ ({ V with calls:=V.calls + 3 } : Wd).l,x.st.refuse = none):=HRF'
     have hS1 : sdL (kk : Int) 3 (dig bl) V.l = sdL (kk : Int) 3 (dig bl) ({ V with calls:=V.calls + 3 } : Wd).l:=rfl
     rw [hS1] at HG1
     clear h2 k2 hg1 hge1 HW HX HLW HC HRM HRF' c0 c1 f0 f1 hS1
     generalize ({ V with calls:=V.calls + 3 } : Wd) = V1 at *
     go_wp2_with fail
     refine (HW2.out.copy (by rw [HLV1.out.len]; decide) (fun x hx=>Nat.le_trans (HLV1.out.fit x hx).writes (by decide))).mono ?_
     rintro _ w3 ⟨b3,rfl,l',h3,hsk,hb3⟩
     have HSK:=hid hsk
     have HY3 : Hid (Yng w2.heap.size w3.heap.size w w3 b3 { V1 with l:=l' }):=hid (by
      obtain ⟨S,g,a1,a2,a3,_⟩:=h3
      exact ⟨S,g,a1,fun i hi=>⟨a2 i hi,a1.bound i hi⟩,HW2.out.base.trans (a3.mono HW2.out.base.size),Nat.le_refl _⟩)
     have HW3:=hid (HW2.out.new hb3)
     have HX3:=hid (HX2.out.below hb3 HX2.out.lt)
     have HG3:=hid (HG1.out.below hb3 HG1.out.lt)
     clear h3 hsk hb3 HW2 HX2 HG1
     obtain ⟨c0,c1,f0,f1⟩:=two_cells HX3.out
     unfold ptr
     go_wp2_with fail
     refine mend_all HW3.out HL.out HLV1.out (by rw [HC2.out]; decide) HM3.out HBL.out HB1.out _ ?_
     intro m e V4 w4 hM h4 k4
     have HMN:=hid hM
     have HW4:=hid h4
     have HX4:=hid (k4.has (.inl (.inl rfl)) HX3.out)
     have HG4:=hid (k4.has (.inl (.inr rfl)) HG3.out)
     have HY4:=hid (HY3.out.kept k4 (fun i h1 h2=>.inr ⟨h1,h2⟩) h4.base)
     clear hM h4 k4 c0 c1 f0 f1 HW3 HX3 HG3 HY3
     obtain ⟨c0,c1,f0,f1⟩:=two_cells HX4.out
     go_wp2_with fail
     refine of_n (n:=3) HW4.out HL.out HMN.out.left HM3.out rfl _ ?_
     intro w5 g2 h5 k5 hg2 hge2
     have HW5:=hid h5
     have HX5:=hid (k5.has (.inl (.inl rfl)) HX4.out)
     have HG5:=hid (k5.has (.inl (.inr rfl)) HG4.out)
     have HY5:=hid (HY4.out.kept k5 (fun i h1 h2=>.inr ⟨h1,h2⟩) h5.base)
     have HA5:=hid hg2
     clear h5 k5 hg2 hge2 c0 c1 f0 f1 HW4 HX4 HG4 HY4
     obtain ⟨lA,hlA⟩ : ∃ lA,lA = sdL (kk : Int) 3 (dig bl) V1.l:=⟨_,rfl⟩
     obtain ⟨lB,hlB⟩ : ∃ lB,lB = sdL (kk : Int) 3 (dig bl) V4.l:=⟨_,rfl⟩
     have HlA:=hid hlA
     have HlB:=hid hlB
     have hA3 : lA.length = 3:=by rw [hlA,sdL_len]; exact HLV1.out.len
     have hB3 : lB.length = 3:=by rw [hlB,sdL_len]; exact HMN.out.left.len
     rw [<- hlA] at HG5
     rw [<- hlB] at HA5
     obtain ⟨cA,hcA⟩ : ∃ cA,cA = cntT lA:=⟨_,rfl⟩
     obtain ⟨cB,hcB⟩ : ∃ cB,cB = cntT lB:=⟨_,rfl⟩
     have HCA : Hid (∀ W,Below w5.heap.size w5 W -> Calls Tryz.prog 27 #[.slice (some ⟨g1,0,none⟩) 3 3] W fun e w'=>e = .returned (.int .i64 (cA : Int)) /\ w' = W):=hid fun W hW=>by rw [hcA]; exact countL_any (HG5.out.below hW HG5.out.lt) hA3 (by decide)
     have HCB : Hid (∀ W,Below w5.heap.size w5 W -> Calls Tryz.prog 27 #[.slice (some ⟨g2,0,none⟩) 3 3] W fun e w'=>e = .returned (.int .i64 (cB : Int)) /\ w' = W):=hid fun W hW=>by rw [hcB]; exact countL_any (HA5.out.below hW HA5.out.lt) hB3 (by decide)
     have HcA:=hid hcA
     have HcB:=hid hcB
     have mC : m + cA = cB:=by rw [hcA,hcB,hlA,hlB]; exact HMN.out.cnt
     have mO : e = 0 ↔ cB = 3:=by rw [hcB,hlB]; exact HMN.out.ok
     have mK : ∀ i,lA.getD i false = true -> lB.getD i false = true:=by rw [hlA,hlB]; exact HMN.out.kept
     have mL : (cA : Int) < (kk : Int) -> e = 54 /\ m = 0:=by rw [hcA,hlA]; exact HMN.out.lost
     have mE : ¬ (cA : Int) < (kk : Int) -> e = 0 \/ e = 52 \/ e = 53:=by rw [hcA,hlA]; exact HMN.out.errs
     have mF : ¬ (cA : Int) < (kk : Int) -> (∀ x ∈ V1.l,Free x.st) -> e = 0:=by rw [hcA,hlA]; exact HMN.out.free
     have c3 : cB <= 3:=by rw [hcB]; have:=cntT_le lB; omega
     have MC:=hid mC
     have MO:=hid mO
     have MK:=hid mK
     have ML:=hid mL
     have ME:=hid mE
     have MF:=hid mF
     have CB3:=hid c3
     clear hlA hlB hcA hcB mC mO mK mL mE mF c3 hA3 hB3
     go_upto_region 30 with fail
     go_cut [168] from 150 (fun v wx=>v = .bool false /\ wx = w5)
     case first =>
      have wB : IntKind.i64.wrap ((cB : Int) - (cA : Int)) = (m : Int):=by
       have h1:=MC.out
       have h2:=CB3.out
       rw [<- h1]
       have : ((m + cA : Nat) : Int) - (cA : Int) = (m : Int):=by omega
       rw [this]
       exact H.wrap_i64_of (by omega) (by omega)
      have HwB:=hid wB
      clear wB
      by_cases he : e = 0
      ·have h3 : cB = 3:=MO.out.1 he
       have qE : (e == 0) = true:=by rw [he]; rfl
       have q3 : ((cB : Int) == 3) = true:=by rw [h3]; rfl
       clear he h3
       go_wp2_with fail
       refine (HCB.out _ (Below.refl _ _)).mono ?_
       rintro _ _ ⟨rfl,rfl⟩
       go_wp2_with fail
       refine (HCB.out _ (Below.refl _ _)).mono ?_
       rintro _ _ ⟨rfl,rfl⟩
       go_wp2_with fail
       refine (HCA.out _ (Below.refl _ _)).mono ?_
       rintro _ _ ⟨rfl,rfl⟩
       have wB:=HwB.out
       go_wp2_with fail
       go_meet
       exact ⟨rfl,rfl⟩
      ·have h3 : ¬ cB = 3:=fun h=>he (MO.out.2 h)
       have qE : (e == 0) = false:=beq_eq_false_iff_ne.2 he
       have q3 : ((cB : Int) == 3) = false:=beq_eq_false_iff_ne.2 (by omega)
       clear he h3
       go_wp2_with fail
       refine (HCB.out _ (Below.refl _ _)).mono ?_
       rintro _ _ ⟨rfl,rfl⟩
       go_wp2_with fail
       refine (HCB.out _ (Below.refl _ _)).mono ?_
       rintro _ _ ⟨rfl,rfl⟩
       go_wp2_with fail
       refine (HCA.out _ (Below.refl _ _)).mono ?_
       rintro _ _ ⟨rfl,rfl⟩
       have wB:=HwB.out
       go_wp2_with fail
       go_meet
       exact ⟨rfl,rfl⟩
     case rest =>
      obtain ⟨rfl,rfl⟩:=hcut
      go_wp2_with fail
      go_loopg [23] 3 (fun gk s23 wx=>∃ k : Nat,k + gk = 3 /\ s23 = .int .i64 (k : Int) /\ wx = wc)
      case atStart=>exact ⟨0,by omega,rfl,rfl⟩
      case round =>
       obtain ⟨j,hj,rfl,rfl⟩:=hrel
       cases gk with
       | succ g3 =>
        have q3 : (j : Int) < 3:=by omega
        have wj : IntKind.i64.wrap ((j : Int) + 1) = ((j + 1 : Nat) : Int):=wrapN (b:=1) (by omega)
        have hj3 : j < 3:=by omega
        have bA:=bcell HG5.out (i:=j) (by rw [HlA.out,sdL_len,HLV1.out.len]; exact hj3)
        have bB:=bcell HA5.out (i:=j) (by rw [HlB.out,sdL_len,HMN.out.left.len]; exact hj3)
        have hkp:=MK.out j
        generalize lA.getD j false = xA at *
        generalize lB.getD j false = xB at *
        cases xA with
        | false =>
         clear hkp
         go_wp2_with fail
         go_roundg g3
         case measure=>omega
         case rel=>exact ⟨j + 1,by omega,by first | rfl | simp,rfl⟩
        | true =>
         obtain rfl : xB = true:=hkp rfl
         clear hkp
         go_wp2_with fail
         go_roundg g3
         case measure=>omega
         case rel=>exact ⟨j + 1,by omega,by first | rfl | simp,rfl⟩
       | zero =>
        have q3 : ¬ (j : Int) < 3:=by omega
        go_wp2_with fail
        refine H.Tl.wp_tail_lit (by kernel_rfl) 5 [184,185,186,187,188] 256 rfl (by kernel_rfl) (fun W=>Below wr.heap.size wr W) (fun d v _=>v = ltV g1 q (cA : Int) (kk : Int) d) (fun _ _ _ _ h _=>h) ((Below.refl _ _).drew)
         ⟨fun a' W' hC hF=>?_,fun a' W' hC hF=>?_,fun a' W' hC hF=>?_,fun a' W' hC hF=>?_,fun a' W' hC hF=>?_,trivial⟩ ?_
        ·exact H.Tl.st_v 184 _ rfl rfl hC rfl (rn_move rfl ((hF 18 (by decide +kernel)).2 (by decide)))
        ·exact H.Tl.st_call 185 27 _ rfl (H.Tl.wanted_none rfl) (rn_call1b rfl rfl ((hF 184 (by decide +kernel)).1 (by decide)) (ens27 _)) ((HCA.out W' hC).mono fun e w'' h=>⟨_,h.1,by rw [h.2]; exact hC,by rw [h.2]; exact Below.refl _ _,rfl⟩)
        ·exact H.Tl.st_v 186 _ rfl rfl hC rfl (rn_f23_0 rfl ((hF 10 (by decide +kernel)).2 (by decide)))
        ·exact H.Tl.st_v 187 _ rfl rfl hC rfl (rn_load3 rfl ((hF 186 (by decide +kernel)).1 (by decide)) ((HX5.out.below hC HX5.out.lt).cell 0))
        ·exact H.Tl.st_v 188 _ rfl rfl hC rfl (rn_lss3b rfl ((hF 185 (by decide +kernel)).1 (by decide)) ((hF 187 (by decide +kernel)).1 (by decide)))
        intro v wB hw hv
        have v188 : v 188 = .bool (decide ((cA : Int) < (kk : Int))):=hv 188 (by decide)
        have HWB:=hid (HW5.out.below hw)
        have HXB:=hid (HX5.out.below hw HX5.out.lt)
        have HYB:=hid (HY5.out.below hw)
        clear hv hw HW5 HX5 HY5 HCA HCB HG5 HA5
        simp only [H.Tl.fill,v188,List.drop_succ_cons,List.drop_zero,wpList]
        simp only [Act.put,List.setIfInBounds_toArray,List.set_cons_succ,List.set_cons_zero]
        clear v188
        by_cases hlt : (cA : Int) < (kk : Int)
        ·obtain ⟨rfl,rfl⟩:=ML.out hlt
         rw [decide_eq_true hlt]
         clear hlt
         go_wp2_with fail
         go_ret
         exact ⟨rfl,HWB.out.base⟩
        rw [decide_eq_false hlt]
        have HER:=hid (ME.out (by omega))
        have HFR:=hid (MF.out (by omega))
        clear hlt ME MF ML
        go_wp2_with fail
        go_loopg [24,25] 3 (fun gk s24 s25 wx=>∃ (j : Nat) (fr : Bool),j + gk = 3 /\ s25 = .int .i64 (j : Int) /\ s24 = .bool fr /\ wx = wB /\ Hid (fr = true -> r = true /\ ∀ i : Nat,i < j -> upW { V1 with l:=l' } (i : Int) = true))
        case atStart=>exact ⟨0,r,by omega,rfl,rfl,rfl,hid fun h=>⟨h,fun i hi=>by omega⟩⟩
        case round =>
         obtain ⟨j2,fr,hj2,rfl,rfl,rfl,HFRE⟩:=hrel
         cases gk with
         | succ g3 =>
          have q4 : (j2 : Int) < 3:=by omega
          have wj : IntKind.i64.wrap ((j2 : Int) + 1) = ((j2 + 1 : Nat) : Int):=wrapN (b:=1) (by omega)
          cases fr with
          | false =>
           go_wp2_with fail
           go_roundg g3
           case measure=>omega
           case rel=>exact ⟨j2 + 1,false,by omega,by first | rfl | simp,rfl,rfl,hid (fun h=>Bool.noConfusion h)⟩
          | true =>
           go_wp2_with fail
           refine (HYB.out.up (j2 : Int)).mono ?_
           rintro _ _ ⟨rfl,rfl⟩
           obtain ⟨up,hup⟩ : ∃ up,up = upW { V1 with l:=l' } (j2 : Int):=⟨_,rfl⟩
           have HUP:=hid hup
           rw [<- hup]
           clear hup
           have HNX : Hid (up = true -> r = true /\ ∀ i : Nat,i < j2 + 1 -> upW { V1 with l:=l' } (i : Int) = true):=hid fun hu=>by
            obtain ⟨a1,a2⟩:=HFRE.out (by first | rfl | trivial)
            refine ⟨a1,fun i hi=>?_⟩
            by_cases hij : i = j2
            ·rw [hij,<- HUP.out]; exact hu
            ·exact a2 i (by omega)
           clear HFRE HUP
           go_wp2_with fail
           go_roundg g3
           case measure=>omega
           case rel=>exact ⟨j2 + 1,up,by omega,by first | rfl | simp,by first | rfl | simp,rfl,HNX⟩
         | zero =>
          have q4 : ¬ (j2 : Int) < 3:=by omega
          obtain rfl : j2 = 3:=by omega
          go_wp2_with fail
          go_loopg [26,27] L1 (fun gk s26 s27 wx=>∃ (j : Nat) (rf : Bool),j + gk = L1 /\ s27 = .int .i64 (j : Int) /\ s26 = .bool rf /\ wx = wr /\ Hid (rf = false -> ∀ f ∈ fl.take j,f.k ≠ 6))
          case atStart=>exact ⟨0,false,by omega,rfl,rfl,rfl,hid fun _ f hf=>by simp at hf⟩
          case round =>
           obtain ⟨j5,rf,hj5,rfl,rfl,rfl,HRFU⟩:=hrel
           cases gk with
           | succ g5 =>
            have q5 : (j5 : Int) < (L1 : Int):=by omega
            have wj : IntKind.i64.wrap ((j5 : Int) + 1) = ((j5 + 1 : Nat) : Int):=wrapN (b:=1) (by omega)
            cases rf with
            | true =>
             go_wp2_with fail
             go_roundg g5
             case measure=>omega
             case rel=>exact ⟨j5 + 1,true,by omega,by first | rfl | simp,rfl,rfl,hid (fun h=>Bool.noConfusion h)⟩
            | false =>
             obtain ⟨f,hf⟩ : ∃ f,fl[j5]? = some f:=⟨_,List.getElem?_eq_getElem (by have:=HL1.out; omega)⟩
             obtain ⟨g,o,c9,hv,hok,hcell⟩:=RdF.at HFL.out HWB.out.base hf
             rw [HL1.out] at hv
             cases hv
             have d0:=hcell 0 _ rfl
             simp only [Nat.add_zero] at d0
             have HNX : Hid (f.k ≠ 6 -> ∀ f' ∈ fl.take (j5 + 1),f'.k ≠ 6):=hid fun h6 f' hf'=>by
              rw [List.take_add_one,hf] at hf'
              rcases List.mem_append.1 hf' with h | h
              ·exact HRFU.out (by first | rfl | trivial) f' h
              ·simp at h; rw [h]; exact h6
             clear hcell hf hok HRFU
             obtain ⟨fk,ft,fn,fa,fc⟩:=f
             simp only at d0 HNX
             by_cases h6 : fk = 6
             ·have q6 : (fk == 6) = true:=by rw [h6]; rfl
              clear h6 HNX
              go_wp2_with fail
              go_roundg g5
              case measure=>omega
              case rel=>exact ⟨j5 + 1,true,by omega,by first | rfl | simp,by first | rfl | simp,rfl,hid (fun h=>Bool.noConfusion h)⟩
             ·have q6 : (fk == 6) = false:=beq_eq_false_iff_ne.2 h6
              have HNY:=hid (HNX.out h6)
              clear h6 HNX
              go_wp2_with fail
              go_roundg g5
              case measure=>omega
              case rel=>exact ⟨j5 + 1,false,by omega,by first | rfl | simp,by first | rfl | simp,rfl,hid fun _=>HNY.out⟩
           | zero =>
            have q5 : ¬ (j5 : Int) < (L1 : Int):=by omega
            have HEZ : Hid (fr = true -> rf = false -> e = 0):=hid fun h1 h2=>by
             obtain ⟨a1,a2⟩:=HFRE.out h1
             have a3:=HRFU.out h2
             rw [List.take_of_length_le (by have:=HL1.out; omega)] at a3
             refine HFR.out fun x hx=>?_
             obtain ⟨i,hi,rfl⟩:=List.getElem_of_mem hx
             have hi3 : i < 3:=by have:=HLV1.out.len; omega
             obtain ⟨y,hy,hst,_⟩:=sameK_at HSK.out (List.getElem?_eq_getElem hi)
             have hu:=a2 i hi3
             rw [up_at (V:={ V1 with l:=l' }) hy] at hu
             refine ⟨?_,HRF2.out a3 _ hx,HRM2.out a1 _ hx⟩
             rw [<- hst]
             simpa using hu
            clear HFRE HRFU HFR HSK HRF2 HRM2
            go_upto_region 49 with fail
            go_cut [229] from 221 (fun v wx=>v = .bool false /\ wx = wr)
            case first =>
             cases fr with
             | false =>
              go_wp2_with fail
              go_meet
              exact ⟨rfl,rfl⟩
             | true =>
              cases rf with
              | true =>
               go_wp2_with fail
               go_meet
               exact ⟨rfl,rfl⟩
              | false =>
               obtain rfl : e = 0:=HEZ.out (by first | rfl | trivial) (by first | rfl | trivial)
               go_wp2_with fail
               go_meet
               exact ⟨rfl,rfl⟩
            case rest =>
             obtain ⟨rfl,rfl⟩:=hcut
             clear HEZ
             by_cases he : e = 0
             ·subst he
              have h3 : cB = 3:=MO.out.1 rfl
              go_wp2_with fail
              have HLB : Hid (LeftW (kk : Int) 3 bl 3 { V4 with calls:=V4.calls + 3 }):=hid (HMN.out.left.more (by have:=HMN.out.calls; have:=HC2.out; omega))
              have HCR:=HWB.out.crash (by rw [HLB.out.len]; decide) HLB.out.fit2 (by decide) _ sv HSV.out (by rw [HL2.out]; exact HSL.out)
              unfold ptr W.er at HCR
              refine HCR.mono ?_
              clear HCR
              rintro _ w7 ⟨rfl,h7,k7⟩
              have HW7:=hid h7
              have HX7:=hid (k7.has (.inl (.inl (.inl rfl))) HXB.out)
              have HL7:=hid (HLB.out.crash sv)
              have HS7 : Hid (cntT (sdL (kk : Int) 3 (dig bl) (crashW { V4 with calls:=V4.calls + 3 } sv).l) = 3):=hid (by
               rw [sdL_crash HLB.out]
               show cntT (sdL (kk : Int) 3 (dig bl) V4.l) = 3
               rw [<- HlB.out,<- HcB.out]
               exact h3)
              clear h7 k7 HWB HXB HYB HMN h3
              obtain ⟨c0,c1,f0,f1⟩:=two_cells HX7.out
              go_wp2_with fail
              refine of_n (n:=3) HW7.out HL.out HL7.out HM3.out rfl _ ?_
              intro w8 g8 h8 k8 hg8 hge8
              have HE8:=hid h8.base
              have hct:=countL_any (n:=3) hg8 (by rw [sdL_len]; exact HL7.out.len) (by decide)
              rw [HS7.out] at hct
              have HCT:=hid hct
              clear h8 k8 hg8 hge8 hct c0 c1 f0 f1 HW7 HX7
              go_wp2_with fail
              refine HCT.out.mono ?_
              rintro _ _ ⟨rfl,rfl⟩
              go_wp2_with fail
              go_ret
              exact ⟨rfl,HE8.out⟩
             ·have qE : (e != 0) = true:=by rw [bne_iff_ne]; exact he
              rcases HER.out with h | rfl | rfl
              ·exact absurd h he
              ·go_wp2_with fail
               go_ret
               exact ⟨rfl,HWB.out.base⟩
              ·go_wp2_with fail
               go_ret
               exact ⟨rfl,HWB.out.base⟩
end Go.Proofs.YteapbbaollmniaaGreatDoor
