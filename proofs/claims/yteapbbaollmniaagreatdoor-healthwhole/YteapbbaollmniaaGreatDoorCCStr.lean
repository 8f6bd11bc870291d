/- addUp: to each of some pieces the products of its row's numbers and other pieces are added. -/
import Derived.Test.YteapbbaollmniaaGreatDoorCCProd
import Derived.Lib.AppendStr
namespace Go.Proofs.YteapbbaollmniaaGreatDoor.C
open Go.RowKit
/-- i rows are done, and of the next one j products -/
def upF (F : Nat -> Nat) (base z K : Nat) (m p : El.M) (i j : Nat) : Nat -> Nat:=fun n =>
 if base <= n then (if (n - base) / z < i then F n ^^^ El.xs K (fun l=>Fld.mul (m ((n - base) / z) l) (p l ((n - base) % z))) else if (n - base) / z = i then F n ^^^ El.xs j (fun l=>Fld.mul (m i l) (p l ((n - base) % z))) else F n) else F n
theorem upF_zero (F : Nat -> Nat) (base z K : Nat) (m p : El.M) : upF F base z K m p 0 0 = F:=by
 funext n; unfold upF
 split
 ·rw [if_neg (Nat.not_lt_zero _)]; split
  ·simp [El.xs]
  ·rfl
 ·rfl
theorem upF_row (F : Nat -> Nat) (base z K : Nat) (m p : El.M) (i : Nat) : upF F base z K m p i K = upF F base z K m p (i + 1) 0:=by
 funext n; unfold upF
 split
 ·by_cases h : (n - base) / z < i
  ·rw [if_pos h,if_pos (by omega)]
  ·rw [if_neg h]
   by_cases h2 : (n - base) / z = i
   ·rw [if_pos h2,if_pos (by omega),h2]
   ·rw [if_neg h2,if_neg (by omega)]; split
    ·simp [El.xs]
    ·rfl
 ·rfl
theorem upF_step (F : Nat -> Nat) (base z K M : Nat) (m p : El.M) (i j : Nat) (hz : 0 < z) : rowN M (addF (upF F base z K m p i j) (base + i * z) z (m i j) (p j)) = rowN M (upF F base z K m p i (j + 1)):=rowN_congr fun n _=>by
 unfold addF
 by_cases h : base + i * z <= n /\ n < base + i * z + z
 ·rw [if_pos h]
  obtain ⟨t,rfl⟩ : ∃ t,n = base + (i * z + t):=⟨n - (base + i * z),by omega⟩
  have ht : t < z:=by omega
  have e1 : base + (i * z + t) - base = i * z + t:=by omega
  obtain ⟨e2,e3⟩:=at_div (i:=i) ht
  rw [show base + (i * z + t) - (base + i * z) = t by omega]
  simp only [upF,e1,e2,e3,Nat.lt_irrefl,if_false,if_true,Nat.le_add_right,El.xs]
  rw [Nat.xor_assoc]
 ·rw [if_neg h]
  unfold upF
  by_cases hb : base <= n
  ·rw [if_pos hb,if_pos hb]
   have hne : (n - base) / z ≠ i:=fun e=>h (by
    have h1:=Nat.div_add_mod (n - base) z
    have h2:=Nat.mod_lt (n - base) hz
    rw [e,Nat.mul_comm] at h1
    omega)
   rw [if_neg hne,if_neg hne]
  ·rw [if_neg hb,if_neg hb]
theorem upF_lt {F : Nat -> Nat} {base z K : Nat} {m p : El.M} (hF : ∀ i,F i < 256) (i j : Nat) : ∀ n,upF F base z K m p i j n < 256:=fun n=>by
 unfold upF
 split
 ·split
  ·exact Fld.xor_lt (hF _) (El.xs_lt (fun _=>Fld.mul_lt _ _) _)
  ·split
   ·exact Fld.xor_lt (hF _) (El.xs_lt (fun _=>Fld.mul_lt _ _) _)
   ·exact hF _
 ·exact hF _
theorem upF_low (F : Nat -> Nat) (base z K : Nat) (m p : El.M) (i j n : Nat) (h : n < base) : upF F base z K m p i j n = F n:=by unfold upF; rw [if_neg (by omega)]
/-- where the pieces lie that are added -/
def From (w : World) (g z base : Nat) (F : Nat -> Nat) (gp op : Nat) (p : Nat -> Nat) : Prop :=
 (gp ≠ g /\ gp < w.heap.size /\ ∀ j,j < z -> w.cell? ⟨gp,op + j,none⟩ = some (.int .u8 (p j : Int))) \/ (gp = g /\ op + z <= base /\ ∀ j,j < z -> p j = F (op + j))
theorem addUp_none (vr vp : Value) (a : Option Addr) (c : Nat) (w : World) (hr : ∃ a n c,vr = .slice a n c) (hp : ∃ a n c,vp = .slice a n c) :
  Calls Tryz.prog 112 #[.slice a 0 c,vr,vp] w fun e w'=>e = .returned (.tuple #[]) /\ Below w.heap.size w w':=by
 obtain ⟨a1,n1,c1,rfl⟩:=hr
 obtain ⟨a2,n2,c2,rfl⟩:=hp
 go_enter Tryz.func112,Tryz.ntmps112
 go_wp2_with fail
 refine (new_any w).mono ?_
 rintro e w1 ⟨rfl,hF,b1⟩
 clear hF
 go_wp2_with fail
 go_loopg [14] 0 (fun g1 s14 wx=>s14 = .int .i64 0 /\ wx = w1)
 case atStart=>exact ⟨rfl,rfl⟩
 case round =>
  obtain ⟨rfl,rfl⟩:=hrel
  go_wp2_with fail
  go_end0
  exact ⟨rfl,b1⟩
set_option maxRecDepth 20000 in
set_option maxHeartbeats 2000000 in
theorem addUp_some (g M z R K base T1 o1 cs T2 o2 c2 gm om cm : Nat) (F : Nat -> Nat) (m : List (List Nat)) (gp op cp : Nat -> Nat) (p : El.M) (w w0 : World) (hG : Has w g (U8s (rowN M F)) 5) (hFb : ∀ i,F i < 256) (hM : M <= 1000000) (hz : 0 < z) (hR : base + R * z <= M) (hR6 : R <= 1000000) (hK6 : K <= 1000000) (hR0 : 0 < R) (hK0 : 0 < K)
  (hs : T1 ≠ g /\ T1 < w.heap.size /\ ∀ i,i < R -> w.cell? ⟨T1,o1 + i,none⟩ = some (.slice (some ⟨g,base + i * z,none⟩) z z)) (hm : Mat w0 (.slice (some ⟨gm,om,none⟩) R cm) m) (h0 : w0.heap.size <= g) (hb0 : Below w0.heap.size w0 w) (hml : m.length = R) (hmw : ∀ i,i < R -> (m.getD i []).length = K)
  (hv : T2 ≠ g /\ T2 < w.heap.size /\ ∀ j,j < K -> w.cell? ⟨T2,o2 + j,none⟩ = some (.slice (some ⟨gp j,op j,none⟩) z (cp j))) (hp : ∀ j,j < K -> From w g z base F (gp j) (op j) (p j)) (hpb : El.Byt p) :
  Calls Tryz.prog 112 #[.slice (some ⟨T1,o1,none⟩) R cs,.slice (some ⟨gm,om,none⟩) R cm,.slice (some ⟨T2,o2,none⟩) K c2] w fun e w'=>e = .returned (.tuple #[]) /\ Has w' g (U8s (rowN M (upF F base z K (at2 m) p R 0))) 5 /\ Keeps g (g + 1) w w':=by
 have hgl:=hG.lt
 have hby:=hm.byt
 have HS : Hid (∀ W,Keeps g (g + 1) w W -> ∀ i,i < R -> W.cell? ⟨T1,o1 + i,none⟩ = some (.slice (some ⟨g,base + i * z,none⟩) z z)):=fun W hk i hi=>by
  rw [cell_of (keeps_block hk hs.1 hs.2.1)]; exact hs.2.2 i hi
 have HV : Hid (∀ W,Keeps g (g + 1) w W -> ∀ j,j < K -> W.cell? ⟨T2,o2 + j,none⟩ = some (.slice (some ⟨gp j,op j,none⟩) z (cp j))):=fun W hk i hi=>by
  rw [cell_of (keeps_block hk hv.1 hv.2.1)]; exact hv.2.2 i hi
 have HM : Hid (∀ W,Keeps g (g + 1) w W -> ∀ i,i < R -> ∀ j,j < K -> ∃ gi oi ci,W.cell? ⟨gm,om + i,none⟩ = some (.slice (some ⟨gi,oi,none⟩) K ci) /\ W.cell? ⟨gi,oi + j,none⟩ = some (.int .u8 ((at2 m i j : Nat) : Int))):=fun W hk i hi j hj=>by
  obtain ⟨gm',om',cm',em,_,hgm,hcm⟩:=(hm.below (hb0.trans (hk.1.mono h0))).some (by omega)
  simp only [Value.slice.injEq,Option.some.injEq,Addr.mk.injEq] at em
  obtain ⟨⟨rfl,rfl,_⟩,_,_⟩:=em
  obtain ⟨rr,k1,hrr⟩:=hcm i (by omega)
  obtain ⟨gi,oi,ci,rfl,_,hx8,hgi,hci⟩:=hrr.some (by rw [hmw i hi]; omega)
  rw [hmw i hi] at k1 hci
  exact ⟨gi,oi,ci,k1,hci j hj⟩
 have HPA : Hid (∀ W,Keeps g (g + 1) w W -> ∀ i,i < R -> ∀ j,j < K -> PieceAt W g (base + i * z) z M (gp j) (op j) (upF F base z K (at2 m) p i j) (p j)):=fun W hk i hi j hj=>by
  rcases hp j hj with ⟨h1,h2,h3⟩ | ⟨h1,h2,h3⟩
  ·exact .inl ⟨h1,Nat.lt_of_lt_of_le h2 hk.1.size,fun t ht=>by rw [cell_of (keeps_block hk h1 h2)]; exact h3 t ht⟩
  ·have hmul : i * z <= R * z:=Nat.mul_le_mul_right _ (by omega)
   exact .inr ⟨h1,by omega,.inl (by omega),fun t ht=>by rw [h3 t ht,upF_low _ _ _ _ _ _ _ _ _ (by omega)]⟩
 have HFb:=hid hFb
 have HBY:=hid hby
 have HPB:=hid hpb
 have HG:=hid hG
 clear hp hmw hFb hby hpb hG hs hv hm hb0 hml
 go_enter Tryz.func112,Tryz.ntmps112
 go_wp2_with fail
 refine (new_any w).mono ?_
 rintro e w1 ⟨rfl,hF,b1⟩
 have K1 : Keeps g (g + 1) w w1:=Keeps.ofBelow b1 (by omega)
 have hG1 : Hid (Has w1 g (U8s (rowN M (upF F base z K (at2 m) p 0 0))) 5):=by
  unfold Hid; rw [upF_zero]; exact HG.out.below b1 hgl
 have hFw : Hid (Has w1 w.heap.size FC 261):=hF
 generalize hfb : w.heap.size = fb at *
 clear b1 hF HG
 go_wp2_with fail
 go_loopg [14] R (fun g1 s14 wx=>∃ i : Nat,i + g1 = R /\ s14 = .int .i64 (i : Int) /\ Hid (Has wx g (U8s (rowN M (upF F base z K (at2 m) p i 0))) 5) /\ Keeps g (g + 1) w1 wx)
 case atStart=>exact ⟨0,by omega,rfl,hG1,Keeps.refl _ _ _⟩
 case round =>
  obtain ⟨i,hig,rfl,hH,hKx⟩:=hrel
  clear hG1
  cases gk with
  | zero =>
   have hzz : ¬ ((i : Int) < (R : Int)):=by omega
   have hiR : i = R:=by omega
   have HE : Hid (Has wr g (U8s (rowN M (upF F base z K (at2 m) p R 0))) 5):=by unfold Hid; rw [<- hiR]; exact hH.out
   clear hH hiR
   go_wp2_with fail
   go_end0
   exact ⟨rfl,HE.out,K1.trans hKx⟩
  | succ g1 =>
   have hzz : (i : Int) < (R : Int):=by omega
   have hi : i < R:=by omega
   have q1:=HS.out wr (K1.trans hKx) i hi
   obtain ⟨wo,hwo⟩ : ∃ wo,wo = wr:=⟨_,rfl⟩
   subst hwo
   obtain ⟨oo,hoo⟩ : ∃ oo,Hid (oo = base + i * z):=⟨_,rfl⟩
   rw [<- hoo.out] at q1
   go_wp2_with fail
   go_loopg [21] K (fun g2 s21 wx=>∃ j : Nat,j + g2 = K /\ s21 = .int .i64 (j : Int) /\ Hid (Has wx g (U8s (rowN M (upF F base z K (at2 m) p i j))) 5) /\ Keeps g (g + 1) w1 wx)
   case atStart=>exact ⟨0,by omega,rfl,hH,hKx⟩
   case round =>
    obtain ⟨j,hjg,rfl,hHj,hKj⟩:=hrel
    clear hH q1
    cases gk with
    | zero =>
     have hz2 : ¬ ((j : Int) < (K : Int)):=by omega
     have hjK : j = K:=by omega
     have hHn : Hid (Has wr g (U8s (rowN M (upF F base z K (at2 m) p (i + 1) 0))) 5):=by
      unfold Hid; rw [<- upF_row]
      have:=hHj.out
      rw [hjK] at this
      exact this
     clear hHj hjK
     go_wp2_with fail
     go_roundg g1
     case measure=>omega
     case rel=>exact ⟨i + 1,by omega,by first | rfl | simp,hHn,hKj⟩
    | succ g2 =>
     have hz2 : (j : Int) < (K : Int):=by omega
     have hj : j < K:=by omega
     have hKw:=K1.trans hKj
     have q2:=HV.out wr hKw j hj
     obtain ⟨gi,oi,ci,k1,k2⟩:=HM.out wr hKw i hi j hj
     have l1:=HBY.out i j
     have hfb1:=hKj.hasNe hFw.out (by omega)
     have hfit : base + i * z + z <= M:=by
      have hmul : (i + 1) * z <= R * z:=Nat.mul_le_mul_right _ (by omega)
      rw [Nat.succ_mul] at hmul; omega
     have HHn : Hid (∀ W',Has W' g (U8s (rowN M (addF (upF F base z K (at2 m) p i j) (base + i * z) z (at2 m i j) (p j)))) 5 -> Has W' g (U8s (rowN M (upF F base z K (at2 m) p i (j + 1)))) 5):=fun W' h=>by
      rw [upF_step F base z K M (at2 m) p i j hz] at h; exact h
     have HCall:=hid (addProducts_any fb g (base + i * z) z z (gp j) (op j) (cp j) M (at2 m i j) (upF F base z K (at2 m) p i j) (p j) wr hfb1 hHj.out (by omega) hfit hM (upF_lt HFb.out i j) l1 (fun t _=>HPB.out j t) (HPA.out wr hKw i hi j hj))
     rw [<- hoo.out] at HHn HCall
     obtain ⟨tm,htm⟩ : ∃ tm,Hid (tm = at2 m i j):=⟨_,rfl⟩
     rw [<- htm.out] at HHn HCall k2 l1
     clear hHj hfb1 hfit
     go_wp2_with fail
     refine HCall.out.mono ?_
     rintro e w2 ⟨rfl,hH2,hK2⟩
     have HH2:=hid (HHn.out _ hH2)
     clear HHn hH2 HCall
     go_wp2_with fail
     go_roundg g2
     case measure=>omega
     case rel=>exact ⟨j + 1,by omega,by first | rfl | simp,HH2,hKj.trans hK2⟩
end Go.Proofs.YteapbbaollmniaaGreatDoor.C
/- More single operations, over any frame; a region whose last operation is a call. -/
namespace Go.Proofs.YteapbbaollmniaaGreatDoor.C
open Go.RowKit
/-- a call, as the last one -/
theorem st_callLast {P : Program} {Q : Exit -> Act -> World -> Prop} {o : Oper} {a : Act} {w : World} (f : FuncId) (args : Array Value) (hr : (execOp a.eval o).run P w = .ok (.enter f args) w)
  (h : Calls P f args w fun e w''=>∃ v,e = .returned v /\ Q .normal (a.put o.dst v) w'') :
  o.wp P a w (fun a'' w''=>Q .normal a'' w'') Q:=by
 unfold Oper.wp
 rw [hr,Oper.upon_enter]
 refine h.mono ?_
 rintro e w'' ⟨v,rfl,h1⟩
 exact h1
/-- a value, as the last one -/
theorem st_valLast {P : Program} {Q : Exit -> Act -> World -> Prop} {o : Oper} {a : Act} {w : World} (v : Value) (hr : (execOp a.eval o).run P w = .ok (.value v) w) (h : Q .normal (a.put o.dst v) w) :
  o.wp P a w (fun a'' w''=>Q .normal a'' w'') Q:=by
 unfold Oper.wp
 rw [hr]
 exact h
theorem rn_field24 {ev : Operand -> Value} {o : Oper} {w : World} {x : Operand} {g k : Nat} (ho : o.op = .fieldAddr 23 x k) (hk : k < 2) (hx : ev x = .pointer (some ⟨g,0,none⟩)) : (execOp ev o).run Tryz.prog w = .ok (.value (.pointer (some ⟨g,k,none⟩))) w:=by
 rcases k with _ | _ | k
 ·simp [execOp,ho,hx,go_sem]
 ·simp [execOp,ho,hx,go_sem]
 ·omega
theorem rn_load3 {ev : Operand -> Value} {o : Oper} {w : World} {x : Operand} {g k : Nat} {v : Value} (ho : o.op = .load 3 x) (hx : ev x = .pointer (some ⟨g,k,none⟩)) (hc : w.cell? ⟨g,k,none⟩ = some v) : (execOp ev o).run Tryz.prog w = .ok (.value v) w:=by
 simp [execOp,ho,hx,go_sem,hc]
theorem rn_from46 {ev : Operand -> Value} {o : Oper} {w : World} {x y : Operand} {g q n c k : Nat} (ho : o.op = .slice 166 x (some y) none none) (hx : ev x = .slice (some ⟨g,q,none⟩) n c) (hy : ev y = .int .i64 (k : Int)) (h : k < n) (hn : n <= c) : (execOp ev o).run Tryz.prog w = .ok (.value (.slice (some ⟨g,q + k,none⟩) (n - k) (c - k))) w:=by
 have h1 : (k : Int) <= (n : Int):=by omega
 have h3 : ¬ c <= k:=by omega
 simp [execOp,ho,hx,hy,go_sem,h1]
 omega
theorem rn_to46 {ev : Operand -> Value} {o : Oper} {w : World} {x y : Operand} {g q n c k : Nat} (ho : o.op = .slice 166 x none (some y) none) (hx : ev x = .slice (some ⟨g,q,none⟩) n c) (hy : ev y = .int .i64 (k : Int)) (h : k <= c) (hc : 0 < c) : (execOp ev o).run Tryz.prog w = .ok (.value (.slice (some ⟨g,q,none⟩) k c)) w:=by
 have h1 : (k : Int) <= (c : Int):=by omega
 have h3 : ¬ c = 0:=by omega
 simp [execOp,ho,hx,hy,go_sem,h1,h3]
theorem rn_all46 {ev : Operand -> Value} {o : Oper} {w : World} {x y : Operand} {g q n : Nat} (ho : o.op = .slice 166 x (some y) none none) (hx : ev x = .slice (some ⟨g,q,none⟩) n n) (hy : ev y = .int .i64 (n : Int)) : (execOp ev o).run Tryz.prog w = .ok (.value (.slice (some ⟨g,q,none⟩) 0 0)) w:=by
 simp [execOp,ho,hx,hy,go_sem]
theorem rn_rest46 {ev : Operand -> Value} {o : Oper} {w : World} {x y : Operand} {g q n k : Nat} (ho : o.op = .slice 166 x (some y) none none) (hx : ev x = .slice (some ⟨g,q,none⟩) n n) (hy : ev y = .int .i64 (k : Int)) (h : k <= n) : (execOp ev o).run Tryz.prog w = .ok (.value (.slice (if n = k then some ⟨g,q,none⟩ else some ⟨g,q + k,none⟩) (n - k) (n - k))) w:=by
 by_cases he : n = k
 ·subst he; rw [if_pos rfl,rn_all46 ho hx hy]; simp
 ·rw [if_neg he]; exact rn_from46 ho hx hy (by omega) (Nat.le_refl _)
theorem Mat.drop {w : World} {v : Value} {m : List (List Nat)} {g o n c K : Nat} (h : Mat w v m) (hv : v = .slice (Option.some ⟨g,o,none⟩) n c) (hn : m.length = n) (hK : K < n) (c' : Nat) : Mat w (.slice (Option.some ⟨g,o + K,none⟩) (n - K) c') (m.drop K):=by
 obtain ⟨g',o',cap,e,h2,hg,hc⟩:=h.some (by omega)
 rw [hv] at e
 simp only [Value.slice.injEq,Option.some.injEq,Addr.mk.injEq] at e
 obtain ⟨⟨rfl,rfl,_⟩,_,_⟩:=e
 refine ⟨_,c',by rw [List.length_drop,hn],by rw [List.length_drop]; omega,fun _=>⟨g,o + K,rfl,hg,fun j hj=>?_⟩⟩
 rw [List.length_drop] at hj
 obtain ⟨r,k1,k2⟩:=hc (K + j) (by omega)
 refine ⟨r,by rw [Nat.add_assoc]; exact k1,?_⟩
 rw [List.getD_eq_getElem?_getD,List.getElem?_drop,<- List.getD_eq_getElem?_getD]; exact k2
end Go.Proofs.YteapbbaollmniaaGreatDoor.C
/- How long payloads are: the program's Size, and the document's. -/
namespace Go.Proofs.YteapbbaollmniaaGreatDoor.C
open Go.RowKit
/-- a code -/
def cv (K N : Int) : Value:=.agg #[.int .i64 K,.int .i64 N]
def errZ (K N n : Int) : Int:=if Mx.mayC K N /\ 0 <= n then (if n <= 32768 then 0 else 40) else 1
def ansZ (K N n : Int) : Int:=if (Mx.mayC K N /\ 0 <= n) /\ n <= 32768 then ((sz K.toNat n.toNat : Nat) : Int) else 0
theorem mayC_facts {K N : Int} (h : Mx.mayC K N = true) : ∃ k n : Nat,K = (k : Int) /\ N = (n : Int) /\ 1 <= k /\ k <= n /\ n <= 12:=by
 unfold Mx.mayC at h
 have h:=of_decide_eq_true h
 exact ⟨K.toNat,N.toNat,by omega,by omega,by omega,by omega,by omega⟩
theorem size_any (K N n : Int) (w : World) :
  Calls Tryz.prog 108 #[cv K N,.int .i64 n] w fun e w'=>e = .returned (.tuple #[.int .i64 (ansZ K N n),.int .i64 (errZ K N n)]) /\ Below w.heap.size w w':=by
 have bA : Below w.heap.size w (w.alloc (.cells #[.int .i64 K,.int .i64 N] 23)):=(Below.refl _ _).alloc (Nat.le_refl _) _
 have hmc:=Mx.mayCode_any K N (w.alloc (.cells #[.int .i64 K,.int .i64 N] 23))
 cases hm : Mx.mayC K N with
 | false =>
  have e1 : Hid (errZ K N n = 1 /\ ansZ K N n = 0):=by unfold Hid errZ ansZ; rw [hm]; simp
  unfold cv
  go_enter Tryz.func108,Tryz.ntmps108
  go_wp2_with fail
  refine hmc.mono ?_
  rintro e w1 ⟨rfl,b1⟩
  rw [hm]
  go_wp2_with fail
  go_ret2
  exact ⟨by rw [e1.out.1,e1.out.2]; rfl,belowCall bA b1⟩
 | true =>
  obtain ⟨k,m,rfl,rfl,h1,h2,h3⟩:=mayC_facts hm
  by_cases hn : 0 <= n
  ·obtain ⟨n,rfl⟩ : ∃ q : Nat,n = (q : Int):=⟨n.toNat,by omega⟩
   have d0 : decide ((n : Int) < 0) = false:=by simp
   by_cases hl : n <= 32768
   ·have e1 : Hid (errZ k m n = 0 /\ ansZ k m n = ((sz k n : Nat) : Int)):=by
     unfold Hid errZ ansZ; rw [hm]; simp; omega
    have d1 : decide ((32768 : Int) < (n : Int)) = false:=by simp; omega
    have HZ : Hid ((8 + (n : Int) + (k : Int) - 1) / (k : Int) = ((sz k n : Nat) : Int)):=by
     unfold Hid sz
     rw [show (8 + (n : Int) + (k : Int) - 1) = ((8 + n + k - 1 : Nat) : Int) by omega]; rfl
    have hk0 : ((k : Int) == 0) = false:=by rw [beq_eq_false_iff_ne]; omega
    have hk1 : ¬ (k : Int) = 0:=by omega
    have hcell : ∀ i,(w.alloc (.cells #[.int .i64 (k : Int),.int .i64 (m : Int)] 23)).cell? ⟨w.heap.size,i,none⟩ = (#[.int .i64 (k : Int),.int .i64 (m : Int)] : Array Value)[i]?:=fun i=>(Has.new w w.heap.size _ 23 rfl).cell i
    have s1 : Hid (sz k n < 9223372036854775808):=by have:=sz_le k n h1; unfold Hid; omega
    unfold cv
    go_enter Tryz.func108,Tryz.ntmps108
    go_wp2_with fail
    refine hmc.mono ?_
    rintro e w1 ⟨rfl,b1⟩
    rw [hm]
    have c0 : w1.cell? ⟨w.heap.size,0,none⟩ = some (.int .i64 (k : Int)):=cell_below b1 (by simp) (hcell 0)
    go_wp2_with fail
    go_ret2
    exact ⟨by rw [e1.out.1,e1.out.2,<- HZ.out]; rfl,belowCall bA b1⟩
   ·have e1 : Hid (errZ k m n = 40 /\ ansZ k m n = 0):=by
     unfold Hid errZ ansZ; rw [hm]; simp; omega
    have d1 : decide ((32768 : Int) < (n : Int)) = true:=by simp; omega
    unfold cv
    go_enter Tryz.func108,Tryz.ntmps108
    go_wp2_with fail
    refine hmc.mono ?_
    rintro e w1 ⟨rfl,b1⟩
    rw [hm]
    go_wp2_with fail
    go_ret2
    exact ⟨by rw [e1.out.1,e1.out.2]; rfl,belowCall bA b1⟩
  ·have e1 : Hid (errZ k m n = 1 /\ ansZ k m n = 0):=by
    unfold Hid errZ ansZ; simp [hn]
   have d0 : decide (n < 0) = true:=by simp; omega
   unfold cv
   go_enter Tryz.func108,Tryz.ntmps108
   go_wp2_with fail
   refine hmc.mono ?_
   rintro e w1 ⟨rfl,b1⟩
   rw [hm]
   go_wp2_with fail
   go_ret2
   exact ⟨by rw [e1.out.1,e1.out.2]; rfl,belowCall bA b1⟩
end Go.Proofs.YteapbbaollmniaaGreatDoor.C
/- putLength and cut. -/
namespace Go.Proofs.YteapbbaollmniaaGreatDoor.C
open Go.RowKit
/-- the last k bytes of the length are written -/
def lenTo (F : Nat -> Nat) (n k : Nat) : Nat -> Nat:=fun i=>if i < 8 /\ 8 - k <= i then lenB n i else F i
theorem lenTo_zero (F : Nat -> Nat) (n : Nat) : lenTo F n 0 = F:=by funext i; unfold lenTo; rw [if_neg (by omega)]
theorem lenTo_set (F : Nat -> Nat) (n k M : Nat) (hk : k < 8) : rowN M (fun i=>if i = 7 - k then lenB n (7 - k) else lenTo F n k i) = rowN M (lenTo F n (k + 1)):=rowN_congr fun i _=>by
 unfold lenTo
 by_cases h : i = 7 - k
 ·subst h; rw [if_pos rfl,if_pos (by omega)]
 ·rw [if_neg h]
  by_cases h2 : i < 8 /\ 8 - k <= i
  ·rw [if_pos h2,if_pos (by omega)]
  ·rw [if_neg h2,if_neg (by omega)]
set_option maxRecDepth 20000 in
theorem putLength_any (g M cap n : Nat) (F : Nat -> Nat) (w : World) (hG : Has w g (U8s (rowN M F)) 5) (hM : 8 <= M) (hM6 : M <= 1000000) (_hn : n <= 32768) :
  Calls Tryz.prog 110 #[.slice (some ⟨g,0,none⟩) M cap,.int .i64 (n : Int)] w fun e w'=>e = .returned (.tuple #[]) /\ Has w' g (U8s (rowN M (lenTo F n 8))) 5 /\ Keeps g (g + 1) w w':=by
 have hG0 : Hid (Has w g (U8s (rowN M (lenTo F n 0))) 5):=by unfold Hid; rw [lenTo_zero]; exact hG
 clear hG
 go_enter Tryz.func110,Tryz.ntmps110
 go_wp2_with fail
 go_loopw [5] (fun vi wr=>∃ k : Nat,k <= 8 /\ vi = .int .i64 (k : Int) /\ Hid (Has wr g (U8s (rowN M (lenTo F n k))) 5) /\ Keeps g (g + 1) w wr) (fun vi _=>8 - (intOf vi).toNat)
 case atStart=>exact ⟨0,by omega,rfl,hG0,Keeps.refl _ _ _⟩
 case round =>
  obtain ⟨k,hk,rfl,hH,hK⟩:=hrel
  clear hG0
  by_cases hlt : k < 8
  ·have d1 : (k : Int) < 8:=by omega
   obtain ⟨q,hq⟩ : ∃ q : Nat,Hid (q = 7 - k):=⟨_,rfl⟩
   have hq':=hq.out
   have e1 : (7 : Int) - (k : Int) = (q : Int):=by omega
   have d2 : (q : Int) < (M : Int):=by omega
   have hql : q < M:=by omega
   have q1 : wr.cell? ⟨g,q,none⟩ = some (.int .u8 ((lenTo F n k q : Nat) : Int)):=by
    rw [hH.out.cell,U8s_get _ _ (by rw [rowN_length]; omega),rowN_get _ _ _ hql]
   have q2:=hH.out.frozen q
   have hS:=hH.out.set q (.int .u8 ((lenB n q : Nat) : Int))
   rw [U8s_set,rowN_set,hq.out,lenTo_set F n k M hlt,<- hq.out] at hS
   have HS:=hid hS
   have K2 : Keeps g (g + 1) w (wr.setCell ⟨g,q,none⟩ (.int .u8 ((lenB n q : Nat) : Int))):=hK.set (Nat.le_refl _) (Nat.lt_succ_self _) _
   have HB : (n : Int) / 2 ^ (8 * k) % 256 = ((lenB n q : Nat) : Int):=by
    unfold lenB
    rw [show 7 - q = k by omega,show (256 : Nat) ^ k = 2 ^ (8 * k) by rw [Nat.pow_mul]]
    simp
   have hxl:=lenB_lt n q
   generalize lenB n q = x at *
   generalize lenTo F n k q = y at *
   clear hH hS hq'
   go_wp2_with fail
   exact ⟨⟨k + 1,by omega,by simp,HS,K2⟩,by simp [intOf]; omega⟩
  ·obtain rfl : k = 8:=by omega
   go_wp2_with fail
   go_end0
   exact ⟨rfl,hH.out,hK⟩
/-- the pieces of a list -/
def cutV (g z i : Nat) : Value:=.slice (some ⟨g,i * z,none⟩) z z
def cutTo (g z C k : Nat) : Array Value:=((List.range C).map fun i=>if i < k then cutV g z i else .slice none 0 0).toArray
theorem cutTo_get (g z C k i : Nat) (hi : i < C) : (cutTo g z C k)[i]? = some (if i < k then cutV g z i else .slice none 0 0):=by simp [cutTo,hi]
theorem cutTo_zero (g z C : Nat) : noRows C = cutTo g z C 0:=by
 unfold noRows cutTo
 congr 1
 apply List.ext_getElem
 ·simp
 ·intro i h1 h2; simp
theorem cutTo_set (g z C k : Nat) : (cutTo g z C k).setIfInBounds k (cutV g z k) = cutTo g z C (k + 1):=by
 unfold cutTo
 rw [List.setIfInBounds_toArray]
 congr 1
 apply List.ext_getElem
 ·simp
 ·intro i h1 h2
  rw [List.getElem_set]
  by_cases h : k = i
  ·subst h; simp
  ·rw [if_neg h]
   simp only [List.getElem_map,List.getElem_range]
   by_cases h3 : i < k
   ·rw [if_pos h3,if_pos (by omega)]
   ·rw [if_neg h3,if_neg (by omega)]
set_option maxRecDepth 20000 in
theorem cut_any (g M cap C z : Nat) (w : World) (hC : 0 < C) (hz : 0 < z) (hC6 : C <= 1000000) (hM : M = C * z) (hcap : M <= cap) (hcap6 : cap <= 1000000) :
  Calls Tryz.prog 111 #[.slice (some ⟨g,0,none⟩) M cap,.int .i64 (C : Int)] w fun e w'=>e = .returned (.slice (some ⟨w.heap.size,0,none⟩) C C) /\ Has w' w.heap.size (cutTo g z C C) 136 /\ Below w.heap.size w w':=by
 have hmk:=makes_rows C hC6
 have hdv : (M : Int) / (C : Int) = (z : Int):=by
  rw [hM,show ((C * z : Nat) : Int) / (C : Int) = ((C * z / C : Nat) : Int) from rfl,Nat.mul_div_cancel_left _ hC]
 have hC0 : ((C : Int) == 0) = false:=by rw [beq_eq_false_iff_ne]; omega
 have hC1 : ¬ (C : Int) = 0:=by omega
 have HM:=hid hM
 have h0 : Hid (Has (w.alloc (.cells (noRows C) 136)) w.heap.size (cutTo g z C 0) 136):=by
  unfold Hid; rw [<- cutTo_zero]; exact Has.new w _ _ _ rfl
 have hz6 : z <= M:=by rw [hM]; exact Nat.le_mul_of_pos_left z hC
 clear hM
 go_enter Tryz.func111,Tryz.ntmps111
 go_wp2_with fail
 go_loopw [18] (fun vi wr=>∃ k : Nat,k <= C /\ vi = .int .i64 (k : Int) /\ Hid (Has wr w.heap.size (cutTo g z C k) 136) /\ Below w.heap.size w wr) (fun vi _=>C - (intOf vi).toNat)
 case atStart=>exact ⟨0,by omega,rfl,h0,(Below.refl _ _).alloc (Nat.le_refl _) _⟩
 case round =>
  obtain ⟨k,hk,rfl,hH,hb⟩:=hrel
  clear h0 hmk
  by_cases hlt : k < C
  ·have d1 : (k : Int) < (C : Int):=by omega
   have q1:=(hH.out.cell k).trans (cutTo_get g z C k k hlt)
   have q2:=hH.out.frozen k
   have hS:=hH.out.set k (cutV g z k)
   rw [cutTo_set] at hS
   have HS:=hid hS
   have B2 : Below w.heap.size w (wr.setCell ⟨w.heap.size,k,none⟩ (cutV g z k)):=hb.setCell (Nat.le_refl _) _
   unfold cutV at HS B2 q1
   have e2 : (k + 1) * z = k * z + z:=Nat.succ_mul k z
   have e3 : k * z + z <= M:=by rw [HM.out,<- e2]; exact Nat.mul_le_mul_right _ hlt
   have m1 : (k : Int) * (z : Int) = ((k * z : Nat) : Int):=by simp
   have m2 : ((k : Int) + 1) * (z : Int) = ((k * z + z : Nat) : Int):=by
    rw [<- e2]; simp
   generalize k * z = a at *
   have d3 : (a : Int) <= ((a + z : Nat) : Int):=by omega
   have d4 : ((a + z : Nat) : Int) <= (cap : Int):=by omega
   have ee : a + z - a = z:=by omega
   rw [if_neg (Nat.lt_irrefl k)] at q1
   have hz0 : ¬ z = 0:=by omega
   clear hH hS e2
   go_wp2_with fail
   exact ⟨⟨k + 1,by omega,by simp,HS,B2⟩,by simp [intOf]; omega⟩
  ·obtain rfl : k = C:=by omega
   go_wp2_with fail
   go_ret
   exact ⟨rfl,hH.out,hb⟩
end Go.Proofs.YteapbbaollmniaaGreatDoor.C
/- Strings by their bytes, lists of strings; what is copied out of a string into a row. -/
namespace Go.Proofs.YteapbbaollmniaaGreatDoor.C
open Go.RowKit
def bs (s : ByteArray) : List Nat:=s.data.toList.map (·.toNat)
theorem bs_length (s : ByteArray) : (bs s).length = s.size:=by simp [bs]
theorem run_copy_str {P : Program} (w : World) (dT sT ty elem : TypeId) (g o dLen dCap n : Nat) (s : ByteArray) (cur : Array Value) (t : TypeId)
  (hu : P.underlying dT = some (.slice elem)) (hs : (P.info? elem).map (·.size) = some 1) (hg : Has w g cur t) (hn : n = Nat.min s.size dLen) (hfit : o + n <= cur.size) :
  (Builtin.copy_ #[dT,sT] ty #[.slice (some ⟨g,o,none⟩) dLen dCap,.string s]).run P w = .ok (goInt n) (w.setCells g o (U8s ((bs s).take n)).toList):=by
 have hl : ((U8s ((bs s).take n)).toList).length = n:=by
  rw [Array.length_toList,U8s_size,List.length_take,bs_length,hn]
  exact Nat.min_eq_left (Nat.min_le_left _ _)
 have hst:=run_storeCells_cells (P:=P) g o (U8s ((bs s).take n)).toList 0 w
  (fun j hj=>by rw [hl] at hj; rw [hg.cell]; simp; omega) (fun j _=>hg.frozen _) (U8s_one _)
 have htk : List.take n (List.map (fun b : UInt8=>Value.int IntKind.u8 (b.toNat : Int)) s.data.toList) = (U8s ((bs s).take n)).toList:=by
  simp [U8s,bs,List.map_take]
  rfl
 simp only [Nat.add_zero] at hst
 cases hq : P.info? elem with
 | none=>simp [hq] at hs
 | some i =>
  simp [Builtin.copy_,run_underlying hu,Builtin.lenOf,Builtin.firstCells,sizeOf,typeInfo,hq]
  have hn' : min s.size dLen = n:=hn.symm
  first | rw [<- hn,htk,hst] | rw [hn',htk,hst]
  simp [Result.andThen]
theorem wpList_copy_str {P : Program} {w : World} {ops : Array Oper} {rest : List Oper} {o : Oper} {a : Act} {Q : Exit -> Act -> World -> Prop} (hgd : o.guard = none) (d s : Operand) (dT sT : TypeId)
  (ho : o.op = .call { callee:=.builtin .copy,args:=#[d,s],argTypes:=#[dT,sT] }) (elem : TypeId) (hu : P.underlying dT = some (.slice elem)) (hsz : (P.info? elem).map (·.size) = some 1)
  (g off dLen dCap n : Nat) (str : ByteArray) (cur : Array Value) (t : TypeId) (hd : a.eval d = .slice (some ⟨g,off,none⟩) dLen dCap) (hs : a.eval s = .string str)
  (hg : Has w g cur t) (hn : n = Nat.min str.size dLen) (hfit : off + n <= cur.size)
  (h : wpList P ops Q rest (a.put o.dst (goInt n)) (w.setCells g off (U8s ((bs str).take n)).toList)) : wpList P ops Q (o :: rest) a w:=by
 refine wpList_plain hgd fun K hK=>?_
 have hrun:=run_copy_str (P:=P) w dT sT o.type elem g off dLen dCap n str cur t hu hsz hg hn hfit
 unfold Oper.wp
 simp [execOp,ho,resolve,invoke,builtin,hd,hs,hrun,Result.andThen]
 exact hK _ _ h
theorem has_bytes_mid {w : World} {b : Nat} {t : TypeId} {cs vs : List Nat} (h : Has w b (U8s cs) t) (o : Nat) (hl : o + vs.length <= cs.length) :
  Has (w.setCells b o (U8s vs).toList) b (U8s (cs.take o ++ vs ++ cs.drop (o + vs.length))) t:=by
 have h1:=has_setCells_mid (U8s vs).toList o (U8s cs).toList (by simpa using h) (by simp [U8s]; omega)
 have e : (List.take o (U8s cs).toList ++ (U8s vs).toList ++ List.drop (o + (U8s vs).toList.length) (U8s cs).toList).toArray = U8s (cs.take o ++ vs ++ cs.drop (o + vs.length)):=by
  simp [U8s,List.map_take,List.map_drop]
 rw [e] at h1; exact h1
theorem bs_ofBs (l : List Nat) (h : ∀ x ∈ l,x < 256) : bs (ofBs l) = l:=by
 unfold bs ofBs
 simp only [List.map_map]
 have : List.map ((fun x : UInt8=>x.toNat) ∘ fun x : Nat=>x.toUInt8) l = List.map id l:=by
  apply List.map_congr_left
  intro x hx
  have:=h x hx
  simp [Function.comp]
  omega
 rw [this,List.map_id]
theorem ofBs_size (l : List Nat) : (ofBs l).size = l.length:=by
 show ((l.map fun x=>x.toUInt8).toArray).size = _
 simp
/-- v reads as a list of strings -/
def Strs (w : World) (v : Value) (ls : List (List Nat)) : Prop:=∃ a cap,v = .slice a ls.length cap /\ ls.length <= 9223372036854775807 /\ (∀ i x,x ∈ ls.getD i [] -> x < 256) /\ (0 < ls.length -> ∃ g o,a = some ⟨g,o,none⟩ /\ g < w.heap.size /\ ∀ j,j < ls.length -> w.cell? ⟨g,o + j,none⟩ = some (.string (ofBs (ls.getD j []))))
theorem Strs.below {w w' : World} {v : Value} {ls : List (List Nat)} (h : Strs w v ls) (hb : Below w.heap.size w w') : Strs w' v ls:=by
 obtain ⟨a,cap,h1,h2,h3,h4⟩:=h
 refine ⟨a,cap,h1,h2,h3,fun hp=>?_⟩
 obtain ⟨g,o,e,hg,hc⟩:=h4 hp
 exact ⟨g,o,e,Nat.lt_of_lt_of_le hg hb.size,fun j hj=>cell_below hb hg (hc j hj)⟩
theorem Strs.nil (w : World) : Strs w (.slice none 0 0) []:=⟨none,0,rfl,by simp,by simp,fun h=>absurd h (by simp)⟩
theorem Strs.some {w : World} {v : Value} {ls : List (List Nat)} (h : Strs w v ls) (hp : 0 < ls.length) : ∃ g o cap,v = .slice (.some ⟨g,o,none⟩) ls.length cap /\ ls.length <= 9223372036854775807 /\ g < w.heap.size /\ ∀ j,j < ls.length -> w.cell? ⟨g,o + j,none⟩ = .some (.string (ofBs (ls.getD j []))):=by
 obtain ⟨a,cap,h1,h2,h3,h4⟩:=h
 obtain ⟨g,o,rfl,hg,hc⟩:=h4 hp
 exact ⟨g,o,cap,h1,h2,hg,hc⟩
theorem Strs.lt {w : World} {v : Value} {ls : List (List Nat)} (h : Strs w v ls) : ∀ i x,x ∈ ls.getD i [] -> x < 256:=by
 obtain ⟨a,cap,h1,h2,h3,h4⟩:=h
 exact h3
/-- the first k of n strings are told -/
def strTo (n : Nat) (f : Nat -> List Nat) (k : Nat) : Array Value:=((List.range n).map fun i=>Value.string (if i < k then ofBs (f i) else ⟨#[]⟩)).toArray
theorem strTo_get (n : Nat) (f : Nat -> List Nat) (k i : Nat) (hi : i < n) : (strTo n f k)[i]? = some (.string (if i < k then ofBs (f i) else ⟨#[]⟩)):=by simp [strTo,hi]
theorem strTo_set (n : Nat) (f : Nat -> List Nat) (k : Nat) : (strTo n f k).setIfInBounds k (.string (ofBs (f k))) = strTo n f (k + 1):=by
 unfold strTo
 rw [List.setIfInBounds_toArray]
 congr 1
 apply List.ext_getElem
 ·simp
 ·intro i h1 h2
  rw [List.getElem_set]
  by_cases h : k = i
  ·subst h; simp
  ·rw [if_neg h]
   simp only [List.getElem_map,List.getElem_range]
   by_cases h3 : i < k
   ·rw [if_pos h3,if_pos (by omega)]
   ·rw [if_neg h3,if_neg (by omega)]
theorem el9 : Elem 80 9 (.string ⟨#[]⟩) 16:=⟨Tryz.underlying80,by kernel_rfl,rfl,by decide⟩
theorem makes_strs (n : Nat) (f : Nat -> List Nat) (hn : n <= 1000000) (w : World) : (Instr.makeSlice 80 (.int .i64 (n : Int)) (.int .i64 (n : Int))).run Tryz.prog w = .ok (.slice (some ⟨w.heap.size,0,none⟩) n n) (w.alloc (.cells (strTo n f 0) 9)):=by
 obtain ⟨i,hi,h1,h2,h3⟩:=el9.info
 rw [run_make w 80 9 i (.string ⟨#[]⟩) Tryz.underlying80 hi h1 .i64 .i64 (n : Int) (n : Int) (by omega) (Int.le_refl _) (by rw [h3]; omega) (by omega)]
 have e : madeCells (Value.string ⟨#[]⟩).cells (n * 1) = strTo n f 0:=by
  apply Array.toList_inj.1
  have hz : (Value.string ⟨#[]⟩).cells = #[.string ⟨#[]⟩]:=rfl
  rw [hz,Nat.mul_one]
  apply List.ext_getElem
  ·simp [madeCells,strTo]
  ·intro k h1 h2
   simp [madeCells,strTo,Nat.mod_one]
 rw [h2,Int.toNat_natCast,e]
theorem strs_of {w : World} {g n : Nat} {f : Nat -> List Nat} (h : Has w g (strTo n f n) 9) (hn : n <= 1000000) (hf : ∀ i x,x ∈ f i -> x < 256) (cap : Nat) : Strs w (.slice (some ⟨g,0,none⟩) n cap) ((List.range n).map f):=by
 refine ⟨_,cap,by simp,by simp; omega,fun i x hx=>?_,fun _=>⟨g,0,rfl,h.lt,fun j hj=>?_⟩⟩
 ·by_cases hi : i < n
  ·simp [List.getD_eq_getElem?_getD,hi] at hx; exact hf i x hx
  ·simp [List.getD_eq_getElem?_getD,hi] at hx
 ·simp only [List.length_map,List.length_range] at hj
  rw [Nat.zero_add,h.cell,strTo_get _ _ _ _ hj,if_pos hj]
  simp [List.getD_eq_getElem?_getD,hj]
end Go.Proofs.YteapbbaollmniaaGreatDoor.C
